/-
  Our own text, in the proofs of the laws of package pres (cayleylaw03). Proved here: invert of package pres, in place in a row of the call's own; conjugate of package pres; the method carryCell of dropRel; the method carry of dropRel; the method carry of dropGen. Conditions: the arguments lie in memory as the slices say; bounds; the listed tables lie as the program lays them.
-/
import Derived.Test.YteephomlnbbjeaaGreatDoorJl
set_option linter.unusedVariables false
set_option linter.unusedSimpArgs false
set_option linter.unusedSectionVars false
namespace Go.Proofs.YteephomlnbbjeaaGreatDoor
open Go Go.RowKit

def flipC (c : Cel) : Cel := ⟨c.conj, c.rel, !c.inv⟩
def invL (d : List Cel) : List Cel := d.reverse.map flipC
/-- The first k cells mapped. -/
def mapTo (f : Cel → Cel) (d : List Cel) (k : Nat) : List Cel := (d.take k).map f ++ d.drop k
theorem mapTo_len (f : Cel → Cel) (d : List Cel) (k : Nat) : (mapTo f d k).length = d.length := by simp [mapTo]; omega
theorem mapTo_get (f : Cel → Cel) (d : List Cel) (k : Nat) (h : k < d.length) : (mapTo f d k)[k]'(by rw [mapTo_len]; exact h) = d[k] := by
  have h1 : ((d.take k).map f).length = k := by simp; omega
  unfold mapTo
  rw [List.getElem_append_right (by omega)]
  simp [h1]
  congr 1; omega
theorem mapTo_set (f : Cel → Cel) (d : List Cel) (k : Nat) (h : k < d.length) : (mapTo f d k).set k (f d[k]) = mapTo f d (k + 1) := by
  have h1 : ((d.take k).map f).length = k := by simp; omega
  unfold mapTo
  rw [List.set_append, if_neg (by omega), h1, Nat.sub_self, List.drop_eq_getElem_cons h, List.set_cons_zero, List.take_succ_eq_append_getElem h, List.map_append, List.append_assoc]
  rfl
theorem mapTo_end (f : Cel → Cel) (d : List Cel) : mapTo f d d.length = d.map f := by simp [mapTo]
theorem mapTo_start (f : Cel → Cel) (d : List Cel) : mapTo f d 0 = d := by simp [mapTo]
theorem cs3_set2 (d : List Cel) (k : Nat) (b : Bool) (h : k < d.length) : cs3 (d.set k ⟨(d[k]).conj, (d[k]).rel, b⟩) = (cs3 d).set (k * 3 + 2) (.bool b) := by
  rw [cs3_set d k _ h]
  have g0 := cs3_get d k h 0 (by omega)
  have g1 := cs3_get d k h 1 (by omega)
  simp only [cel3, List.getElem?_cons_succ, List.getElem?_cons_zero, Nat.add_zero] at g0 g1
  obtain ⟨l0, e0⟩ := List.getElem?_eq_some_iff.1 g0
  obtain ⟨l1, e1⟩ := List.getElem?_eq_some_iff.1 g1
  rw [show (cs3 d).set (k * 3) (.string ⟨(d[k]).conj.toArray⟩) = cs3 d by rw [← e0]; exact List.set_getElem_self l0]
  rw [show (cs3 d).set (k * 3 + 1) (.int .i64 (d[k]).rel) = cs3 d by rw [← e1]; exact List.set_getElem_self l1]

set_option maxHeartbeats 2000000 in
set_option maxRecDepth 100000 in
theorem invert_any (B : Nat) (A : Option Addr) (cap : Nat) (l : List Cel) (w : World) (hown : w.ownsRow B 89 3 (.slice A l.length cap) l.length (cs3 l)) (hs : Sized l) (hn : l.length ≤ 1000000000) :
    Calls Tryz.prog 168 #[.slice A l.length cap] w fun e w' => e = .returned (.tuple #[]) ∧ w'.ownsRow B 89 3 (.slice A l.length cap) l.length (cs3 (invL l)) ∧ Below B w w' := by
  have HRV := Lib.hid (ReverseC_any B A cap l w hown hs hn)
  have HBS : Hid (B ≤ w.heap.size ∨ l.length = 0) := Lib.hid (by
    rcases own_shape hown with ⟨_, h, _⟩ | ⟨g, _, h1, h2⟩
    · exact .inr h
    · exact .inl (by omega))
  have HL : Hid (l.reverse.length = l.length) := Lib.hid (by simp)
  have HSZ : Hid (Sized l.reverse) := Lib.hid (fun c hc => hs c (by simpa using hc))
  have HI : Hid (invL l = l.reverse.map flipC) := Lib.hid rfl
  clear hown hs
  generalize l.reverse = m at *
  go_enter Tryz.func168, Tryz.ntmps168
  go_wp2_with fail
  refine HRV.out.mono ?_
  rintro e w1 ⟨rfl, hown, hb⟩
  have HO := Lib.hid hown
  have HB := Lib.hid hb
  clear hown hb
  go_wp2
  go_loopw [2, 7] (fun _ i wr => ∃ k : Nat, k ≤ l.length ∧ i = .int .i64 (k : Int) ∧ Hid (wr.ownsRow B 89 3 (.slice A l.length cap) l.length (cs3 (mapTo flipC m k))) ∧ Hid (Below B w wr)) (fun _ i _ => l.length - (intOf i).toNat)
  case atStart => exact ⟨0, Nat.zero_le _, rfl, Lib.hid (by rw [mapTo_start]; exact HO.out), HB⟩
  case round =>
    obtain ⟨k, hk, rfl, HOW, HBW⟩ := hrel
    by_cases hlt : k < l.length
    · have hkm : k < m.length := by rw [HL.out]; exact hlt
      have hkc : k < (mapTo flipC m k).length := by rw [mapTo_len]; exact hkm
      have HGET := Lib.hid (mapTo_get flipC m k hkm)
      have HSET := Lib.hid (mapTo_set flipC m k hkm)
      obtain ⟨g, hA⟩ : ∃ g, A = some ⟨g, 0, none⟩ := by
        rcases own_shape HOW.out with ⟨_, h, _⟩ | ⟨g, h, _⟩
        · omega
        · exact ⟨g, h⟩
      subst hA
      have g2 := cs3_get (mapTo flipC m k) k hkc 2 (by omega)
      simp only [cel3, List.getElem?_cons_succ, List.getElem?_cons_zero] at g2
      rw [HGET.out] at g2
      have hc2 : wr.cell? ⟨g, k * 3 + 2, none⟩ = some (.bool (m[k]).inv) := by rw [HOW.out.cellAt _ (by omega)]; exact g2
      have f2 := HOW.out.frozenAt (k * 3 + 2)
      have HST := Lib.hid (HOW.out.stored (k * 3 + 2) (.bool (!(m[k]).inv)))
      have HEQ : Hid (cs3 (mapTo flipC m (k + 1)) = (cs3 (mapTo flipC m k)).set (k * 3 + 2) (.bool (!(m[k]).inv))) := Lib.hid (by
        rw [← HSET.out, ← cs3_set2 (mapTo flipC m k) k (!(m[k]).inv) hkc, HGET.out]; rfl)
      have hgB := own_ge HOW.out _ rfl
      simp only at hgB
      have HLT := Lib.hid (HOW.out.lt g rfl).2
      clear g2 HGET HSET
      generalize (m[k]).inv = b at *
      clear hkm hkc
      go_wp2
      go_roundw
      case rel => exact ⟨k + 1, by omega, by go_num, Lib.hid (by rw [HEQ.out]; exact HST.out.1), Lib.hid (HBW.out.trans (below_set HST.out.2 B hgB (Nat.le_trans hgB (Nat.le_of_lt HLT.out))))⟩
      case measure => simp [intOf]; omega
    · obtain rfl : k = l.length := by omega
      have HZ : Hid (mapTo flipC m l.length = invL l) := Lib.hid (by rw [HI.out, ← HL.out, mapTo_end])
      go_wp2
      go_end0
      exact ⟨rfl, by rw [← HZ.out]; exact HOW.out, HBW.out⟩
end Go.Proofs.YteephomlnbbjeaaGreatDoor

namespace Go.Proofs.YteephomlnbbjeaaGreatDoor
open Go Go.RowKit

def conF (u : List UInt8) (c : Cel) : Cel := ⟨red (u ++ c.conj), c.rel, c.inv⟩
def conBig (u : List UInt8) (c : Cel) : Bool := decide (100000 < u.length + c.conj.length)
def conE (u : List UInt8) (d : List Cel) : Int := if d.any (conBig u) then 2 else 0
/-- What conjugate hands back. -/
def ConP (w : World) (u : List UInt8) (d : List Cel) (e : Ending) (w' : World) : Prop :=
  Below w.heap.size w w' ∧ if d.any (conBig u) = true then e = .returned (.tuple #[.slice none 0 0, .int .i64 2])
  else ∃ A cap, e = .returned (.tuple #[.slice A d.length cap, .int .i64 0]) ∧ w'.ownsRow w.heap.size 89 3 (.slice A d.length cap) d.length (cs3 (d.map (conF u)))

set_option maxHeartbeats 2000000 in
set_option maxRecDepth 100000 in
theorem conjugate_any (D : Option Addr) (dc : Nat) (d : List Cel) (u : List UInt8) (w : World) (ht : Tabs w) (hd : CellsAt w D d) (hD : D = none → d = []) (hn : d.length ≤ 100000) (hu : isW u = true) (hc : ∀ c ∈ d, isW c.conj = true) :
    Calls Tryz.prog 167 #[.slice D d.length dc, .string ⟨u.toArray⟩] w (ConP w u d) := by
  have hC := CloneC_any D dc d w hd hD (by omega)
  have HT := Lib.hid ht
  have HU := Lib.hid hu
  have HC := Lib.hid hc
  have hul := isW_len hu
  have hus := size_mk u
  have HSZ : Hid (Sized d) := Lib.hid (fun c hc2 => by have := isW_len (hc c hc2); omega)
  clear ht hd hD hu hc
  go_enter Tryz.func167, Tryz.ntmps167
  go_wp2_with fail
  refine hC.mono ?_
  rintro e w1 ⟨A, cap, rfl, hown, hb⟩
  have HO := Lib.hid hown
  have HB := Lib.hid hb
  clear hown hb hC
  go_wp2
  go_loopw [7, 8, 13] (fun _ _ i wr => ∃ k : Nat, k ≤ d.length ∧ i = .int .i64 (k : Int) ∧ Hid (wr.ownsRow w.heap.size 89 3 (.slice A d.length cap) d.length (cs3 (mapTo (conF u) d k))) ∧ Hid (Below w.heap.size w wr) ∧ Hid ((d.take k).any (conBig u) = false)) (fun _ _ i _ => d.length - (intOf i).toNat)
  case atStart => exact ⟨0, Nat.zero_le _, rfl, Lib.hid (by rw [mapTo_start]; exact HO.out), HB, Lib.hid rfl⟩
  case round =>
    obtain ⟨k, hk, rfl, HOW, HBW, HNB⟩ := hrel
    by_cases hlt : k < d.length
    · have hkc : k < (mapTo (conF u) d k).length := by rw [mapTo_len]; exact hlt
      have HGET := Lib.hid (mapTo_get (conF u) d k hlt)
      have HSET := Lib.hid (mapTo_set (conF u) d k hlt)
      have HANY := Lib.hid (any_take_succL d (conBig u) k hlt)
      have HYES := Lib.hid (any_yesL d (conBig u) k hlt)
      obtain ⟨g, hA⟩ : ∃ g, A = some ⟨g, 0, none⟩ := by
        rcases own_shape HOW.out with ⟨_, h, _⟩ | ⟨g, h, _⟩
        · omega
        · exact ⟨g, h⟩
      subst hA
      have g0 := cs3_get (mapTo (conF u) d k) k hkc 0 (by omega)
      have g1 := cs3_get (mapTo (conF u) d k) k hkc 1 (by omega)
      have g2 := cs3_get (mapTo (conF u) d k) k hkc 2 (by omega)
      simp only [cel3, List.getElem?_cons_succ, List.getElem?_cons_zero, Nat.add_zero] at g0 g1 g2
      rw [HGET.out] at g0 g1 g2
      have q0 : wr.cell? ⟨g, k * 3, none⟩ = some (.string ⟨(d[k]).conj.toArray⟩) := by rw [HOW.out.cellAt _ (by omega)]; exact g0
      have q1 : wr.cell? ⟨g, k * 3 + 1, none⟩ = some (.int .i64 (d[k]).rel) := by rw [HOW.out.cellAt _ (by omega)]; exact g1
      have q2 : wr.cell? ⟨g, k * 3 + 2, none⟩ = some (.bool (d[k]).inv) := by rw [HOW.out.cellAt _ (by omega)]; exact g2
      have HEQ : Hid (cs3 (mapTo (conF u) d (k + 1)) = (cs3 (mapTo (conF u) d k)).set (k * 3) (.string ⟨(red (u ++ (d[k]).conj)).toArray⟩)) := Lib.hid (by
        rw [← HSET.out, ← cs3_set0 (mapTo (conF u) d k) k (red (u ++ (d[k]).conj)) hkc, HGET.out]; rfl)
      have HCW : Hid (isW (d[k]).conj = true) := Lib.hid (HC.out _ (List.getElem_mem hlt))
      have HBG : Hid (conBig u d[k] = decide (100000 < u.length + (d[k]).conj.length)) := Lib.hid rfl
      have hgB := own_ge HOW.out _ rfl
      simp only at hgB
      have hglt := (HOW.out.lt g rfl).2
      clear g0 g1 g2 HGET HSET
      generalize d[k] = x at *
      obtain ⟨c, r, iv⟩ := x
      simp only at q0 q1 q2 HEQ HCW HBG
      clear hkc
      have hcl := isW_len HCW.out
      have hcs := size_mk c
      cases hbig : decide (100000 < u.length + c.length) with
      | true =>
        have HZ : Hid (d.any (conBig u) = true) := Lib.hid (HYES.out (by rw [HBG.out]; exact hbig))
        have hbz : 100000 < u.length + c.length := by simpa using hbig
        have hbi : decide ((100000 : Int) < (u.length : Int) + (c.length : Int)) = true := decide_eq_true (by omega)
        have hbj : (100000 : Int) < (u.length : Int) + (c.length : Int) := by omega
        have hwr : IntKind.i64.wrap ((u.length : Int) + (c.length : Int)) = (u.length : Int) + (c.length : Int) := IntWalk.i64_in _ (by omega)
        clear hbig
        go_wp2
        go_ret2
        exact ⟨HBW.out.alloc HBW.out.size _, by rw [if_pos HZ.out]; rfl⟩
      | false =>
        have hbz : ¬ 100000 < u.length + c.length := by simpa using hbig
        have hbi : decide ((100000 : Int) < (u.length : Int) + (c.length : Int)) = false := decide_eq_false (by omega)
        have hbj : ¬ (100000 : Int) < (u.length : Int) + (c.length : Int) := by omega
        have hwr : IntKind.i64.wrap ((u.length : Int) + (c.length : Int)) = (u.length : Int) + (c.length : Int) := IntWalk.i64_in _ (by omega)
        have HNB2 : Hid ((d.take (k + 1)).any (conBig u) = false) := Lib.hid (by rw [HANY.out, HNB.out, HBG.out, hbig]; rfl)
        have HB2 : Hid (Below w.heap.size w (wr.alloc (.cells (celC c r iv) 89))) := Lib.hid (HBW.out.alloc HBW.out.size _)
        have hR := Reduce_yes ⟨(u ++ c).toArray⟩ (wr.alloc (.cells (celC c r iv) 89)) (HT.out.on HB2.out) (isW_app HU.out HCW.out (by omega)) (by rw [size_mk]; simp; omega)
        change Calls Tryz.prog 118 #[.string ⟨(u ++ c).toArray⟩] _ (fun e w' => e = .returned (.string ⟨(red (u ++ c)).toArray⟩) ∧ Below (wr.alloc (.cells (celC c r iv) 89)).heap.size _ w') at hR
        have fadd : ∀ w, (Op.stringOp .add ⟨u.toArray⟩ ⟨c.toArray⟩).run Tryz.prog w = .ok (.string ⟨(u ++ c).toArray⟩) w := fun w => by
          rw [run_string_add_sum w _ _ (by rw [hus, hcs]; omega)]
          congr 2
        clear hbig
        generalize red (u ++ c) = v at *
        generalize u ++ c = uc at *
        go_wp2_with fail
        refine hR.mono ?_
        rintro e w2 ⟨rfl, hb2⟩
        have hown2 := own_on (HOW.out.alloc (.cells (celC c r iv) 89)) hb2
        have HO2 := Lib.hid hown2
        have HB3 := Lib.hid (HB2.out.trans (hb2.mono HB2.out.size))
        have x0 : w2.cell? ⟨g, k * 3, none⟩ = some (.string ⟨c.toArray⟩) := (hb2.cell (p := ⟨g, k * 3, none⟩) (by simp; omega)).trans (by rw [World.cell?_alloc_lt _ _ _ hglt]; exact q0)
        have f0 := HO2.out.frozenAt (k * 3)
        have HST := Lib.hid (HO2.out.stored (k * 3) (.string ⟨v.toArray⟩))
        have hg2 := (HO2.out.lt g rfl).2
        clear hb2 hown2 hR fadd q0 q1 q2
        go_wp2
        go_roundw
        case rel => exact ⟨k + 1, by omega, by go_num, Lib.hid (by rw [HEQ.out]; exact HST.out.1), Lib.hid (HB3.out.trans (below_set HST.out.2 w.heap.size hgB (Nat.le_trans hgB (Nat.le_of_lt hg2)))), HNB2⟩
        case measure => simp [intOf]; omega
    · obtain rfl : k = d.length := by omega
      have HZ : Hid (d.any (conBig u) = false) := Lib.hid (by have := HNB.out; rwa [List.take_length] at this)
      have HM : Hid (mapTo (conF u) d d.length = d.map (conF u)) := Lib.hid (mapTo_end _ _)
      go_wp2
      go_ret2
      exact ⟨HBW.out, by rw [if_neg (by rw [HZ.out]; decide)]; exact ⟨A, cap, rfl, by rw [← HM.out]; exact HOW.out⟩⟩
end Go.Proofs.YteephomlnbbjeaaGreatDoor

namespace Go.Proofs.YteephomlnbbjeaaGreatDoor
open Go Go.RowKit

def ccL (rel : Int) (proof : List Cel) (c : Cel) : List Cel :=
  if c.rel = rel then (if c.inv then invL (proof.map (conF c.conj)) else proof.map (conF c.conj)) else [⟨c.conj, if rel < c.rel then c.rel - 1 else c.rel, c.inv⟩]
def ccBad (rel : Int) (proof : List Cel) (c : Cel) : Bool := decide (c.rel = rel) && proof.any (conBig c.conj)
/-- What carryCell hands back. -/
def CCP (w : World) (bad : Bool) (l : List Cel) (e : Ending) (w' : World) : Prop :=
  Below w.heap.size w w' ∧ if bad = true then e = .returned (.tuple #[.slice none 0 0, .int .i64 2])
  else ∃ A cap, e = .returned (.tuple #[.slice A l.length cap, .int .i64 0]) ∧ CellsAt w' A l ∧ (A = none → l = [])
theorem invL_len (d : List Cel) : (invL d).length = d.length := by simp [invL]
theorem Sized.inv {d : List Cel} (h : Sized d) : Sized (invL d) := fun c hc => by
  simp only [invL, List.mem_map, List.mem_reverse] at hc
  obtain ⟨x, hx, rfl⟩ := hc
  exact h x hx
theorem Sized.con {d : List Cel} {u : List UInt8} (hu : u.length ≤ 100000) (hd : ∀ c ∈ d, c.conj.length ≤ 100000) : Sized (d.map (conF u)) := fun c hc => by
  obtain ⟨x, hx, rfl⟩ := List.mem_map.1 hc
  have := red_len (u ++ x.conj)
  have := hd x hx
  simp only [List.length_append] at *
  simp only [conF]; omega

set_option maxHeartbeats 2000000 in
set_option maxRecDepth 100000 in
theorem carryCell_any (k : Int) (R : Value) (rel : Int) (D : Option Addr) (dc : Nat) (proof : List Cel) (c : List UInt8) (r : Int) (iv : Bool) (w : World) (ht : Tabs w) (hd : CellsAt w D proof) (hD : D = none → proof = []) (hn : proof.length ≤ 100000) (hc : isW c = true) (hp : ∀ x ∈ proof, isW x.conj = true) (hr : -1000 ≤ r ∧ r ≤ 1000) :
    Calls Tryz.prog 139 #[.agg #[.int .i64 k, R, .int .i64 rel, .slice D proof.length dc], .agg #[.string ⟨c.toArray⟩, .int .i64 r, .bool iv]] w (CCP w (ccBad rel proof ⟨c, r, iv⟩) (ccL rel proof ⟨c, r, iv⟩)) := by
  have HT := Lib.hid ht
  have HD := Lib.hid hd
  have HDN := Lib.hid hD
  have HP := Lib.hid hp
  have HC := Lib.hid hc
  have hcl := isW_len hc
  have HB0 : Hid (Below w.heap.size w ((w.alloc (.cells #[.int .i64 k, R, .int .i64 rel, .slice D proof.length dc] 130)).alloc (.cells (celC c r iv) 89))) := Lib.hid (((Below.refl _ w).alloc (Nat.le_refl _) _).alloc (by simp) _)
  clear ht hd hD hp hc
  by_cases hrr : r = rel
  · subst hrr
    have hne : (r != r) = false := by simp
    have HL : Hid (ccL r proof ⟨c, r, iv⟩ = if iv then invL (proof.map (conF c)) else proof.map (conF c)) := Lib.hid (by unfold ccL; rw [if_pos rfl])
    have HBD : Hid (ccBad r proof ⟨c, r, iv⟩ = proof.any (conBig c)) := Lib.hid (by unfold ccBad; simp)
    have hCO := conjugate_any D dc proof c ((w.alloc (.cells #[.int .i64 k, R, .int .i64 r, .slice D proof.length dc] 130)).alloc (.cells (celC c r iv) 89)) (HT.out.on HB0.out) (HD.out.below HB0.out) HDN.out hn HC.out HP.out
    have HSZ : Hid (Sized (proof.map (conF c))) := Lib.hid (Sized.con hcl (fun x hx => isW_len (HP.out x hx)))
    have HC2 := Lib.hid ((HasCells.new (w.alloc (.cells #[.int .i64 k, R, .int .i64 r, .slice D proof.length dc] 130)) (celC c r iv) 89))
    have hsz : (w.alloc (.cells #[.int .i64 k, R, .int .i64 r, .slice D proof.length dc] 130)).heap.size = w.heap.size + 1 := by simp
    rw [hsz] at HC2
    clear hsz
    cases hbad : proof.any (conBig c) with
    | true =>
      have hCO2 : Calls Tryz.prog 167 #[.slice D proof.length dc, .string ⟨c.toArray⟩] ((w.alloc (.cells #[.int .i64 k, R, .int .i64 r, .slice D proof.length dc] 130)).alloc (.cells (celC c r iv) 89)) (fun e w' => e = .returned (.tuple #[.slice none 0 0, .int .i64 2]) ∧ Below ((w.alloc (.cells #[.int .i64 k, R, .int .i64 r, .slice D proof.length dc] 130)).alloc (.cells (celC c r iv) 89)).heap.size ((w.alloc (.cells #[.int .i64 k, R, .int .i64 r, .slice D proof.length dc] 130)).alloc (.cells (celC c r iv) 89)) w') := hCO.mono (fun e w' h => by
        obtain ⟨h1, h2⟩ := h
        rw [if_pos hbad] at h2
        exact ⟨h2, h1⟩)
      rw [hbad] at HBD
      clear hCO hbad
      go_enter Tryz.func139, Tryz.ntmps139
      go_wp2_with fail
      refine hCO2.mono ?_
      rintro e w1 ⟨rfl, hb⟩
      have HB1 := Lib.hid (HB0.out.trans (hb.mono (by simp; omega)))
      have c2 := (HC2.out.below hb).cell 2
      simp only [List.getElem?_toArray, List.getElem?_cons_zero, List.getElem?_cons_succ] at c2
      clear hb hCO2
      cases iv with
      | false =>
        go_wp2
        go_ret2
        exact ⟨HB1.out, by rw [HBD.out]; rfl⟩
      | true =>
        have hIV := invert_any w1.heap.size none 0 [] w1 (World.ownsRow_nil _ _ _ _) (fun _ h => by cases h) (by simp)
        go_wp2_with fail
        refine hIV.mono ?_
        rintro e w2 ⟨rfl, _, hb2⟩
        have HB2 := Lib.hid (HB1.out.trans (hb2.mono HB1.out.size))
        clear hb2 hIV
        go_wp2
        go_ret2
        exact ⟨HB2.out, by rw [HBD.out]; rfl⟩
    | false =>
      have HML : Hid ((proof.map (conF c)).length = proof.length) := Lib.hid (by simp)
      have hCO2 : Calls Tryz.prog 167 #[.slice D proof.length dc, .string ⟨c.toArray⟩] ((w.alloc (.cells #[.int .i64 k, R, .int .i64 r, .slice D proof.length dc] 130)).alloc (.cells (celC c r iv) 89)) (fun e w' => (∃ A cap, e = .returned (.tuple #[.slice A proof.length cap, .int .i64 0]) ∧ w'.ownsRow (w.heap.size + 2) 89 3 (.slice A proof.length cap) proof.length (cs3 (proof.map (conF c)))) ∧ Below (w.heap.size + 2) ((w.alloc (.cells #[.int .i64 k, R, .int .i64 r, .slice D proof.length dc] 130)).alloc (.cells (celC c r iv) 89)) w') := hCO.mono (fun e w' h => by
        obtain ⟨h1, h2⟩ := h
        rw [if_neg (by rw [hbad]; decide)] at h2
        rw [show ((w.alloc (.cells #[.int .i64 k, R, .int .i64 r, .slice D proof.length dc] 130)).alloc (.cells (celC c r iv) 89)).heap.size = w.heap.size + 2 by simp] at h1 h2
        exact ⟨h2, h1⟩)
      rw [hbad] at HBD
      clear hCO hbad
      go_enter Tryz.func139, Tryz.ntmps139
      go_wp2_with fail
      refine hCO2.mono ?_
      rintro e w1 ⟨⟨A, cap, rfl, hown⟩, hb⟩
      have HO := Lib.hid hown
      have HB1 := Lib.hid (HB0.out.trans (hb.mono (by omega)))
      have hbb : Below ((w.alloc (.cells #[.int .i64 k, R, .int .i64 r, .slice D proof.length dc] 130)).alloc (.cells (celC c r iv) 89)).heap.size _ w1 := hb.mono (by simp)
      have c2 := (HC2.out.below hbb).cell 2
      simp only [List.getElem?_toArray, List.getElem?_cons_zero, List.getElem?_cons_succ] at c2
      have HNN : Hid (A = none → proof.map (conF c) = []) := Lib.hid (fun h => by subst h; have := own_none HO.out; rw [List.length_eq_zero_iff] at this; simp [this])
      clear hb hbb hCO2 hown
      cases iv with
      | false =>
        have HLL : Hid (ccL r proof ⟨c, r, false⟩ = proof.map (conF c)) := Lib.hid (by rw [HL.out]; rfl)
        go_wp2
        go_ret2
        exact ⟨HB1.out, by rw [HBD.out, if_neg (by decide), HLL.out]; exact ⟨A, cap, by rw [HML.out]; rfl, cells_own HO.out HSZ.out, HNN.out⟩⟩
      | true =>
        have HLL : Hid (ccL r proof ⟨c, r, true⟩ = invL (proof.map (conF c))) := Lib.hid (by rw [HL.out]; rfl)
        have hIV := invert_any (w.heap.size + 2) A cap (proof.map (conF c)) w1 (by rw [HML.out]; exact HO.out) HSZ.out (by rw [HML.out]; omega)
        rw [HML.out] at hIV
        go_wp2_with fail
        refine hIV.mono ?_
        rintro e w2 ⟨rfl, ho2, hb2⟩
        have HO2 := Lib.hid ho2
        have HB2 := Lib.hid (HB1.out.trans (hb2.mono (by omega)))
        clear hb2 hIV ho2
        go_wp2
        go_ret2
        exact ⟨HB2.out, by rw [HBD.out, if_neg (by decide), HLL.out]; exact ⟨A, cap, by rw [invL_len, HML.out]; rfl, cells_own HO2.out HSZ.out.inv, fun h => by rw [HNN.out h]; rfl⟩⟩
  · have hne : (r != rel) = true := by simpa using hrr
    have HBD : Hid (ccBad rel proof ⟨c, r, iv⟩ = false) := Lib.hid (by unfold ccBad; simp [hrr])
    by_cases hgt : rel < r
    · have hd1 : decide (rel < r) = true := by simpa using hgt
      have HL : Hid (ccL rel proof ⟨c, r, iv⟩ = [⟨c, r - 1, iv⟩]) := Lib.hid (by unfold ccL; rw [if_neg hrr, if_pos hgt])
      have hw1 : IntKind.i64.wrap (r - 1) = r - 1 := IntWalk.i64_in _ (by omega)
      clear hrr
      go_enter Tryz.func139, Tryz.ntmps139
      go_wp2
      have HE : Hid (CellsAt (((w.alloc (.cells #[.int .i64 k, R, .int .i64 rel, .slice D proof.length dc] 130)).alloc (.cells (celC c (r - 1) iv) 89)).alloc (.cells (celC c (r - 1) iv) 89)) (some ⟨w.heap.size + 1 + 1, 0, none⟩) [⟨c, r - 1, iv⟩]) := Lib.hid (by
        have h := cellOne ((w.alloc (.cells #[.int .i64 k, R, .int .i64 rel, .slice D proof.length dc] 130)).alloc (.cells (celC c (r - 1) iv) 89)) c (r - 1) iv 89 (by omega)
        rw [World.size_alloc, World.size_alloc] at h
        exact h)
      have HBE : Hid (Below w.heap.size w (((w.alloc (.cells #[.int .i64 k, R, .int .i64 rel, .slice D proof.length dc] 130)).alloc (.cells (celC c (r - 1) iv) 89)).alloc (.cells (celC c (r - 1) iv) 89))) := Lib.hid ((((Below.refl _ w).alloc (Nat.le_refl _) _).alloc (by simp) _).alloc (by simp; omega) _)
      go_ret2
      exact ⟨HBE.out, by rw [HBD.out, if_neg (by decide), HL.out]; exact ⟨some ⟨w.heap.size + 1 + 1, 0, none⟩, 1, rfl, HE.out, fun h => by cases h⟩⟩
    · have hd1 : decide (rel < r) = false := by simpa using hgt
      have HL : Hid (ccL rel proof ⟨c, r, iv⟩ = [⟨c, r, iv⟩]) := Lib.hid (by unfold ccL; rw [if_neg hrr, if_neg hgt])
      clear hrr
      go_enter Tryz.func139, Tryz.ntmps139
      go_wp2
      have HE : Hid (CellsAt (((w.alloc (.cells #[.int .i64 k, R, .int .i64 rel, .slice D proof.length dc] 130)).alloc (.cells (celC c r iv) 89)).alloc (.cells (celC c r iv) 89)) (some ⟨w.heap.size + 1 + 1, 0, none⟩) [⟨c, r, iv⟩]) := Lib.hid (by
        have h := cellOne ((w.alloc (.cells #[.int .i64 k, R, .int .i64 rel, .slice D proof.length dc] 130)).alloc (.cells (celC c r iv) 89)) c r iv 89 (by omega)
        rw [World.size_alloc, World.size_alloc] at h
        exact h)
      have HBE : Hid (Below w.heap.size w (((w.alloc (.cells #[.int .i64 k, R, .int .i64 rel, .slice D proof.length dc] 130)).alloc (.cells (celC c r iv) 89)).alloc (.cells (celC c r iv) 89))) := Lib.hid ((((Below.refl _ w).alloc (Nat.le_refl _) _).alloc (by simp) _).alloc (by simp; omega) _)
      go_ret2
      exact ⟨HBE.out, by rw [HBD.out, if_neg (by decide), HL.out]; exact ⟨some ⟨w.heap.size + 1 + 1, 0, none⟩, 1, rfl, HE.out, fun h => by cases h⟩⟩
end Go.Proofs.YteephomlnbbjeaaGreatDoor

namespace Go.Proofs.YteephomlnbbjeaaGreatDoor
open Go Go.RowKit

def crL (rel : Int) (proof d : List Cel) : List Cel := d.flatMap (ccL rel proof)
def crBad (rel : Int) (proof d : List Cel) : Bool := decide (100000 < cntC rel proof.length d) || d.any (ccBad rel proof)
theorem ccL_len (rel : Int) (proof : List Cel) (c : Cel) : (ccL rel proof c).length = if c.rel = rel then proof.length else 1 := by
  unfold ccL
  split
  · split <;> simp [invL_len]
  · rfl
theorem crL_len (rel : Int) (proof d : List Cel) : (crL rel proof d).length = cntC rel proof.length d := by
  unfold crL cntC
  induction d with
  | nil => rfl
  | cons c d ih => rw [List.flatMap_cons, List.length_append, ih, List.map_cons, List.sum_cons, ccL_len]
theorem crL_take (rel : Int) (proof d : List Cel) (k : Nat) (h : k < d.length) : crL rel proof (d.take (k + 1)) = crL rel proof (d.take k) ++ ccL rel proof d[k] := by
  unfold crL; rw [List.take_succ_eq_append_getElem h, List.flatMap_append]; simp
theorem ccL_ne (rel : Int) {proof : List Cel} (h : proof ≠ []) (c : Cel) : ccL rel proof c ≠ [] := fun e => by
  have h1 := ccL_len rel proof c
  rw [e] at h1
  have h2 : 0 < proof.length := List.length_pos_iff.2 h
  simp only [List.length_nil] at h1
  split at h1 <;> omega
theorem Sized.cc {rel : Int} {proof : List Cel} {c : Cel} (hp : ∀ x ∈ proof, isW x.conj = true) (hc : isW c.conj = true) : Sized (ccL rel proof c) := by
  have h := Sized.con (u := c.conj) (isW_len hc) (fun x hx => isW_len (hp x hx))
  unfold ccL
  split
  · split
    · exact h.inv
    · exact h
  · intro x hx
    simp only [List.mem_cons, List.not_mem_nil, or_false] at hx
    subst hx
    have := isW_len hc
    simp only; omega
theorem Sized.cr {rel : Int} {proof d : List Cel} (hp : ∀ x ∈ proof, isW x.conj = true) (hd : ∀ x ∈ d, isW x.conj = true) : Sized (crL rel proof d) := by
  intro x hx
  obtain ⟨c, hc, hx⟩ := List.mem_flatMap.1 hx
  exact Sized.cc hp (hd c hc) x hx

set_option maxHeartbeats 2000000 in
set_option maxRecDepth 100000 in
theorem carryDrop_any (k : Int) (R : Value) (rel : Int) (P : Option Addr) (pc : Nat) (proof : List Cel) (C : Option Addr) (cc : Nat) (d : List Cel) (w : World) (ht : Tabs w) (hp : CellsAt w P proof) (hP : P = none → proof = []) (hpn : proof.length ≤ 100000) (hpw : ∀ x ∈ proof, isW x.conj = true) (hpe : proof ≠ []) (hd : CellsAt w C d) (hdn : d.length ≤ 100000) (hdw : ∀ x ∈ d, isW x.conj = true) (hdr : ∀ x ∈ d, -1000 ≤ x.rel ∧ x.rel ≤ 1000) :
    Calls Tryz.prog 89 #[.agg #[.int .i64 k, R, .int .i64 rel, .slice P proof.length pc], .slice C d.length cc] w (CCP w (crBad rel proof d) (crL rel proof d)) := by
  have HT := Lib.hid ht
  have HP := Lib.hid hp
  have HPN := Lib.hid hP
  have HPW := Lib.hid hpw
  have HPE := Lib.hid hpe
  have HD := Lib.hid hd
  have HDW := Lib.hid hdw
  have HDR := Lib.hid hdr
  have HBX := Lib.hid (Boxd.start w #[.int .i64 k, R, .int .i64 rel, .slice P proof.length pc] 130)
  have hCN := count_any k R rel P proof.length pc C cc d (w.alloc (.cells #[.int .i64 k, R, .int .i64 rel, .slice P proof.length pc] 130)) (hd.below HBX.out.old) hdn hpn
  have HSZ : Hid (Sized (crL rel proof d)) := Lib.hid (Sized.cr hpw hdw)
  have HBAD : Hid (crBad rel proof d = (decide (100000 < cntC rel proof.length d) || d.any (ccBad rel proof))) := Lib.hid rfl
  have hct := cntC_top rel proof.length d d.length hdn hpn
  rw [List.take_length] at hct
  clear ht hp hP hpw hpe hd hdw hdr
  cases hbig : decide (100000 < cntC rel proof.length d) with
  | true =>
    have hbz : 100000 < cntC rel proof.length d := by simpa using hbig
    rw [hbig, Bool.true_or] at HBAD
    clear hbig
    generalize cntC rel proof.length d = q at *
    have hbi : decide ((100000 : Int) < (q : Int)) = true := decide_eq_true (by omega)
    have hbj : (100000 : Int) < (q : Int) := by omega
    go_enter Tryz.func89, Tryz.ntmps89
    go_wp2_with fail
    refine hCN.mono ?_
    rintro e w1 ⟨rfl, hb⟩
    have HB := Lib.hid (HBX.out.on hb).old
    clear hb hCN
    go_wp2
    go_ret2
    exact ⟨HB.out, by rw [HBAD.out]; rfl⟩
  | false =>
    have hbz : ¬ 100000 < cntC rel proof.length d := by simpa using hbig
    rw [hbig, Bool.false_or] at HBAD
    clear hbig
    have HCL := Lib.hid (crL_len rel proof d)
    have HCT : Hid (∀ n, (crL rel proof (d.take n)).length ≤ 100000 * 100001) := Lib.hid (fun n => by rw [crL_len]; exact cntC_top rel proof.length d n hdn hpn)
    generalize cntC rel proof.length d = q at *
    have hbi : decide ((100000 : Int) < (q : Int)) = false := decide_eq_false (by omega)
    have hbj : ¬ (100000 : Int) < (q : Int) := by omega
    go_enter Tryz.func89, Tryz.ntmps89
    go_wp2_with fail
    refine hCN.mono ?_
    rintro e w1 ⟨rfl, hb⟩
    have HX1 := Lib.hid (HBX.out.on hb)
    clear hb hCN
    go_wp2
    go_loopw [6, 8, 9, 10, 17] (fun out _ _ _ i wr => ∃ (n m : Nat) (O : Option Addr) (oc : Nat) (acc : List Cel), n ≤ d.length ∧ i = .int .i64 (n : Int) ∧ out = .slice O m oc ∧ m ≤ 100000 * 100001 ∧ Hid (m = acc.length) ∧ Hid (acc = crL rel proof (d.take n)) ∧ Hid ((d.take n).any (ccBad rel proof) = false) ∧ Hid (wr.ownsRow (w.heap.size + 1) 89 3 (.slice O m oc) m (cs3 acc)) ∧ Hid (Boxd w #[.int .i64 k, R, .int .i64 rel, .slice P proof.length pc] 130 wr)) (fun _ _ _ _ i _ => d.length - (intOf i).toNat)
    case atStart => exact ⟨0, 0, none, 0, [], Nat.zero_le _, rfl, rfl, Nat.zero_le _, Lib.hid rfl, Lib.hid rfl, Lib.hid rfl, Lib.hid (World.ownsRow_nil _ _ _ _), HX1⟩
    case round =>
      obtain ⟨n, m, O, oc, acc, hn, rfl, rfl, hm, HM, HACC, HNB, HO, HX⟩ := hrel
      by_cases hlt : n < d.length
      · have HTK := Lib.hid (crL_take rel proof d n hlt)
        have HANY := Lib.hid (any_take_succL d (ccBad rel proof) n hlt)
        have HYES := Lib.hid (any_yesL d (ccBad rel proof) n hlt)
        have HTOP := Lib.hid (HCT.out (n + 1))
        have HCW := Lib.hid (HDW.out d[n] (List.getElem_mem hlt))
        have HCR := Lib.hid (HDR.out d[n] (List.getElem_mem hlt))
        obtain ⟨b, o, hD, hcel⟩ := (HD.out.below HX.out.old) n hlt
        obtain ⟨q1, q2, q3, q4⟩ := hcel
        subst hD
        generalize d[n] = x at *
        obtain ⟨c, r, iv⟩ := x
        simp only at q1 q2 q3 q4 HCW HCR
        have hsz := HX.out.size
        have HX2 := Lib.hid (Boxd.start wr (celC c r iv) 89)
        have HX3 := Lib.hid (HX.out.on HX2.out.old)
        have c0 := HX3.out.cell 0
        have c1 := HX3.out.cell 1
        have c2 := HX3.out.cell 2
        have c3 := HX3.out.cell 3
        simp only [List.getElem?_toArray, List.getElem?_cons_zero, List.getElem?_cons_succ] at c0 c1 c2 c3
        have hCC := carryCell_any k R rel P pc proof c r iv (wr.alloc (.cells (celC c r iv) 89)) (HT.out.on HX3.out.old) (HP.out.below HX3.out.old) HPN.out hpn HCW.out HPW.out HCR.out
        have HNE := Lib.hid (ccL_ne rel HPE.out ⟨c, r, iv⟩)
        cases hbad : ccBad rel proof ⟨c, r, iv⟩ with
        | true =>
          have HBB : Hid (crBad rel proof d = true) := Lib.hid (by rw [HBAD.out]; exact HYES.out hbad)
          have hC2 : Calls Tryz.prog 139 #[.agg #[.int .i64 k, R, .int .i64 rel, .slice P proof.length pc], .agg #[.string ⟨c.toArray⟩, .int .i64 r, .bool iv]] (wr.alloc (.cells (celC c r iv) 89)) (fun e w' => e = .returned (.tuple #[.slice none 0 0, .int .i64 2]) ∧ Below (wr.alloc (.cells (celC c r iv) 89)).heap.size (wr.alloc (.cells (celC c r iv) 89)) w') := hCC.mono (fun e w' h => by
            obtain ⟨h1, h2⟩ := h
            rw [if_pos hbad] at h2
            exact ⟨h2, h1⟩)
          clear hCC hbad
          go_wp2_with fail
          refine hC2.mono ?_
          rintro e w2 ⟨rfl, hb2⟩
          have HB2 := Lib.hid (HX3.out.on hb2).old
          clear hb2 hC2
          go_wp2
          go_ret2
          exact ⟨HB2.out, by rw [HBB.out]; rfl⟩
        | false =>
          have HNB2 : Hid ((d.take (n + 1)).any (ccBad rel proof) = false) := Lib.hid (by rw [HANY.out, HNB.out, hbad]; rfl)
          have hC2 : Calls Tryz.prog 139 #[.agg #[.int .i64 k, R, .int .i64 rel, .slice P proof.length pc], .agg #[.string ⟨c.toArray⟩, .int .i64 r, .bool iv]] (wr.alloc (.cells (celC c r iv) 89)) (fun e w' => (∃ A cap, e = .returned (.tuple #[.slice (some A) (ccL rel proof ⟨c, r, iv⟩).length cap, .int .i64 0]) ∧ CellsAt w' (some A) (ccL rel proof ⟨c, r, iv⟩)) ∧ Below (wr.alloc (.cells (celC c r iv) 89)).heap.size (wr.alloc (.cells (celC c r iv) 89)) w') := hCC.mono (fun e w' h => by
            obtain ⟨h1, h2⟩ := h
            rw [if_neg (by rw [hbad]; decide)] at h2
            obtain ⟨A, cap, h3, h4, h5⟩ := h2
            cases A with
            | none => exact absurd (h5 rfl) HNE.out
            | some A => exact ⟨⟨A, cap, h3, h4⟩, h1⟩)
          have HAC2 : Hid (acc ++ ccL rel proof ⟨c, r, iv⟩ = crL rel proof (d.take (n + 1))) := Lib.hid (by rw [HTK.out, HACC.out])
          have hlen2 : m + (ccL rel proof ⟨c, r, iv⟩).length ≤ 100000 * 100001 := by have h1 := HTOP.out; rw [← HAC2.out, List.length_append, ← HM.out] at h1; exact h1
          clear hCC hbad HTK HNE HTOP
          generalize ccL rel proof ⟨c, r, iv⟩ = l2 at *
          have hbL : (100000 * 100001 : Nat) ≤ 1000000000000 := by decide
          go_wp2_with fail
          refine hC2.mono ?_
          rintro e w2 ⟨⟨A, cap, rfl, hca⟩, hb2⟩
          have HCA := Lib.hid hca
          have HX4 := Lib.hid (HX3.out.on hb2)
          have HO2 := Lib.hid (own_on (HO.out.alloc (.cells (celC c r iv) 89)) hb2)
          have hsz2 := HX4.out.size
          clear hb2 hC2 hca
          go_wp2_with (at_builtin; refine append_cells w2 rfl (.tmp 30) (.tmp 31) rfl (w.heap.size + 1) O m oc acc l2 rfl HO2.out A cap l2.length rfl rfl HCA.out (Nat.le_trans hlen2 hbL) (by omega) ?_; intro O' oc' w3 hown3 hg3 hm3; have HO3 := Lib.hid hown3; have HX5 := Lib.hid (HX4.out.on' (below_of_grown (Below.refl (w.heap.size + 1) w2) hg3 (by omega) (own_ge HO2.out))); clear hown3 hg3 hm3)
          go_roundw
          case rel => exact ⟨n + 1, m + l2.length, O', oc', acc ++ l2, by omega, by go_num, rfl, hlen2, Lib.hid (by rw [List.length_append, ← HM.out]), HAC2, HNB2, HO3, HX5⟩
          case measure => simp [intOf]; omega
      · obtain rfl : n = d.length := by omega
        have HZ : Hid (acc = crL rel proof d) := Lib.hid (by have := HACC.out; rwa [List.take_length] at this)
        have HBB : Hid (crBad rel proof d = false) := Lib.hid (by rw [HBAD.out]; have := HNB.out; rwa [List.take_length] at this)
        go_wp2
        go_ret2
        refine ⟨HX.out.old, ?_⟩
        rw [HBB.out, if_neg (by decide)]
        refine ⟨O, oc, by rw [← HZ.out, ← HM.out]; rfl, ?_, fun h => ?_⟩
        · rw [← HZ.out]; exact cells_own HO.out (by rw [HZ.out]; exact HSZ.out)
        · subst h; have := own_none HO.out; rw [← HZ.out]; exact List.length_eq_zero_iff.1 (by rw [← HM.out]; exact this)
end Go.Proofs.YteephomlnbbjeaaGreatDoor

namespace Go.Proofs.YteephomlnbbjeaaGreatDoor
open Go Go.RowKit

def plAt (pl : List Int) (c : Cel) : Int := pl.getD c.rel.toNat 0
def cgL (h : List (List UInt8)) (pl : List Int) (c : Cel) : List Cel := if plAt pl c < 0 then [] else [⟨imgR h c.conj, plAt pl c, c.inv⟩]
def cgBad (h : List (List UInt8)) (pl : List Int) (c : Cel) : Bool := decide (0 ≤ plAt pl c) && decide (imgE h c.conj ≠ 0)
def cgAll (h : List (List UInt8)) (pl : List Int) (d : List Cel) : List Cel := d.flatMap (cgL h pl)
theorem cgAll_take (h : List (List UInt8)) (pl : List Int) (d : List Cel) (k : Nat) (hk : k < d.length) : cgAll h pl (d.take (k + 1)) = cgAll h pl (d.take k) ++ cgL h pl d[k] := by
  unfold cgAll; rw [List.take_succ_eq_append_getElem hk, List.flatMap_append]; simp
theorem imgR_len (h : List (List UInt8)) (u : List UInt8) : (imgR h u).length ≤ 100000 := by
  unfold imgR; split
  · simp
  · have := red_len (imgL h u); omega
theorem cg_sized (h : List (List UInt8)) (pl : List Int) (d : List Cel) : Sized (cgAll h pl d) := by
  intro x hx
  obtain ⟨c, hc, hx⟩ := List.mem_flatMap.1 hx
  unfold cgL at hx
  split at hx
  · cases hx
  · simp only [List.mem_cons, List.not_mem_nil, or_false] at hx
    subst hx
    have := imgR_len h c.conj
    simp only; omega
theorem imgE_cases (h : List (List UInt8)) (u : List UInt8) : imgE h u = 0 ∨ imgE h u = 2 := by unfold imgE; split <;> simp

set_option maxHeartbeats 4000000 in
set_option maxRecDepth 100000 in
theorem carryGen_any (k : Int) (R : Value) (F : Option Addr) (fc : Nat) (f : List (List UInt8)) (L : Option Addr) (lc : Nat) (pl : List Int) (C : Option Addr) (cc : Nat) (d : List Cel) (w : World) (ht : Tabs w) (hf : StrsAt w F f) (hfw : ∀ x ∈ f, isW x = true) (hfn : f.length ≤ 1000) (hL : IntsAt w L pl) (hd : CellsAt w C d) (hdn : d.length ≤ 100000) (hdw : ∀ x ∈ d, isW x.conj = true) (hdi : ∀ x ∈ d, ∀ c ∈ x.conj, 0 ≤ idx c ∧ idx c < (homL f).length) (hdr : ∀ x ∈ d, 0 ≤ x.rel ∧ x.rel < pl.length) :
    Calls Tryz.prog 90 #[.agg #[.int .i64 k, R, .slice F f.length fc, .slice L pl.length lc], .slice C d.length cc] w (CCP w (d.any (cgBad (homL f) pl)) (cgAll (homL f) pl d)) := by
  have HT := Lib.hid ht
  have HL := Lib.hid hL
  have HD := Lib.hid hd
  have HDW := Lib.hid hdw
  have HDI := Lib.hid hdi
  have HDR := Lib.hid hdr
  have HHW := Lib.hid (homL_isW hfw)
  have HBX := Lib.hid (Boxd.start w #[.int .i64 k, R, .slice F f.length fc, .slice L pl.length lc] 133)
  have hH := newHom_any F fc f (w.alloc (.cells #[.int .i64 k, R, .slice F f.length fc, .slice L pl.length lc] 133)) (HT.out.on HBX.out.old) (hf.below HBX.out.old) hfw (by omega)
  have HHS : Hid (Short (homL f)) := Lib.hid (fun x hx => by have := isW_len (homL_isW hfw x hx); omega)
  clear ht hf hfw hL hd hdw hdi hdr
  generalize homL f = h at *
  have hc2 := HBX.out.cell 2
  simp only [List.getElem?_toArray, List.getElem?_cons_zero, List.getElem?_cons_succ] at hc2
  have hlt0 := HBX.out.size
  go_enter Tryz.func90, Tryz.ntmps90
  go_wp2_with fail
  refine hH.mono ?_
  rintro e w1 ⟨A, cap, rfl, hown, hb⟩
  have HX1 := Lib.hid (HBX.out.on hb)
  have HSA := Lib.hid (strsAt_own hown HHS.out)
  have hb1sz := hb.size
  have HB1 := Lib.hid (⟨hb.size, hlt0⟩ : _ ∧ _)
  clear hb hown hH hc2
  go_wp2
  go_loopw [6, 9, 10, 11, 12, 18] (fun out _ _ _ _ i wr => ∃ (n m : Nat) (O : Option Addr) (oc : Nat) (acc : List Cel), n ≤ d.length ∧ i = .int .i64 (n : Int) ∧ out = .slice O m oc ∧ m ≤ n ∧ Hid (m = acc.length) ∧ Hid (acc = cgAll h pl (d.take n)) ∧ Hid ((d.take n).any (cgBad h pl) = false) ∧ Hid (wr.ownsRow w1.heap.size 89 3 (.slice O m oc) m (cs3 acc)) ∧ Hid (Below w1.heap.size w1 wr)) (fun _ _ _ _ _ i _ => d.length - (intOf i).toNat)
  case atStart => exact ⟨0, 0, none, 0, [], Nat.zero_le _, rfl, rfl, Nat.zero_le _, Lib.hid rfl, Lib.hid rfl, Lib.hid rfl, Lib.hid (World.ownsRow_nil _ _ _ _), Lib.hid (Below.refl _ _)⟩
  case round =>
    obtain ⟨n, m, O, oc, acc, hn, rfl, rfl, hm, HM, HACC, HNB, HO, HBW⟩ := hrel
    have HX := Lib.hid (HX1.out.on HBW.out)
    by_cases hlt : n < d.length
    · have HTK := Lib.hid (cgAll_take h pl d n hlt)
      have HANY := Lib.hid (any_take_succL d (cgBad h pl) n hlt)
      have HYES := Lib.hid (any_yesL d (cgBad h pl) n hlt)
      have HCW := Lib.hid (HDW.out d[n] (List.getElem_mem hlt))
      have HCI := Lib.hid (HDI.out d[n] (List.getElem_mem hlt))
      have hcr := HDR.out d[n] (List.getElem_mem hlt)
      obtain ⟨b, o, hD, hcel⟩ := (HD.out.below HX.out.old) n hlt
      obtain ⟨q1, q2, q3, q4⟩ := hcel
      subst hD
      generalize d[n] = x at *
      obtain ⟨c, r, iv⟩ := x
      simp only at q1 q2 q3 q4 HCW HCI hcr
      obtain ⟨ri, rfl⟩ := Int.eq_ofNat_of_zero_le hcr.1
      have hri : ri < pl.length := by omega
      have hsz := HX.out.size
      have HX2 := Lib.hid (Boxd.start wr (celC c ri iv) 89)
      have HX3 := Lib.hid (HX.out.on HX2.out.old)
      obtain ⟨lb, lo, hLb, hlc⟩ := (HL.out) ri hri
      subst hLb
      have hlc2 := (HX3.out.old.cell (p := ⟨lb, lo + ri, none⟩) (lt_of_cell hlc)).trans hlc
      have c3 := HX3.out.cell 3
      simp only [List.getElem?_toArray, List.getElem?_cons_zero, List.getElem?_cons_succ] at c3
      have HPL : Hid (plAt pl ⟨c, ri, iv⟩ = pl[ri]) := Lib.hid (by simp [plAt, hri])
      have hri2 : (ri : Int) < (pl.length : Int) := by omega
      have HB3 : Hid (Below w1.heap.size w1 (wr.alloc (.cells (celC c ri iv) 89))) := Lib.hid (HBW.out.alloc HBW.out.size _)
      have HO3 : Hid ((wr.alloc (.cells (celC c ri iv) 89)).ownsRow w1.heap.size 89 3 (.slice O m oc) m (cs3 acc)) := Lib.hid (HO.out.alloc _)
      clear hcr hlc
      generalize pl[ri] = p at *
      by_cases hneg : p < 0
      · have hd1 : decide (p < 0) = true := by simpa using hneg
        have HCG : Hid (cgL h pl ⟨c, ri, iv⟩ = []) := Lib.hid (by unfold cgL; rw [HPL.out, if_pos hneg])
        have HNB2 : Hid ((d.take (n + 1)).any (cgBad h pl) = false) := Lib.hid (by rw [HANY.out, HNB.out]; unfold cgBad; rw [HPL.out]; simp; intro h0; omega)
        have HAC2 : Hid (acc = cgAll h pl (d.take (n + 1))) := Lib.hid (by rw [HTK.out, HCG.out, List.append_nil, HACC.out])
        go_wp2
        go_roundw
        case rel => exact ⟨n + 1, m, O, oc, acc, by omega, by go_num, rfl, by omega, HM, HAC2, HNB2, HO3, HB3⟩
        case measure => simp [intOf]; omega
      · have hd1 : decide (p < 0) = false := by simpa using hneg
        have hIM := image_any A cap h ⟨c.toArray⟩ (wr.alloc (.cells (celC c ri iv) 89)) (HT.out.on HX3.out.old) (HSA.out.below HB3.out) HHW.out HCI.out (by rw [size_mk]; have := isW_len HCW.out; omega)
        change Calls Tryz.prog 78 #[.slice A h.length cap, .string ⟨c.toArray⟩] _ (ImgP _ (imgR h c) (imgE h c)) at hIM
        have hvl := imgR_len h c
        have HCG : Hid (cgL h pl ⟨c, ri, iv⟩ = [⟨imgR h c, p, iv⟩]) := Lib.hid (by unfold cgL; rw [HPL.out, if_neg hneg])
        have HCB : Hid (cgBad h pl ⟨c, ri, iv⟩ = decide (imgE h c ≠ 0)) := Lib.hid (by unfold cgBad; rw [HPL.out]; simp; omega)
        generalize imgR h c = v at *
        rcases imgE_cases h c with hz | hz
        · have HNB2 : Hid ((d.take (n + 1)).any (cgBad h pl) = false) := Lib.hid (by rw [HANY.out, HNB.out, HCB.out, hz]; rfl)
          have HAC2 : Hid (acc ++ [⟨v, p, iv⟩] = cgAll h pl (d.take (n + 1))) := Lib.hid (by rw [HTK.out, HCG.out, HACC.out])
          rw [hz] at hIM
          clear hz
          go_wp2_with fail
          refine hIM.mono ?_
          rintro e w2 ⟨rfl, hb2⟩
          have HB4 := Lib.hid (HB3.out.trans (hb2.mono HB3.out.size))
          have HO4 := Lib.hid (own_on HO3.out hb2)
          have HX4 := Lib.hid ((HX2.out).on hb2)
          have k2 := HX4.out.cell 2
          simp only [List.getElem?_toArray, List.getElem?_cons_zero, List.getElem?_cons_succ] at k2
          have hsz4 := HB4.out.size
          clear hb2 hIM
          go_wp2_with (at_builtin; refine append_oneC w2 rfl (.tmp 40) (.tmp 46) rfl w1.heap.size O m oc acc v p iv (by omega) rfl HO4.out rfl (by omega) hsz4 ?_; intro O' oc' w3 hown3 hg3 hm3; have HO5 := Lib.hid hown3; have HB5 := Lib.hid (below_of_grown HB4.out hg3 hsz4 (own_ge HO4.out)); clear hown3 hg3 hm3)
          go_roundw
          case rel => exact ⟨n + 1, m + 1, O', oc', acc ++ [⟨v, p, iv⟩], by omega, by go_num, rfl, by omega, Lib.hid (by rw [List.length_append, ← HM.out]; rfl), HAC2, HNB2, HO5, HB5⟩
          case measure => simp [intOf]; omega
        · have HBB : Hid (d.any (cgBad h pl) = true) := Lib.hid (HYES.out (by rw [HCB.out, hz]; rfl))
          rw [hz] at hIM
          clear hz
          go_wp2_with fail
          refine hIM.mono ?_
          rintro e w2 ⟨rfl, hb2⟩
          have HB4 := Lib.hid (HX3.out.on hb2).old
          clear hb2 hIM
          go_wp2
          go_ret2
          exact ⟨HB4.out, by rw [HBB.out]; rfl⟩
    · obtain rfl : n = d.length := by omega
      have HZ : Hid (acc = cgAll h pl d) := Lib.hid (by have := HACC.out; rwa [List.take_length] at this)
      have HBB : Hid (d.any (cgBad h pl) = false) := Lib.hid (by have := HNB.out; rwa [List.take_length] at this)
      go_wp2
      go_ret2
      refine ⟨HX.out.old, ?_⟩
      rw [HBB.out, if_neg (by decide)]
      refine ⟨O, oc, by rw [← HZ.out, ← HM.out]; rfl, ?_, fun h0 => ?_⟩
      · rw [← HZ.out]; exact cells_own HO.out (by rw [HZ.out]; exact cg_sized h pl d)
      · subst h0; have := own_none HO.out; rw [← HZ.out]; exact List.length_eq_zero_iff.1 (by rw [← HM.out]; exact this)
end Go.Proofs.YteephomlnbbjeaaGreatDoor
