/-
  Our own text, in the proof of the law DiskMoves of package disk (cayleylaw04). Proved here: FromMoves and plain of the reference. Conditions: the arguments lie in memory as the slices say.
-/
import Derived.Test.YtbcckfggnlmhoaaMf
namespace Go.Proofs.Ytbcckfggnlmhoaa
open Go Go.RowKit

theorem ca_cases (p : Pr) (l : List UInt8) (ms : List Mv) : (apE p l ms ≠ 0 ∧ fmE p l ms = apE p l ms ∧ fmL p l ms = []) ∨
    (apE p l ms = 0 ∧ presB p = true ∧ (caL p l ms).length ≤ 100000 ∧ fmE p l ms = (if diskB p (caL p l ms) = true then 0 else 2) ∧ fmL p l ms = (if diskB p (caL p l ms) = true then caL p l ms else [])) := by
  by_cases hk : appI p l ms.length = 0
  · have hchk : chk p [l] [] = 0 := by
      unfold appI at hk; split at hk; assumption; exact absurd hk ‹_›
    have hms : ms.length ≤ 100000 := by
      unfold appI at hk; rw [if_pos hchk] at hk; split at hk; assumption; cases hk
    obtain ⟨hp, hw, _⟩ := chk_ok hchk
    simp only [List.all_cons, List.all_nil, Bool.and_true] at hw
    have e1 : apE p l ms = if (runM p l ms).isSome then 0 else 43 := if_pos hk
    have e3 : fmE p l ms = (match runC p l ms with | some s => if conjs s.2 ≤ 1000000 then 0 else 2 | none => 43) := if_pos hk
    have e4 : fmL p l ms = (match runC p l ms with | some s => if conjs s.2 ≤ 1000000 then s.2 else [] | none => []) := if_pos hk
    have e5 : caL p l ms = (match runC p l ms with | some s => s.2 | none => []) := if_pos hk
    rw [← runC_fst] at e1
    cases hc : runC p l ms with
    | none =>
      rw [hc] at e1 e3 e4 e5
      exact .inl ⟨by rw [e1]; simp, by rw [e1, e3]; rfl, e4⟩
    | some s =>
      obtain ⟨x, ds⟩ := s
      rw [hc] at e1 e3 e4 e5
      simp only at e3 e4 e5
      have hi := runC_inv hp hw hc
      have hn := runC_cnt hc
      simp only at hn
      have hle := cntM_le ms
      have hd : diskB p ds = decide (conjs ds ≤ 1000000) := by
        by_cases hcj : conjs ds ≤ 1000000
        · rw [decide_eq_true hcj]; exact diskB_good (by omega) hcj (List.all_eq_true.2 hi.cells)
        · rw [decide_eq_false hcj]; exact diskB_fat (by omega)
      refine .inr ⟨e1, hp, by rw [e5]; omega, ?_, ?_⟩
      · rw [e5, hd, e3]; simp
      · rw [e5, hd, e4]; simp
  · have e1 : apE p l ms = appI p l ms.length := if_neg hk
    have e2 : fmE p l ms = appI p l ms.length := if_neg hk
    exact .inl ⟨by rw [e1]; exact hk, by rw [e1, e2], if_neg hk⟩

set_option maxHeartbeats 4000000 in
set_option maxRecDepth 100000 in
theorem rFromMoves_any (p : Pr) (R : Option Addr) (rc : Nat) (l : List UInt8) (M : Option Addr) (mc : Nat) (ms : List Mv) (w : World) (hr : RelsAt w R p.rels) (hm : p.rels.length ≤ maxLen) (hl : l.length ≤ maxLen) (hM : MovesAt w M ms) (hn : ms.length ≤ 5000000000000) :
    Calls Try.prog 28 #[prV p.k R p.rels.length rc, .string ⟨l.toArray⟩, .slice M ms.length mc] w (CellsP w (fmL p l ms) (fmE p l ms)) := by
  have HX0 := Lib.hid (Boxd.start w (prC p.k R p.rels.length rc) 24)
  have h1 := carry_any p R rc l M mc ms _ (hr.below HX0.out.old) hm hl (hM.below HX0.out.old) hn
  have HR := Lib.hid hr
  have HM := Lib.hid hm
  have HC := Lib.hid (ca_cases p l ms)
  generalize apV p l ms = v at *
  generalize apE p l ms = a at *
  generalize caL p l ms = d at *
  generalize fmL p l ms = L at *
  generalize fmE p l ms = f at *
  clear hr hm hM hl
  go_enter Try.func28, Try.ntmps28
  go_wp2_with fail
  refine h1.mono ?_
  rintro e1 w1 ⟨A, cap, rfl, hcl, hnl, hb1⟩
  have HX1 := Lib.hid (HX0.out.on hb1)
  have HCL := Lib.hid hcl
  have HNL := Lib.hid hnl
  clear h1 hb1 hcl hnl
  rcases HC.out with ⟨hne, hfa, hL⟩ | ⟨ha, hp, hlen, hf, hL⟩
  · subst hfa hL
    have e1 : (f != 0) = true := by simpa using hne
    clear hne HC
    go_wp2
    go_ret2
    exact CellsP.no HX1.out.old
  · subst ha
    obtain ⟨k1, k8, _⟩ := presB_k hp
    have hD := IsDisk_any p R rc A cap d w1 HCL.out HM.out (by omega) k1 k8
    have c0 : w1.cell? ⟨w.heap.size, 0, none⟩ = some (.int .i64 p.k) := HX1.out.cell 0
    have c1 : w1.cell? ⟨w.heap.size, 1, none⟩ = some (.slice R p.rels.length rc) := HX1.out.cell 1
    clear HC
    cases hdk : diskB p d with
    | false =>
      rw [hdk] at hD hf hL
      simp only [Bool.false_eq_true, if_false] at hf hL
      subst hf hL
      clear hdk
      go_wp2_with fail
      refine hD.mono ?_
      rintro e2 w2 ⟨rfl, hb2⟩
      have HX2 := Lib.hid (HX1.out.on hb2)
      clear hb2 hD
      go_wp2
      go_ret2
      exact CellsP.no HX2.out.old
    | true =>
      rw [hdk] at hD hf hL
      simp only [if_true] at hf hL
      subst hf hL
      clear hdk
      go_wp2_with fail
      refine hD.mono ?_
      rintro e2 w2 ⟨rfl, hb2⟩
      have HX2 := Lib.hid (HX1.out.on hb2)
      have HCL2 := Lib.hid (HCL.out.below hb2)
      clear hb2 hD
      go_wp2
      go_ret2
      exact ⟨A, cap, rfl, HCL2.out, HNL.out, HX2.out.old⟩

/-- How plain ends. -/
def PlainP (p : Pr) (x : List UInt8) (m : Mv) (w : World) (e : Ending) (w' : World) : Prop := e = .returned (.tuple #[.string ⟨((moveR p x m).getD []).toArray⟩, .bool (moveR p x m).isSome]) ∧ Below w.heap.size w w'

set_option maxHeartbeats 4000000 in
set_option maxRecDepth 100000 in
theorem plain_pair (p : Pr) (R : Option Addr) (rc : Nat) (x : List UInt8) (m : Mv) (w : World) (hp : presB p = true) (hr : RelsAt w R p.rels) (hl : x.length ≤ 100000) (ha : x.all (letB p.k) = true) (k3 : ¬ m.kind = 3) (k4 : ¬ m.kind = 4) : Calls Try.prog 56 #[prV p.k R p.rels.length rc, .string ⟨x.toArray⟩, mvV m] w (PlainP p x m w) := by
  have HB := Lib.hid (MvB.start w p R rc m)
  have HMO := Lib.hid (fun X (hX : Below w.heap.size w X) => move_any p R rc x m X hp (hr.below hX) hl ha)
  obtain ⟨mk, mp, ml, mr, ms, mi⟩ := m
  simp only at k3 k4
  have f3 : (mk != 3) = true := by simpa using k3
  have f4 : (mk != 4) = true := by simpa using k4
  have HB : Hid (MvB w p R rc ⟨mk, mp, ml, mr, ms, mi⟩ ((w.alloc (.cells #[.int .i64 p.k, .slice R p.rels.length rc] 24)).alloc (.cells #[.int .i64 mk, .int .i64 mp, .int .i64 ml, .int .i64 mr, .int .i64 ms, .bool mi] 52))) := Lib.hid HB.out
  have hMO : Calls Try.prog 82 #[prV p.k R p.rels.length rc, .string ⟨x.toArray⟩, .agg #[.int .i64 mk, .int .i64 mp, .int .i64 ml, .int .i64 mr, .int .i64 ms, .bool mi]] ((w.alloc (.cells #[.int .i64 p.k, .slice R p.rels.length rc] 24)).alloc (.cells #[.int .i64 mk, .int .i64 mp, .int .i64 ml, .int .i64 mr, .int .i64 ms, .bool mi] 52)) _ := HMO.out _ HB.out.old
  show Calls Try.prog 56 #[prV p.k R p.rels.length rc, .string ⟨x.toArray⟩, .agg #[.int .i64 mk, .int .i64 mp, .int .i64 ml, .int .i64 mr, .int .i64 ms, .bool mi]] w (PlainP p x ⟨mk, mp, ml, mr, ms, mi⟩ w)
  clear hp hr hl ha k3 k4 HMO
  go_enter Try.func56, Try.ntmps56
  go_wp2_with fail
  refine hMO.mono ?_
  intro e w1 hmp
  unfold MoveP at hmp
  cases hmr : moveR p x ⟨mk, mp, ml, mr, ms, mi⟩ with
  | none =>
    have HMR := Lib.hid hmr
    rw [hmr] at hmp
    obtain ⟨rfl, hb1⟩ := hmp
    have HBZ := Lib.hid (HB.out.old.trans (hb1.mono HB.out.old.size))
    clear hmr hb1 hMO
    go_wp2
    go_ret2
    refine ⟨?_, HBZ.out⟩
    rw [HMR.out]; rfl
  | some y =>
    have HMR := Lib.hid hmr
    rw [hmr] at hmp
    obtain ⟨A, cap, rfl, _, _, hb1⟩ := hmp
    have HBZ := Lib.hid (HB.out.old.trans (hb1.mono HB.out.old.size))
    clear hmr hb1 hMO
    go_wp2
    go_ret2
    refine ⟨?_, HBZ.out⟩
    rw [HMR.out]; rfl

theorem plain_no {p : Pr} {x : List UInt8} {m : Mv} {w w' : World} (h : moveR p x m = none) (hb : Below w.heap.size w w') : PlainP p x m w (.returned (.tuple #[.string ⟨#[]⟩, .bool false])) w' := by
  refine ⟨?_, hb⟩; rw [h]; rfl
theorem plain_yes {p : Pr} {x y : List UInt8} {m : Mv} {w w' : World} (h : moveR p x m = some y) (hb : Below w.heap.size w w') : PlainP p x m w (.returned (.tuple #[.string ⟨y.toArray⟩, .bool true])) w' := by
  refine ⟨?_, hb⟩; rw [h]; rfl

set_option maxHeartbeats 8000000 in
set_option maxRecDepth 100000 in
theorem plain_rel (p : Pr) (R : Option Addr) (rc : Nat) (x : List UInt8) (m : Mv) (w : World) (hp : presB p = true) (hr : RelsAt w R p.rels) (hl : x.length ≤ 100000) (hk : m.kind = 3 ∨ m.kind = 4) : Calls Try.prog 56 #[prV p.k R p.rels.length rc, .string ⟨x.toArray⟩, mvV m] w (PlainP p x m w) := by
  have HB := Lib.hid (MvB.start w p R rc m)
  have HT := Lib.hid (fun X (hX : Below w.heap.size w X) => turned_any p R rc m X hp (hr.below hX))
  have HTS : Hid (turnS p m = (rotOf p m).getD []) := Lib.hid rfl
  have HLN : Hid (∀ v, rotOf p m = some v → v.length ≤ 200) := Lib.hid (fun v hv => by rw [rot_len hv]; exact relOf_len hp (rotOf_some hv).1 _)
  have HN : Hid (rotOf p m = none → moveR p x m = none) := Lib.hid (fun h => by unfold moveR; split; (rw [if_neg (by omega), if_neg (by omega), h]; split; rfl; split <;> rfl); rfl)
  have HO : Hid (¬ (0 ≤ m.pos ∧ m.pos ≤ x.length) → moveR p x m = none) := Lib.hid (fun h => if_neg h)
  have HY3 : Hid (∀ v, rotOf p m = some v → 0 ≤ m.pos ∧ m.pos ≤ x.length → m.kind = 3 → moveR p x m = some (x.take m.pos.toNat ++ v ++ x.drop m.pos.toNat)) := Lib.hid (fun v h ho h3 => by unfold moveR; rw [if_pos ho, if_neg (by omega), if_neg (by omega), if_pos h3, h])
  have HY4 : Hid (∀ v, rotOf p m = some v → 0 ≤ m.pos ∧ m.pos ≤ x.length → m.kind = 4 → moveR p x m = if m.pos.toNat + v.length ≤ x.length ∧ (x.drop m.pos.toNat).take v.length = v then some (x.take m.pos.toNat ++ x.drop (m.pos.toNat + v.length)) else none) := Lib.hid (fun v h ho h3 => by unfold moveR; rw [if_pos ho, if_neg (by omega), if_neg (by omega), if_neg (by omega), if_pos h3, h])
  obtain ⟨mk, mp, ml, mr, ms, mi⟩ := m
  simp only at hk
  have hsz : (ByteArray.mk x.toArray).size = x.length := size_mk x
  have HB : Hid (MvB w p R rc ⟨mk, mp, ml, mr, ms, mi⟩ ((w.alloc (.cells #[.int .i64 p.k, .slice R p.rels.length rc] 24)).alloc (.cells #[.int .i64 mk, .int .i64 mp, .int .i64 ml, .int .i64 mr, .int .i64 ms, .bool mi] 52))) := Lib.hid HB.out
  have hT : Calls Try.prog 83 #[prV p.k R p.rels.length rc, .agg #[.int .i64 mk, .int .i64 mp, .int .i64 ml, .int .i64 mr, .int .i64 ms, .bool mi]] ((w.alloc (.cells #[.int .i64 p.k, .slice R p.rels.length rc] 24)).alloc (.cells #[.int .i64 mk, .int .i64 mp, .int .i64 ml, .int .i64 mr, .int .i64 ms, .bool mi] 52)) _ := HT.out _ HB.out.old
  show Calls Try.prog 56 #[prV p.k R p.rels.length rc, .string ⟨x.toArray⟩, .agg #[.int .i64 mk, .int .i64 mp, .int .i64 ml, .int .i64 mr, .int .i64 ms, .bool mi]] w (PlainP p x ⟨mk, mp, ml, mr, ms, mi⟩ w)
  clear hp hr HT
  simp only at HY3 HY4 HO
  rcases hk with rfl | rfl
  · go_enter Try.func56, Try.ntmps56
    go_wp2_with fail
    refine hT.mono ?_
    rintro e w1 ⟨rfl, hb1⟩
    have HB1 := Lib.hid (HB.out.below hb1)
    clear hT hb1
    cases hv : rotOf p ⟨3, mp, ml, mr, ms, mi⟩ with
    | none =>
      have HMR := Lib.hid (HN.out hv)
      simp only [Option.isSome_none]
      clear hv
      go_wp2
      go_ret2
      exact plain_no HMR.out HB1.out.old
    | some v =>
      have hvl := HLN.out v hv
      have HSS := Lib.hid (HTS.out.trans (by rw [hv]; rfl : _ = v))
      have hvs : (ByteArray.mk v.toArray).size = v.length := size_mk v
      have HYY := Lib.hid (HY3.out v hv)
      have HYZ := Lib.hid (HY4.out v hv)
      simp only [Option.isSome_some]
      rw [HSS.out]
      clear hv HTS HLN HN HY3 HY4 HSS
      have b0 : w1.cell? ⟨w.heap.size + 1, 0, none⟩ = some (.int .i64 3) := HB1.out.mc 0
      have b1 : w1.cell? ⟨w.heap.size + 1, 1, none⟩ = some (.int .i64 mp) := HB1.out.mc 1
      by_cases ho : 0 ≤ mp ∧ mp ≤ x.length
      case neg =>
        have HMR := Lib.hid (HO.out ho)
        clear HO
        by_cases h0 : mp < 0
        · have e1 : decide (mp < 0) = true := by simpa using h0
          clear ho
          go_wp2
          go_ret2
          exact plain_no HMR.out HB1.out.old
        · have e1 : decide (mp < 0) = false := by simpa using h0
          have e2 : decide ((x.length : Int) < mp) = true := by simp; omega
          clear ho
          go_wp2
          go_ret2
          exact plain_no HMR.out HB1.out.old
      case pos =>
        have HY3 := Lib.hid (HYY.out ho)
        have HY4 := Lib.hid (HYZ.out ho)
        obtain ⟨h0, h1⟩ := ho
        obtain ⟨q, rfl⟩ := Int.eq_ofNat_of_zero_le h0
        have hq : q ≤ x.length := by omega
        have e1 : decide ((q : Int) < 0) = false := by simp
        have e2 : decide ((x.length : Int) < (q : Int)) = false := by simp; omega
        have e2' : decide (x.length < q) = false := by simp; omega
        have g6 : (0 : Int) ≤ (q : Int) := by omega
        have hq2 : (q : Int) ≤ (x.length : Int) := by omega
        have u1 : (x.take q).length ≤ 100000 := by rw [List.length_take]; omega
        have u2 : (x.drop q).length ≤ 100000 := by rw [List.length_drop]; omega
        have x1 := ex_take x q hq
        have x2 := ex_drop x q
        simp only [Int.toNat_natCast] at HY3 HY4
        have HA2 : Hid (x.drop q = x.drop q) := Lib.hid rfl
        clear HYY HYZ HO h0 h1
        have HMR := Lib.hid (HY3.out trivial)
        have hc2 := catC (x.take q) v _ rfl
        have hc3 := catC (x.take q ++ v) (x.drop q) _ rfl
        have y1 : (x.take q ++ v).length ≤ 200000 := by rw [List.length_append]; omega
        have y2 : (x.take q ++ v ++ x.drop q).length ≤ 400000 := by rw [List.length_append]; omega
        clear HY3 HY4 HA2
        generalize x.take q ++ v ++ x.drop q = yy at *
        generalize x.take q ++ v = av at *
        generalize x.take q = a1 at *
        generalize x.drop q = a2 at *
        have y3 : a1.length + v.length ≤ 9223372036854775807 := by omega
        have y4 : av.length + a2.length ≤ 9223372036854775807 := by omega
        go_wp2_with fail
        go_quiet (fail)
        go_wp2
        go_ret2
        exact plain_yes HMR.out (HB1.out.old.drewN _)
  · go_enter Try.func56, Try.ntmps56
    go_wp2_with fail
    refine hT.mono ?_
    rintro e w1 ⟨rfl, hb1⟩
    have HB1 := Lib.hid (HB.out.below hb1)
    clear hT hb1
    cases hv : rotOf p ⟨4, mp, ml, mr, ms, mi⟩ with
    | none =>
      have HMR := Lib.hid (HN.out hv)
      simp only [Option.isSome_none]
      clear hv
      go_wp2
      go_ret2
      exact plain_no HMR.out HB1.out.old
    | some v =>
      have hvl := HLN.out v hv
      have HSS := Lib.hid (HTS.out.trans (by rw [hv]; rfl : _ = v))
      have hvs : (ByteArray.mk v.toArray).size = v.length := size_mk v
      have HYY := Lib.hid (HY3.out v hv)
      have HYZ := Lib.hid (HY4.out v hv)
      simp only [Option.isSome_some]
      rw [HSS.out]
      clear hv HTS HLN HN HY3 HY4 HSS
      have b0 : w1.cell? ⟨w.heap.size + 1, 0, none⟩ = some (.int .i64 4) := HB1.out.mc 0
      have b1 : w1.cell? ⟨w.heap.size + 1, 1, none⟩ = some (.int .i64 mp) := HB1.out.mc 1
      by_cases ho : 0 ≤ mp ∧ mp ≤ x.length
      case neg =>
        have HMR := Lib.hid (HO.out ho)
        clear HO
        by_cases h0 : mp < 0
        · have e1 : decide (mp < 0) = true := by simpa using h0
          clear ho
          go_wp2
          go_ret2
          exact plain_no HMR.out HB1.out.old
        · have e1 : decide (mp < 0) = false := by simpa using h0
          have e2 : decide ((x.length : Int) < mp) = true := by simp; omega
          clear ho
          go_wp2
          go_ret2
          exact plain_no HMR.out HB1.out.old
      case pos =>
        have HY3 := Lib.hid (HYY.out ho)
        have HY4 := Lib.hid (HYZ.out ho)
        obtain ⟨h0, h1⟩ := ho
        obtain ⟨q, rfl⟩ := Int.eq_ofNat_of_zero_le h0
        have hq : q ≤ x.length := by omega
        have e1 : decide ((q : Int) < 0) = false := by simp
        have e2 : decide ((x.length : Int) < (q : Int)) = false := by simp; omega
        have e2' : decide (x.length < q) = false := by simp; omega
        have g6 : (0 : Int) ≤ (q : Int) := by omega
        have hq2 : (q : Int) ≤ (x.length : Int) := by omega
        have u1 : (x.take q).length ≤ 100000 := by rw [List.length_take]; omega
        have u2 : (x.drop q).length ≤ 100000 := by rw [List.length_drop]; omega
        have x1 := ex_take x q hq
        have x2 := ex_drop x q
        simp only [Int.toNat_natCast] at HY3 HY4
        have HA2 : Hid (x.drop q = x.drop q) := Lib.hid rfl
        clear HYY HYZ HO h0 h1
        have HMR := Lib.hid (HY4.out trivial)
        clear HY3 HY4
        by_cases hlen : q + v.length ≤ x.length
        case neg =>
          have HZ := Lib.hid (HMR.out.trans (if_neg (fun h => hlen h.1)))
          have g1 : decide ((x.length : Int) - (q : Int) < (v.length : Int)) = true := by simp; omega
          clear hlen HA2
          go_wp2
          go_ret2
          exact plain_no HZ.out HB1.out.old
        case pos =>
          have g1 : decide ((x.length : Int) - (q : Int) < (v.length : Int)) = false := by simp; omega
          have HSL : Hid ((x.take (q + v.length)).drop q = (x.drop q).take v.length) := Lib.hid (by rw [List.drop_take, Nat.add_sub_cancel_left])
          have x3 := ex_mid x q (q + v.length) hlen
          rw [HSL.out] at x3
          have x4 := ex_drop x (q + v.length)
          have w1' : IntKind.i64.wrap ((q : Int) + (v.length : Int)) = (q : Int) + (v.length : Int) := IntWalk.i64_in _ (by omega)
          have g2 : (q : Int) ≤ (q : Int) + (v.length : Int) := by omega
          have g3 : (q : Int) + (v.length : Int) ≤ (x.length : Int) := by omega
          have g4 : ((q : Int) + (v.length : Int)).toNat = q + v.length := by omega
          have g5 : (0 : Int) ≤ (q : Int) + (v.length : Int) := by omega
          have u6 : (x.drop (q + v.length)).length ≤ 100000 := by rw [List.length_drop]; omega
          by_cases heq : (x.drop q).take v.length = v
          case neg =>
            have HZ := Lib.hid (HMR.out.trans (if_neg (fun h => heq h.2)))
            have n1 : ((x.drop q).take v.length == v) = false := by rw [beq_eq_false_iff_ne]; exact heq
            have n2 : ((x.drop q).take v.length != v) = true := by rw [bne_iff_ne]; exact heq
            clear hlen HSL HMR HA2
            generalize (x.drop q).take v.length = sl at *
            clear heq
            go_wp2
            go_ret2
            exact plain_no HZ.out HB1.out.old
          case pos =>
            have HZ := Lib.hid (HMR.out.trans (if_pos ⟨hlen, heq⟩))
            rw [heq] at x3
            have n1 : (v == v) = true := by simp
            have n2 : (v != v) = false := by simp
            have hc2 := catC (x.take q) (x.drop (q + v.length)) _ rfl
            have y2 : (x.take q ++ x.drop (q + v.length)).length ≤ 400000 := by rw [List.length_append]; omega
            clear hlen HSL heq HMR HA2
            generalize x.take q ++ x.drop (q + v.length) = yy at *
            generalize x.drop (q + v.length) = a3 at *
            generalize x.take q = a1 at *
            have y4 : a1.length + a3.length ≤ 9223372036854775807 := by omega
            go_wp2_with fail
            go_quiet (fail)
            go_wp2
            go_ret2
            exact plain_yes HZ.out (HB1.out.old.drewN _)
end Go.Proofs.Ytbcckfggnlmhoaa
