/-
  Our own text, in the proof of the law DiskMoves of package disk (cayleylaw04). Proved here: move of the reference, whole; carry and FromMoves of the reference. Conditions: the arguments lie in memory as the slices say.
-/
import Derived.Test.YtbcckfggnlmhoaaMc
import Derived.Test.YtbcckfggnlmhoaaMe
namespace Go.Proofs.Ytbcckfggnlmhoaa
open Go Go.RowKit

set_option maxHeartbeats 4000000 in
set_option maxRecDepth 100000 in
theorem move_other (p : Pr) (R : Option Addr) (rc : Nat) (x : List UInt8) (m : Mv) (w : World) (hl : x.length ≤ 100000) (h0 : 0 ≤ m.pos) (h1 : m.pos ≤ x.length) (k1 : ¬ m.kind = 1) (k2 : ¬ m.kind = 2) (k3 : ¬ m.kind = 3) (k4 : ¬ m.kind = 4) : Calls Try.prog 82 #[prV p.k R p.rels.length rc, .string ⟨x.toArray⟩, mvV m] w (MoveP p x m w) := by
  have HY : Hid (moveR p x m = none) := Lib.hid (by unfold moveR; rw [if_pos ⟨h0, h1⟩, if_neg k1, if_neg k2, if_neg k3, if_neg k4])
  have HB := Lib.hid (MvB.start w p R rc m)
  obtain ⟨mk, mp, ml, mr, ms, mi⟩ := m
  simp only at h0 h1 k1 k2 k3 k4
  obtain ⟨q, rfl⟩ := Int.eq_ofNat_of_zero_le h0
  have hq : q ≤ x.length := by omega
  have hsz : (ByteArray.mk x.toArray).size = x.length := size_mk x
  have e1 : decide ((q : Int) < 0) = false := by simp
  have e2 : decide ((x.length : Int) < (q : Int)) = false := by simp; omega
  have e2' : decide (x.length < q) = false := by simp; omega
  have f1 : (mk == 1) = false := by simpa using k1
  have f2 : (mk == 2) = false := by simpa using k2
  have f3 : (mk == 3) = false := by simpa using k3
  have f4 : (mk == 4) = false := by simpa using k4
  have g1 : decide (mk = 1) = false := by simpa using k1
  have g2 : decide (mk = 2) = false := by simpa using k2
  have g3 : decide (mk = 3) = false := by simpa using k3
  have g4 : decide (mk = 4) = false := by simpa using k4
  show Calls Try.prog 82 #[prV p.k R p.rels.length rc, .string ⟨x.toArray⟩, .agg #[.int .i64 mk, .int .i64 q, .int .i64 ml, .int .i64 mr, .int .i64 ms, .bool mi]] w (MoveP p x ⟨mk, q, ml, mr, ms, mi⟩ w)
  clear h0 h1 k1 k2 k3 k4
  go_enter Try.func82, Try.ntmps82
  go_wp2
  go_ret3
  exact move_no HY.out HB.out.old

theorem move_any (p : Pr) (R : Option Addr) (rc : Nat) (x : List UInt8) (m : Mv) (w : World) (hp : presB p = true) (hr : RelsAt w R p.rels) (hl : x.length ≤ 100000) (ha : x.all (letB p.k) = true) : Calls Try.prog 82 #[prV p.k R p.rels.length rc, .string ⟨x.toArray⟩, mvV m] w (MoveP p x m w) := by
  by_cases ho : 0 ≤ m.pos ∧ m.pos ≤ x.length
  case neg => exact move_out p R rc x m w hl ho
  case pos =>
    by_cases k1 : m.kind = 1
    · exact move_insPair p R rc x m w hp hl ho.1 ho.2 k1
    by_cases k2 : m.kind = 2
    · exact move_delPair p R rc x m w hl (all_mono (presB_k hp).2.1 ha) ho.1 ho.2 k2
    by_cases k3 : m.kind = 3
    · exact move_insRel p R rc x m w hp hr hl ha ho.1 ho.2 k3
    by_cases k4 : m.kind = 4
    · exact move_delRel p R rc x m w hp hr hl ha ho.1 ho.2 k4
    · exact move_other p R rc x m w hl ho.1 ho.2 k1 k2 k3 k4

/-- At most as long as words are. -/
def short (o : Option (List UInt8)) : Option (List UInt8) := match o with | some y => if y.length ≤ 100000 then some y else none | none => none
theorem short_yes {y : List UInt8} (h : y.length ≤ 100000) : short (some y) = some y := if_pos h
theorem insAt_short (x v : List UInt8) (i : Int) (h : 0 ≤ i ∧ i ≤ x.length) : insAt x i v = short (some (x.take i.toNat ++ v ++ x.drop i.toNat)) := by
  have hl : (x.take i.toNat ++ v ++ x.drop i.toNat).length = x.length + v.length := by simp; omega
  unfold insAt short
  simp only [hl]
  by_cases h2 : x.length + v.length ≤ 100000
  · rw [if_pos ⟨h.1, h.2, h2⟩, if_pos h2]
  · rw [if_neg (fun h3 => h2 h3.2.2), if_neg h2]
theorem insAt_out (x v : List UInt8) (i : Int) (h : ¬ (0 ≤ i ∧ i ≤ x.length)) : insAt x i v = none := if_neg (fun h3 => h ⟨h3.1, h3.2.1⟩)
theorem moveR_step (p : Pr) (x : List UInt8) (m : Mv) (hx : x.length ≤ 100000) : stepM p x m = short (moveR p x m) := by
  unfold stepM moveR
  by_cases ho : 0 ≤ m.pos ∧ m.pos ≤ x.length
  · rw [if_pos ho]
    by_cases k1 : m.kind = 1
    · rw [if_pos k1, if_pos k1]
      unfold insPair
      by_cases hm : 0 ≤ m.letter ∧ m.letter < 2 * p.k
      · rw [if_pos hm, if_pos hm, insAt_short _ _ _ ho]
      · rw [if_neg hm, if_neg hm]; rfl
    rw [if_neg k1, if_neg k1]
    by_cases k2 : m.kind = 2
    · rw [if_pos k2, if_pos k2]
      unfold delPair
      by_cases hm : m.pos.toNat + 2 ≤ x.length ∧ x.getD (m.pos.toNat + 1) 0 = invc (x.getD m.pos.toNat 0)
      · rw [if_pos hm, if_pos ⟨ho.1, by omega, hm.2⟩]
        exact (short_yes (by simp; omega)).symm
      · rw [if_neg hm, if_neg (fun h => hm ⟨by omega, h.2.2⟩)]; rfl
    rw [if_neg k2, if_neg k2]
    by_cases k3 : m.kind = 3
    · rw [if_pos k3, if_pos k3]
      unfold insRel
      cases rotOf p m with
      | none => rfl
      | some v => exact insAt_short _ _ _ ho
    rw [if_neg k3, if_neg k3]
    by_cases k4 : m.kind = 4
    · rw [if_pos k4, if_pos k4]
      unfold delRel
      cases rotOf p m with
      | none => rfl
      | some v =>
        simp only
        unfold cutAt
        by_cases hm : m.pos.toNat + v.length ≤ x.length ∧ (x.drop m.pos.toNat).take v.length = v
        · rw [if_pos hm, if_pos ⟨ho.1, by omega, hm.2⟩]
          exact (short_yes (by simp; omega)).symm
        · rw [if_neg hm, if_neg (fun h => hm ⟨by omega, h.2.2⟩)]; rfl
    rw [if_neg k4, if_neg k4]; rfl
  · rw [if_neg ho]
    split
    · unfold insPair; split
      · exact insAt_out _ _ _ ho
      · rfl
    split
    · unfold delPair; rw [if_neg (fun h => ho ⟨h.1, by omega⟩)]; rfl
    split
    · unfold insRel; split
      · exact insAt_out _ _ _ ho
      · rfl
    split
    · unfold delRel; split
      · unfold cutAt; rw [if_neg (fun h => ho ⟨h.1, by omega⟩)]; rfl
      · rfl
    · rfl

/-- What carry hands back. -/
def caL (p : Pr) (l : List UInt8) (ms : List Mv) : List Cel := if appI p l ms.length = 0 then (match runC p l ms with | some s => s.2 | none => []) else []
def CarryP (w : World) (v : List UInt8) (L : List Cel) (c : Int) (e : Ending) (w' : World) : Prop :=
  ∃ A cap, e = .returned (.tuple #[.string ⟨v.toArray⟩, .slice A L.length cap, .int .i64 c]) ∧ CellsAt w' A L ∧ (A = none → L = [] ∧ cap = 0) ∧ Below w.heap.size w w'
theorem CarryP.no {w w' : World} {c : Int} (hb : Below w.heap.size w w') : CarryP w [] [] c (.returned (.tuple #[.string ⟨#[]⟩, .slice none 0 0, .int .i64 c])) w' :=
  ⟨none, 0, rfl, (fun i hi => absurd hi (Nat.not_lt_zero i)), fun _ => ⟨rfl, rfl⟩, hb⟩

set_option maxHeartbeats 8000000 in
set_option maxRecDepth 100000 in
theorem carry_any (p : Pr) (R : Option Addr) (rc : Nat) (l : List UInt8) (M : Option Addr) (mc : Nat) (ms : List Mv) (w : World) (hr : RelsAt w R p.rels) (hm : p.rels.length ≤ maxLen) (hl : l.length ≤ maxLen) (hM : MovesAt w M ms) (hn : ms.length ≤ 5000000000000) :
    Calls Try.prog 57 #[prV p.k R p.rels.length rc, .string ⟨l.toArray⟩, .slice M ms.length mc] w (CarryP w (apV p l ms) (caL p l ms) (apE p l ms)) := by
  have HBX := Lib.hid (Boxd.start w (prC p.k R p.rels.length rc) 24)
  have HB1 := Lib.hid (HBX.out.on (Boxd.start (w.alloc (.cells (prC p.k R p.rels.length rc) 24)) #[.string ⟨l.toArray⟩] 9).old)
  have hX := checked_any p R rc (some ⟨(w.alloc (.cells (prC p.k R p.rels.length rc) 24)).heap.size, 0, none⟩) 1 [l] none 0 [] ((w.alloc (.cells (prC p.k R p.rels.length rc) 24)).alloc (.cells #[.string ⟨l.toArray⟩] 9)) (hr.below HB1.out.old) hm (rels_one hl 9) (fun i hi => absurd hi (Nat.not_lt_zero i)) (by simp) (by simp)
  simp only [World.size_alloc, List.map_nil, List.length_cons, List.length_nil] at hX
  have HR := Lib.hid hr
  have HMV := Lib.hid hM
  by_cases hk : appI p l ms.length = 0
  case neg =>
    have HV : Hid (apV p l ms = []) := Lib.hid (if_neg hk)
    have HL : Hid (caL p l ms = []) := Lib.hid (if_neg hk)
    have HE : Hid (apE p l ms = appI p l ms.length) := Lib.hid (if_neg hk)
    by_cases hq : chk p [l] [] = 0
    · have hbig : ¬ ms.length ≤ 100000 := fun h => hk (by unfold appI; rw [if_pos hq, if_pos h])
      have HQ : Hid (appI p l ms.length = 2) := Lib.hid (by unfold appI; rw [if_pos hq, if_neg hbig])
      rw [hq] at hX
      have e1 : decide ((100000 : Int) < (ms.length : Int)) = true := by simp; omega
      have e2 : decide (100000 < ms.length) = true := by simp; omega
      clear hr hm hl hM hq hk hbig
      go_enter Try.func57, Try.ntmps57
      go_wp2_with fail
      refine hX.mono ?_
      rintro e1' w1 ⟨rfl, hb1⟩
      have HX := Lib.hid (HB1.out.on' (hb1.mono (by simp)))
      clear hb1 hX
      go_wp2
      go_ret3
      rw [HV.out, HL.out, HE.out, HQ.out]
      exact CarryP.no HX.out.old
    · have HQ : Hid (appI p l ms.length = chk p [l] []) := Lib.hid (if_neg hq)
      have hne : (chk p [l] [] != 0) = true := by simpa using hq
      clear hr hm hl hM hq hk
      generalize chk p [l] [] = q at *
      go_enter Try.func57, Try.ntmps57
      go_wp2_with fail
      refine hX.mono ?_
      rintro e1 w1 ⟨rfl, hb1⟩
      have HX := Lib.hid (HB1.out.on' (hb1.mono (by simp)))
      clear hb1 hX
      go_wp2
      go_ret3
      rw [HV.out, HL.out, HE.out, HQ.out]
      exact CarryP.no HX.out.old
  case pos =>
    have HA : Hid (∀ s, runC p l ms = some s → apV p l ms = s.1 ∧ caL p l ms = s.2 ∧ apE p l ms = 0) := Lib.hid (fun s hs => by
      have h1 := runM_of (ds := s.2) (x := s.1) hs
      unfold apV caL apE; rw [if_pos hk, if_pos hk, if_pos hk, hs, h1]; exact ⟨rfl, rfl, rfl⟩)
    have HAN : Hid (runC p l ms = none → apV p l ms = [] ∧ caL p l ms = [] ∧ apE p l ms = 43) := Lib.hid (fun hs => by
      have h1 : runM p l ms = none := by rw [← runC_fst, hs]; rfl
      unfold apV caL apE; rw [if_pos hk, if_pos hk, if_pos hk, hs, h1]; exact ⟨rfl, rfl, rfl⟩)
    have hchk : chk p [l] [] = 0 := by
      unfold appI at hk; split at hk; assumption; exact absurd hk ‹_›
    have hms : ms.length ≤ 100000 := by
      unfold appI at hk; rw [if_pos hchk] at hk; split at hk; assumption; cases hk
    obtain ⟨hp, hw, _⟩ := chk_ok hchk
    simp only [List.all_cons, List.all_nil, Bool.and_true] at hw
    have hl5 := isWd_len hw
    have HLW := Lib.hid hw
    have HP := Lib.hid hp
    rw [hchk] at hX
    have e1 : decide ((100000 : Int) < (ms.length : Int)) = false := by simp; omega
    have e2 : decide (100000 < ms.length) = false := by simp; omega
    clear hr hm hl hM hchk hk hp hw
    go_enter Try.func57, Try.ntmps57
    go_wp2_with fail
    refine hX.mono ?_
    rintro e1' w1 ⟨rfl, hb1⟩
    have HX1 := Lib.hid (HB1.out.on' (hb1.mono (by simp)))
    have HOE := Lib.hid (own_empty w1 (w.heap.size + 1) 61 3 HX1.out.size)
    have HX2 := Lib.hid (HX1.out.on ((Below.refl _ w1).alloc (Nat.le_refl _) (.cells #[] 61)))
    clear hb1 hX
    go_wp2
    go_loopw [1, 10, 12, 13, 14, 15, 29] (fun s1 s10 _ _ _ _ i wr => ∃ (k : Nat) (x : List UInt8) (ds : List Cel) (C : Option Addr) (cc : Nat), k ≤ ms.length ∧ i = .int .i64 (k : Int) ∧ s1 = .string ⟨x.toArray⟩ ∧ s10 = .slice C ds.length cc ∧ runC p l (ms.take k) = some (x, ds) ∧ ds.length ≤ k ∧ wr.ownsRow (w.heap.size + 1) 61 3 (.slice C ds.length cc) ds.length (cs3 ds) ∧ Boxd w (prC p.k R p.rels.length rc) 24 wr)
      (fun _ _ _ _ _ _ i _ => ms.length - (intOf i).toNat)
    case atStart => exact ⟨0, l, [], _, 0, Nat.zero_le _, rfl, rfl, rfl, rfl, Nat.le_refl _, HOE.out, HX2.out⟩
    case round =>
      obtain ⟨k, x, ds, C, cc, hk, rfl, rfl, rfl, hrun, hdk, hown, hbx⟩ := hrel
      have HRUN := Lib.hid hrun
      have HOW := Lib.hid hown
      have HX := Lib.hid hbx
      have HI := Lib.hid (runC_inv HP.out HLW.out hrun)
      have hx5 : x.length ≤ 100000 := HI.out.len
      clear hrun hown hbx
      by_cases hlt : k < ms.length
      · obtain ⟨b, o, hM, hc, _⟩ := (HMV.out.below HX.out.old) k hlt
        subst hM
        have HSN : Hid (runC p l (ms.take (k + 1)) = (stepM p x ms[k]).map fun y => (y, if isRM ms[k] = true then ds ++ [cellM p x ms[k]] else ds)) := Lib.hid (by rw [List.take_succ_eq_append_getElem hlt, runC_snoc, HRUN.out]; rfl)
        have HST := Lib.hid (moveR_step p x ms[k] hx5)
        have HMO := Lib.hid (fun X (hX : Below w.heap.size w X) => move_any p R rc x ms[k] X HP.out (HR.out.below hX) hx5 HI.out.all)
        generalize ms[k] = m at *
        obtain ⟨mk, mp, ml, mr, ms', mi⟩ := m
        have c0 : wr.cell? ⟨b, o + k * 6, none⟩ = some (.int .i64 mk) := hc 0 _ rfl
        have c1 : wr.cell? ⟨b, o + k * 6 + 1, none⟩ = some (.int .i64 mp) := hc 1 _ rfl
        have c2 : wr.cell? ⟨b, o + k * 6 + 2, none⟩ = some (.int .i64 ml) := hc 2 _ rfl
        have c3 : wr.cell? ⟨b, o + k * 6 + 3, none⟩ = some (.int .i64 mr) := hc 3 _ rfl
        have c4 : wr.cell? ⟨b, o + k * 6 + 4, none⟩ = some (.int .i64 ms') := hc 4 _ rfl
        have c5 : wr.cell? ⟨b, o + k * 6 + 5, none⟩ = some (.bool mi) := hc 5 _ rfl
        clear hc
        have hbl : Below wr.heap.size wr (wr.alloc (.cells #[.int .i64 mk, .int .i64 mp, .int .i64 ml, .int .i64 mr, .int .i64 ms', .bool mi] 52)) := (Below.refl _ wr).alloc (Nat.le_refl _) _
        have HXA := Lib.hid (HX.out.on hbl)
        have HOA := Lib.hid (own_below HOW.out hbl)
        have hMO : Calls Try.prog 82 #[prV p.k R p.rels.length rc, .string ⟨x.toArray⟩, .agg #[.int .i64 mk, .int .i64 mp, .int .i64 ml, .int .i64 mr, .int .i64 ms', .bool mi]] (wr.alloc (.cells #[.int .i64 mk, .int .i64 mp, .int .i64 ml, .int .i64 mr, .int .i64 ms', .bool mi] 52)) _ := HMO.out _ HXA.out.old
        have k0 : (wr.alloc (.cells #[.int .i64 mk, .int .i64 mp, .int .i64 ml, .int .i64 mr, .int .i64 ms', .bool mi] 52)).cell? ⟨w.heap.size, 0, none⟩ = some (.int .i64 p.k) := HXA.out.cell 0
        have k1 : (wr.alloc (.cells #[.int .i64 mk, .int .i64 mp, .int .i64 ml, .int .i64 mr, .int .i64 ms', .bool mi] 52)).cell? ⟨w.heap.size, 1, none⟩ = some (.slice R p.rels.length rc) := HXA.out.cell 1
        clear hbl HMO
        go_wp2_with fail
        generalize wr.alloc (.cells #[.int .i64 mk, .int .i64 mp, .int .i64 ml, .int .i64 mr, .int .i64 ms', .bool mi] 52) = wx at *
        refine hMO.mono ?_
        intro e2 w2 hmp
        clear c0 c1 c2 c3 c4 c5 k0 k1 hMO
        unfold MoveP at hmp
        cases hmr : moveR p x ⟨mk, mp, ml, mr, ms', mi⟩ with
        | none =>
          rw [hmr] at hmp HST
          obtain ⟨rfl, hb2⟩ := hmp
          have HRN := Lib.hid (HAN.out (runC_none p l ms (k + 1) (by rw [HSN.out, HST.out]; rfl)))
          have HX2 := Lib.hid (HXA.out.on hb2)
          clear hb2 hmr
          go_wp2
          go_ret3
          rw [HRN.out.1, HRN.out.2.1, HRN.out.2.2]
          exact CarryP.no HX2.out.old
        | some y =>
          rw [hmr] at hmp HST
          obtain ⟨A, cap, rfl, hcl, hnl, hb2⟩ := hmp
          have HX2 := Lib.hid (HXA.out.on hb2)
          have HO2 := Lib.hid (own_below HOA.out hb2)
          have HCL := Lib.hid hcl
          have HNL := Lib.hid hnl
          have hsz : (ByteArray.mk y.toArray).size = y.length := size_mk y
          have hcm : (cellsM p x ⟨mk, mp, ml, mr, ms', mi⟩).length ≤ 1 := by unfold cellsM; split <;> simp
          clear hb2 hcl hnl hmr
          by_cases hy : y.length ≤ 100000
          · have HSY : Hid (stepM p x ⟨mk, mp, ml, mr, ms', mi⟩ = some y) := Lib.hid (by rw [HST.out]; exact if_pos hy)
            have HRR : Hid (runC p l (ms.take (k + 1)) = some (y, ds ++ cellsM p x ⟨mk, mp, ml, mr, ms', mi⟩)) := Lib.hid (by
              rw [HSN.out, HSY.out, Option.map_some]
              unfold cellsM
              split <;> simp)
            have f1 : decide ((100000 : Int) < (y.length : Int)) = false := by simp; omega
            have f2 : decide (100000 < y.length) = false := by simp; omega
            have hB2 := HX2.out.size
            generalize cellsM p x ⟨mk, mp, ml, mr, ms', mi⟩ = t at *
            clear HST HSN HSY
            go_wp2_with (at_builtin; refine append_opt w2 rfl (.tmp 49) (.tmp 50) rfl (w.heap.size + 1) C ds.length cc ds t rfl HO2.out A t.length cap rfl rfl HCL.out HNL.out (by omega) hB2 ?_; intro C' cc' w3 hown3 hb3)
            have HX3 := Lib.hid (HX2.out.on' hb3)
            have HO3 := Lib.hid hown3
            clear hown3 hb3
            go_wp2
            go_roundw
            case rel => exact ⟨k + 1, y, ds ++ t, C', cc', by omega, by go_num, rfl, by rw [List.length_append], HRR.out, by rw [List.length_append]; omega, by rw [List.length_append]; exact HO3.out, HX3.out⟩
            case measure => simp [intOf]; omega
          · have HRN := Lib.hid (HAN.out (runC_none p l ms (k + 1) (by rw [HSN.out, HST.out]; unfold short; simp only; rw [if_neg hy]; rfl)))
            have f1 : decide ((100000 : Int) < (y.length : Int)) = true := by simp; omega
            have f2 : decide (100000 < y.length) = true := by simp; omega
            clear hy
            go_wp2
            go_ret3
            rw [HRN.out.1, HRN.out.2.1, HRN.out.2.2]
            exact CarryP.no HX2.out.old
      · obtain rfl : k = ms.length := by omega
        have HRN : Hid (runC p l ms = some (x, ds)) := Lib.hid (by have := HRUN.out; rwa [List.take_length] at this)
        have HRES := Lib.hid (HA.out _ HRN.out)
        go_wp2
        go_ret3
        rw [HRES.out.1, HRES.out.2.1, HRES.out.2.2]
        have hsz : Sized ds := fun c hc => by
          have h1 := HI.out.cells c hc
          unfold cellB at h1
          rw [Bool.and_eq_true] at h1
          have := isWd_len h1.2
          omega
        refine ⟨C, cc, rfl, cells_own HOW.out hsz, fun h => ?_, HX.out.old⟩
        rcases own_shape HOW.out with ⟨_, h2, h3⟩ | ⟨g, h2, _⟩
        · exact ⟨List.length_eq_zero_iff.1 h2, h3⟩
        · rw [h] at h2; cases h2
end Go.Proofs.Ytbcckfggnlmhoaa
