/-
  Our own text, in the proof of the law DiskMoves of package disk (cayleylaw04). Proved here: Apply of the reference; DiskMoves returns true at every presentation, word and moves. Conditions: the arguments lie in memory as the slices say.
-/
import Derived.Test.YtbcckfggnlmhoaaMg
namespace Go.Proofs.Ytbcckfggnlmhoaa
open Go Go.RowKit

theorem plain_any (p : Pr) (R : Option Addr) (rc : Nat) (x : List UInt8) (m : Mv) (w : World) (hp : presB p = true) (hr : RelsAt w R p.rels) (hl : x.length ≤ 100000) (ha : x.all (letB p.k) = true) : Calls Try.prog 56 #[prV p.k R p.rels.length rc, .string ⟨x.toArray⟩, mvV m] w (PlainP p x m w) := by
  by_cases hk : m.kind = 3 ∨ m.kind = 4
  · exact plain_rel p R rc x m w hp hr hl hk
  · exact plain_pair p R rc x m w hp hr hl ha (fun h => hk (.inl h)) (fun h => hk (.inr h))

def ApP (w : World) (v : List UInt8) (c : Int) (e : Ending) (w' : World) : Prop := e = .returned (.tuple #[.string ⟨v.toArray⟩, .int .i64 c]) ∧ Below w.heap.size w w'

set_option maxHeartbeats 8000000 in
set_option maxRecDepth 100000 in
theorem rApply_any (p : Pr) (R : Option Addr) (rc : Nat) (l : List UInt8) (M : Option Addr) (mc : Nat) (ms : List Mv) (w : World) (hr : RelsAt w R p.rels) (hm : p.rels.length ≤ maxLen) (hl : l.length ≤ maxLen) (hM : MovesAt w M ms) (hn : ms.length ≤ 5000000000000) :
    Calls Try.prog 27 #[prV p.k R p.rels.length rc, .string ⟨l.toArray⟩, .slice M ms.length mc] w (ApP w (apV p l ms) (apE p l ms)) := by
  have HBX := Lib.hid (Boxd.start w (prC p.k R p.rels.length rc) 24)
  have HB1 := Lib.hid (HBX.out.on (Boxd.start (w.alloc (.cells (prC p.k R p.rels.length rc) 24)) #[.string ⟨l.toArray⟩] 9).old)
  have hX := checked_any p R rc (some ⟨(w.alloc (.cells (prC p.k R p.rels.length rc) 24)).heap.size, 0, none⟩) 1 [l] none 0 [] ((w.alloc (.cells (prC p.k R p.rels.length rc) 24)).alloc (.cells #[.string ⟨l.toArray⟩] 9)) (hr.below HB1.out.old) hm (rels_one hl 9) (fun i hi => absurd hi (Nat.not_lt_zero i)) (by simp) (by simp)
  simp only [World.size_alloc, List.map_nil, List.length_cons, List.length_nil] at hX
  have HR := Lib.hid hr
  have HMV := Lib.hid hM
  by_cases hk : appI p l ms.length = 0
  case neg =>
    have HV : Hid (apV p l ms = []) := Lib.hid (if_neg hk)
    have HE : Hid (apE p l ms = appI p l ms.length) := Lib.hid (if_neg hk)
    by_cases hq : chk p [l] [] = 0
    · have hbig : ¬ ms.length ≤ 100000 := fun h => hk (by unfold appI; rw [if_pos hq, if_pos h])
      have HQ : Hid (appI p l ms.length = 2) := Lib.hid (by unfold appI; rw [if_pos hq, if_neg hbig])
      rw [hq] at hX
      have e1 : decide ((100000 : Int) < (ms.length : Int)) = true := by simp; omega
      have e2 : decide (100000 < ms.length) = true := by simp; omega
      clear hr hm hl hM hq hk hbig
      go_enter Try.func27, Try.ntmps27
      go_wp2_with fail
      refine hX.mono ?_
      rintro e1' w1 ⟨rfl, hb1⟩
      have HX := Lib.hid (HB1.out.on' (hb1.mono (by simp)))
      clear hb1 hX
      go_wp2
      go_ret2
      rw [HV.out, HE.out, HQ.out]
      exact ⟨rfl, HX.out.old⟩
    · have HQ : Hid (appI p l ms.length = chk p [l] []) := Lib.hid (if_neg hq)
      have hne : (chk p [l] [] != 0) = true := by simpa using hq
      clear hr hm hl hM hq hk
      generalize chk p [l] [] = q at *
      go_enter Try.func27, Try.ntmps27
      go_wp2_with fail
      refine hX.mono ?_
      rintro e1 w1 ⟨rfl, hb1⟩
      have HX := Lib.hid (HB1.out.on' (hb1.mono (by simp)))
      clear hb1 hX
      go_wp2
      go_ret2
      rw [HV.out, HE.out, HQ.out]
      exact ⟨rfl, HX.out.old⟩
  case pos =>
    have HA : Hid (∀ s, runM p l ms = some s → apV p l ms = s ∧ apE p l ms = 0) := Lib.hid (fun s hs => by unfold apV apE; rw [if_pos hk, if_pos hk, hs]; exact ⟨rfl, rfl⟩)
    have HAN : Hid (runM p l ms = none → apV p l ms = [] ∧ apE p l ms = 43) := Lib.hid (fun hs => by unfold apV apE; rw [if_pos hk, if_pos hk, hs]; exact ⟨rfl, rfl⟩)
    have hchk : chk p [l] [] = 0 := by
      unfold appI at hk; split at hk; assumption; exact absurd hk ‹_›
    have hms : ms.length ≤ 100000 := by
      unfold appI at hk; rw [if_pos hchk] at hk; split at hk; assumption; cases hk
    obtain ⟨hp, hw, _⟩ := chk_ok hchk
    simp only [List.all_cons, List.all_nil, Bool.and_true] at hw
    have hl5 := isWd_len hw
    have HLW := Lib.hid hw
    have HP := Lib.hid hp
    rw [hchk] at hX
    have e1 : decide ((100000 : Int) < (ms.length : Int)) = false := by simp; omega
    have e2 : decide (100000 < ms.length) = false := by simp; omega
    clear hr hm hl hM hchk hk hp hw
    go_enter Try.func27, Try.ntmps27
    go_wp2_with fail
    refine hX.mono ?_
    rintro e1' w1 ⟨rfl, hb1⟩
    have HX1 := Lib.hid (HB1.out.on' (hb1.mono (by simp)))
    clear hb1 hX
    go_wp2
    go_loopw [1, 10, 11, 12, 25] (fun s1 _ _ _ i wr => ∃ (k : Nat) (x : List UInt8), k ≤ ms.length ∧ i = .int .i64 (k : Int) ∧ s1 = .string ⟨x.toArray⟩ ∧ runM p l (ms.take k) = some x ∧ x.length ≤ 100000 ∧ x.all (letB p.k) = true ∧ Boxd w (prC p.k R p.rels.length rc) 24 wr)
      (fun _ _ _ _ i _ => ms.length - (intOf i).toNat)
    case atStart => exact ⟨0, l, Nat.zero_le _, rfl, rfl, rfl, hl5, isWd_all HLW.out, HX1.out⟩
    case round =>
      obtain ⟨k, x, hk, rfl, rfl, hrun, hx5, hxa, hbx⟩ := hrel
      have HRUN := Lib.hid hrun
      have HX := Lib.hid hbx
      have HXA5 := Lib.hid hxa
      clear hrun hbx hxa
      by_cases hlt : k < ms.length
      · obtain ⟨b, o, hM, hc, _⟩ := (HMV.out.below HX.out.old) k hlt
        subst hM
        have HSN : Hid (runM p l (ms.take (k + 1)) = stepM p x ms[k]) := Lib.hid (by rw [List.take_succ_eq_append_getElem hlt, runM_snoc, HRUN.out]; rfl)
        have HAL := Lib.hid (fun y (hy : stepM p x ms[k] = some y) => stepM_all HP.out hy HXA5.out)
        have HST := Lib.hid (moveR_step p x ms[k] hx5)
        have HMO := Lib.hid (fun X (hX : Below w.heap.size w X) => plain_any p R rc x ms[k] X HP.out (HR.out.below hX) hx5 HXA5.out)
        generalize ms[k] = m at *
        obtain ⟨mk, mp, ml, mr, ms', mi⟩ := m
        have c0 : wr.cell? ⟨b, o + k * 6, none⟩ = some (.int .i64 mk) := hc 0 _ rfl
        have c1 : wr.cell? ⟨b, o + k * 6 + 1, none⟩ = some (.int .i64 mp) := hc 1 _ rfl
        have c2 : wr.cell? ⟨b, o + k * 6 + 2, none⟩ = some (.int .i64 ml) := hc 2 _ rfl
        have c3 : wr.cell? ⟨b, o + k * 6 + 3, none⟩ = some (.int .i64 mr) := hc 3 _ rfl
        have c4 : wr.cell? ⟨b, o + k * 6 + 4, none⟩ = some (.int .i64 ms') := hc 4 _ rfl
        have c5 : wr.cell? ⟨b, o + k * 6 + 5, none⟩ = some (.bool mi) := hc 5 _ rfl
        clear hc
        have hbl : Below wr.heap.size wr (wr.alloc (.cells #[.int .i64 mk, .int .i64 mp, .int .i64 ml, .int .i64 mr, .int .i64 ms', .bool mi] 52)) := (Below.refl _ wr).alloc (Nat.le_refl _) _
        have HXA := Lib.hid (HX.out.on hbl)
        have hMO : Calls Try.prog 56 #[prV p.k R p.rels.length rc, .string ⟨x.toArray⟩, .agg #[.int .i64 mk, .int .i64 mp, .int .i64 ml, .int .i64 mr, .int .i64 ms', .bool mi]] (wr.alloc (.cells #[.int .i64 mk, .int .i64 mp, .int .i64 ml, .int .i64 mr, .int .i64 ms', .bool mi] 52)) _ := HMO.out _ HXA.out.old
        have k0 : (wr.alloc (.cells #[.int .i64 mk, .int .i64 mp, .int .i64 ml, .int .i64 mr, .int .i64 ms', .bool mi] 52)).cell? ⟨w.heap.size, 0, none⟩ = some (.int .i64 p.k) := HXA.out.cell 0
        have k1 : (wr.alloc (.cells #[.int .i64 mk, .int .i64 mp, .int .i64 ml, .int .i64 mr, .int .i64 ms', .bool mi] 52)).cell? ⟨w.heap.size, 1, none⟩ = some (.slice R p.rels.length rc) := HXA.out.cell 1
        clear hbl HMO
        go_wp2_with fail
        generalize wr.alloc (.cells #[.int .i64 mk, .int .i64 mp, .int .i64 ml, .int .i64 mr, .int .i64 ms', .bool mi] 52) = wx at *
        refine hMO.mono ?_
        intro e2 w2 hmp
        clear c0 c1 c2 c3 c4 c5 k0 k1 hMO
        obtain ⟨rfl, hb2⟩ := hmp
        have HX2 := Lib.hid (HXA.out.on hb2)
        clear hb2
        cases hmr : moveR p x ⟨mk, mp, ml, mr, ms', mi⟩ with
        | none =>
          rw [hmr] at HST
          have HRN := Lib.hid (HAN.out (runM_none p l ms (k + 1) (by rw [HSN.out, HST.out]; rfl)))
          simp only [Option.isSome_none, Option.getD_none]
          clear hmr
          go_wp2
          go_ret2
          rw [HRN.out.1, HRN.out.2]
          exact ⟨rfl, HX2.out.old⟩
        | some y =>
          rw [hmr] at HST
          have hsz : (ByteArray.mk y.toArray).size = y.length := size_mk y
          simp only [Option.isSome_some, Option.getD_some]
          clear hmr
          by_cases hy : y.length ≤ 100000
          · have HSY : Hid (stepM p x ⟨mk, mp, ml, mr, ms', mi⟩ = some y) := Lib.hid (by rw [HST.out]; exact if_pos hy)
            have HRR : Hid (runM p l (ms.take (k + 1)) = some y) := Lib.hid (by rw [HSN.out, HSY.out])
            have HYA := Lib.hid (HAL.out y HSY.out)
            have f1 : decide ((100000 : Int) < (y.length : Int)) = false := by simp; omega
            have f2 : decide (100000 < y.length) = false := by simp; omega
            clear HST HSN HSY HAL
            go_wp2
            go_roundw
            case rel => exact ⟨k + 1, y, by omega, by go_num, rfl, HRR.out, hy, HYA.out, HX2.out⟩
            case measure => simp [intOf]; omega
          · have HRN := Lib.hid (HAN.out (runM_none p l ms (k + 1) (by rw [HSN.out, HST.out]; exact if_neg hy)))
            have f1 : decide ((100000 : Int) < (y.length : Int)) = true := by simp; omega
            have f2 : decide (100000 < y.length) = true := by simp; omega
            clear hy
            go_wp2
            go_ret2
            rw [HRN.out.1, HRN.out.2]
            exact ⟨rfl, HX2.out.old⟩
      · obtain rfl : k = ms.length := by omega
        have HRN : Hid (runM p l ms = some x) := Lib.hid (by have := HRUN.out; rwa [List.take_length] at this)
        have HRES := Lib.hid (HA.out _ HRN.out)
        go_wp2
        go_ret2
        rw [HRES.out.1, HRES.out.2]
        exact ⟨rfl, HX.out.old⟩

set_option maxHeartbeats 8000000 in
set_option maxRecDepth 100000 in
theorem diskMoves_any (p : Pr) (R : Option Addr) (rc : Nat) (l : List UInt8) (M : Option Addr) (mc : Nat) (ms : List Mv) (w : World) (hr : RelsAt w R p.rels) (hm : p.rels.length ≤ maxLen) (hl : l.length ≤ maxLen) (hM : MovesAt w M ms) (hn : ms.length ≤ 5000000000000) :
    Calls Try.prog 6 #[prV p.k R p.rels.length rc, .string ⟨l.toArray⟩, .slice M ms.length mc] w fun e w' => e = .returned (.bool true) ∧ Below w.heap.size w w' := by
  have HR := Lib.hid hr
  have HMV := Lib.hid hM
  have HX0 := Lib.hid (Boxd.start w (prC p.k R p.rels.length rc) 24)
  have h1 := rApply_any p R rc l M mc ms _ (HR.out.below HX0.out.old) hm hl (HMV.out.below HX0.out.old) hn
  have HF2 := Lib.hid (fun X (hX : Below w.heap.size w X) => rFromMoves_any p R rc l M mc ms X (HR.out.below hX) hm hl (HMV.out.below hX) hn)
  have HF3 := Lib.hid (fun X (hX : Below w.heap.size w X) => Apply_any p R rc l M mc ms X (HR.out.below hX) hm hl (HMV.out.below hX) hn)
  have HF4 := Lib.hid (fun X (hX : Below w.heap.size w X) => FromMoves_any p R rc l M mc ms X (HR.out.below hX) hm hl (HMV.out.below hX) hn)
  have HLL : Hid ((fmL p l ms).length ≤ 5000000000000) := Lib.hid (by
    rcases both_cases p l ms with ⟨_, _, h⟩ | ⟨_, _, h⟩ | ⟨_, _, x, ds, _, _, h, _, _, _, hc, _⟩
    · rw [h]; simp
    · rw [h]; simp
    · rw [h, hc]; have := cntM_le ms; omega)
  generalize apV p l ms = v at *
  generalize apE p l ms = a at *
  generalize fmL p l ms = L at *
  generalize fmE p l ms = f at *
  clear hr hm hM hn hl
  go_enter Try.func6, Try.ntmps6
  go_wp2_with fail
  refine h1.mono ?_
  rintro e1 w1 ⟨rfl, hb1⟩
  have HX1 := Lib.hid (HX0.out.on hb1)
  have h2 := HF2.out w1 HX1.out.old
  have c0 : w1.cell? ⟨w.heap.size, 0, none⟩ = some (.int .i64 p.k) := HX1.out.cell 0
  have c1 : w1.cell? ⟨w.heap.size, 1, none⟩ = some (.slice R p.rels.length rc) := HX1.out.cell 1
  clear h1 hb1
  go_wp2_with fail
  refine h2.mono ?_
  rintro e2 w2 ⟨A, cap, rfl, hcl, _, hb2⟩
  have HX2 := Lib.hid (HX1.out.on hb2)
  have HCL := Lib.hid hcl
  have h3 := HF3.out w2 HX2.out.old
  clear h2 hb2 hcl c0 c1
  have c0 : w2.cell? ⟨w.heap.size, 0, none⟩ = some (.int .i64 p.k) := HX2.out.cell 0
  have c1 : w2.cell? ⟨w.heap.size, 1, none⟩ = some (.slice R p.rels.length rc) := HX2.out.cell 1
  go_wp2_with fail
  refine h3.mono ?_
  rintro e3 w3 ⟨rfl, hb3⟩
  have HX3 := Lib.hid (HX2.out.on hb3)
  have HC3 := Lib.hid (HCL.out.below hb3)
  have h4 := HF4.out w3 HX3.out.old
  clear h3 hb3 c0 c1
  have c0 : w3.cell? ⟨w.heap.size, 0, none⟩ = some (.int .i64 p.k) := HX3.out.cell 0
  have c1 : w3.cell? ⟨w.heap.size, 1, none⟩ = some (.slice R p.rels.length rc) := HX3.out.cell 1
  go_wp2_with fail
  refine h4.mono ?_
  rintro e4 w4 ⟨A4, cap4, rfl, hcl4, _, hb4⟩
  have HX4 := Lib.hid (HX3.out.on hb4)
  have HC4 := Lib.hid (HC3.out.below hb4)
  have HD4 := Lib.hid hcl4
  have hS := sane_any w4
  clear h4 hb4 hcl4 c0 c1
  go_wp2_with fail
  refine hS.mono ?_
  rintro e5 w5 ⟨rfl, hb5⟩
  have HX5 := Lib.hid (HX4.out.on hb5)
  have h6 := Same_any A4 A L cap4 cap w5 (HD4.out.below hb5) (HC4.out.below hb5) HLL.out
  clear hb5 hS
  go_wp2_with fail
  refine h6.mono ?_
  rintro e6 w6 ⟨rfl, hb6⟩
  have HX6 := Lib.hid (HX5.out.on hb6)
  clear h6 hb6
  go_wp2
  go_ret
  exact ⟨rfl, HX6.out.old⟩
end Go.Proofs.Ytbcckfggnlmhoaa
