/-
  Our own text, in the proofs of the laws of package rope. Proved here: RopePowers returns true where the power is too long; and for all arguments. Conditions: the nodes lie in memory as the slice says; the listed table lies as the program lays it.
-/
import Derived.Test.YtgklmcinbaghmaaDoorSd
namespace Go.Proofs.YtgklmcinbaghmaaDoor
open Go Go.RowKit

set_option maxHeartbeats 4000000 in
set_option maxRecDepth 100000 in
theorem powers_big (A : Option Addr) (r : List Nd) (cap : Nat) (n i : Int) (L : List Nat) (w : World) (ht : Tabs w) (hr : RopeAt w A r) (hA : A = none → r = []) (hm : r.length ≤ maxLen) (hl : lens r = some L)
    (hn : -9223372036854775808 ≤ n ∧ n ≤ 9223372036854775807) (hi : -9223372036854775808 ≤ i ∧ i ≤ 9223372036854775807) (hnb : pwBig (lastN L) r.length n) (he : powErr r n = 2) (hk : powRope r n = []) :
    Calls Tryd.prog 3 #[.slice A r.length cap, .int .i64 n, .int .i64 i] w fun e w' => e = .returned (.bool true) ∧ Below w.heap.size w w' := by
  have hP := p_pow A r cap n w ht hr hA hm
  rw [he, hk] at hP
  have hI := fun A1 R1 w1 (h : Sp w A r A1 R1 none [] w1) => p_inv w A r cap A1 R1 w1 h hA hm
  rw [invRope_some hl, errI_some hl] at hI
  have hVl : (r.map invN).length = r.length := List.length_map _
  have hVi : ∀ j : Nat, j < lastN L → atB (r.map invN) (j : Int) = invc (atB r ((lastN L : Int) - 1 - (j : Int))) := inv_at hl
  have hV1 : lenI (r.map invN) = (lastN L : Int) := lenI_some (lens_inv hl)
  have hV2 : errI (r.map invN) = 0 := errI_some (lens_inv hl)
  have hr1 : lenI r = (lastN L : Int) := lenI_some hl
  have hr2 : errI r = 0 := errI_some hl
  obtain ⟨k1, k2, k3⟩ := lens_ok hl
  have hs60 : (lastN L : Int) ≤ 1152921504606846976 := okL_le k2 _
  have hbb : (0 < lastN L ∧ 1152921504606846976 / (lastN L : Int) < tmI n) ∨ 4000 < r.length + 1 := hnb
  generalize r.map invN = V at *
  generalize lastN L = s at *
  have HI := Lib.hid hI
  have HM := Lib.hid hm
  have HVL := Lib.hid hVl
  have HVI := Lib.hid hVi
  have HV1 := Lib.hid hV1
  have HV2 := Lib.hid hV2
  have HR1 := Lib.hid hr1
  have HR2 := Lib.hid hr2
  have HBB := Lib.hid hbb
  clear ht hr hA hm hI hVl hVi hV1 hV2 hr1 hr2 hk hbb hnb he k1 k2 hl
  go_enter Tryd.func3, Tryd.ntmps3
  go_wp2_with fail
  refine hP.mono ?_; rintro e w1 ⟨A1, c1, rfl, h1⟩; clear hP
  go_wp2_with fail
  refine (HI.out A1 [] w1 h1).mono ?_; rintro e w2 ⟨A2, c2, rfl, h2⟩; clear h1
  simp only [HVL.out]
  go_wp2_with fail
  refine (p_lenG h2 A r _ cap s h2.ra rfl HM.out HR1.out HR2.out).mono ?_; rintro e w3 ⟨rfl, h3⟩; clear h2
  go_wp2_with fail
  refine (p_lenG h3 A2 V _ c2 s h3.r2 HVL.out HM.out HV1.out HV2.out).mono ?_; rintro e w4 ⟨rfl, h4⟩; clear h3
  go_wp2_with fail
  refine (p_sane h4).mono ?_; rintro e w5 ⟨rfl, h5⟩; clear h4
  go_upto_region 9 with fail
  obtain ⟨bi, hbi⟩ : ∃ b, (decide (0 ≤ i) && decide (i < (s : Int))) = b := ⟨_, rfl⟩
  have HBI := Lib.hid hbi
  clear hbi
  go_cut [96] from 90 to 96 (fun s96 wx => s96 = .bool bi ∧ wx = w5)
  case first =>
    have hbi := HBI.out
    by_cases hi0 : 0 ≤ i
    · have hd : decide (0 ≤ i) = true := by simpa using hi0
      rw [hd, Bool.true_and] at hbi
      go_wp2_with fail
      go_meet
      case rel => exact ⟨rfl, rfl⟩
    · have hd : decide (0 ≤ i) = false := by simpa using hi0
      rw [hd, Bool.false_and] at hbi
      subst hbi
      go_wp2_with fail
      go_meet
      case rel => exact ⟨rfl, rfl⟩
  case rest =>
    obtain ⟨rfl, rfl⟩ := hcut
    go_upto_if 96 with fail
    go_cut [] from 97 to 115 (fun wx => Sp w A r A1 [] A2 V wx)
    case first =>
      cases bi with
      | false =>
        go_wp2_with fail
        go_meet
        case rel => exact h5
      | true =>
        have hbi := HBI.out
        simp only [Bool.and_eq_true, decide_eq_true_eq] at hbi
        obtain ⟨hi0, his⟩ := hbi
        obtain ⟨j, rfl⟩ := Int.eq_ofNat_of_zero_le hi0
        have hv := HVI.out j (by omega)
        have HV := Lib.hid hv
        clear hv HBI
        go_wp2_with fail
        refine (p_atG h5 A2 V _ c2 j h5.r2 HVL.out HM.out).mono ?_; rintro e w6 ⟨rfl, h6⟩; clear h5
        rw [HV.out]
        generalize atE V (j : Int) = e6
        go_wp2_with fail
        refine (p_atG h6 A r _ cap ((s : Int) - 1 - (j : Int)) h6.ra rfl HM.out).mono ?_; rintro e w7 ⟨rfl, h7⟩; clear h6
        clear HV
        generalize atB r ((s : Int) - 1 - (j : Int)) = c7
        generalize atE r ((s : Int) - 1 - (j : Int)) = e7
        go_wp2_with fail
        refine (rInverse_any c7 _).mono ?_; rintro e w' ⟨rfl, rfl⟩
        go_wp2_with fail
        go_meet
        case rel => exact h7
    case rest =>
      clear h5 HBI
      have h8 : Sp w A r A1 [] A2 V wc := hcut
      clear hcut
      obtain ⟨t1, ht1⟩ : ∃ t, (if n < 0 then IntKind.i64.wrap (-n) else n) = t := ⟨_, rfl⟩
      obtain ⟨T, hT⟩ : ∃ t, tmI n = t := ⟨_, rfl⟩
      have hT1 : ¬ n = -9223372036854775808 → t1 = T := by
        intro h
        rw [← ht1, ← hT]
        unfold tmI
        rw [if_neg h]
        split
        · exact IntWalk.i64_in _ (by omega)
        · rfl
      have hT2 : n = -9223372036854775808 → T = 9223372036854775807 := by
        intro h; rw [← hT]; unfold tmI; rw [if_pos h]
      have HT0 := Lib.hid hT
      have HT1 := Lib.hid hT1
      have HT2 := Lib.hid hT2
      have Ht1 := Lib.hid ht1
      clear hT hT1 hT2 ht1
      go_upto_if 118 with fail
      go_cut [19] from 116 to 120 (fun s19 wx => s19 = .int .i64 t1 ∧ wx = wc)
      case first =>
        have ht1 := Ht1.out
        by_cases hneg : n < 0
        · have hd : decide (n < 0) = true := by simpa using hneg
          rw [if_pos hneg] at ht1
          go_wp2_with fail
          go_meet
          case rel => exact ⟨rfl, rfl⟩
        · have hd : decide (n < 0) = false := by simpa using hneg
          rw [if_neg hneg] at ht1
          subst ht1
          go_wp2_with fail
          go_meet
          case rel => exact ⟨rfl, rfl⟩
      case rest =>
        obtain ⟨rfl, rfl⟩ := hcut
        go_upto_if 122 with fail
        go_cut [19] from 116 to 122 (fun s19 wx => s19 = .int .i64 T ∧ wx = wc)
        case first =>
          by_cases hmin : n = -9223372036854775808
          · have hT := HT2.out hmin
            have hd : (n == -9223372036854775808) = true := by simpa using hmin
            clear hmin HT1 HT2
            go_wp2_with fail
            go_meet
            case rel => exact ⟨by rw [hT], rfl⟩
          · have hT := HT1.out hmin
            have hd : (n == -9223372036854775808) = false := by simpa using hmin
            clear hmin HT1 HT2
            go_wp2_with fail
            go_meet
            case rel => exact ⟨by rw [hT], rfl⟩
        case rest =>
          obtain ⟨rfl, rfl⟩ := hcut
          clear HT1 HT2 Ht1
          go_upto_region 19 with fail
          go_cut [136] from 123 to 136 (fun s136 wx => s136 = .bool true ∧ wx = wc)
          case first =>
            by_cases hb : 0 < s ∧ 1152921504606846976 / (s : Int) < T
            · obtain ⟨hs0, hq⟩ := hb
              obtain ⟨q, hqq⟩ : ∃ q : Int, 1152921504606846976 / (s : Int) = q := ⟨_, rfl⟩
              rw [hqq] at hq
              have hd : decide (q < T) = true := by simpa using hq
              have hs1 : decide ((0 : Int) < (s : Int)) = true := by simp; omega
              have hs2 : ¬ (s : Int) = 0 := by omega
              clear hq
              go_wp2_with fail
              go_meet
              case rel => exact ⟨rfl, rfl⟩
            · have h4 : 4000 < r.length + 1 := by
                rcases HBB.out with h | h
                · rw [HT0.out] at h; exact absurd h hb
                · exact h
              have hd4 : decide ((4000 : Int) < (r.length : Int) + 1) = true := by simp; omega
              by_cases hs0 : 0 < s
              · obtain ⟨q, hqq⟩ : ∃ q : Int, 1152921504606846976 / (s : Int) = q := ⟨_, rfl⟩
                have hq : ¬ q < T := fun h => hb ⟨hs0, by rw [hqq]; exact h⟩
                have hd : decide (q < T) = false := by simpa using hq
                have hs1 : decide ((0 : Int) < (s : Int)) = true := by simp; omega
                have hs2 : ¬ (s : Int) = 0 := by omega
                clear hq hb
                go_wp2_with fail
                go_meet
                case rel => exact ⟨rfl, rfl⟩
              · have hs1 : decide ((0 : Int) < (s : Int)) = false := by simp; omega
                clear hb
                go_wp2_with fail
                go_meet
                case rel => exact ⟨rfl, rfl⟩
          case rest =>
            obtain ⟨rfl, rfl⟩ := hcut
            go_wp2
            go_ret
            exact ⟨rfl, h8.below⟩

/-- RopePowers, whatever the list of nodes. -/
theorem powers_any (A : Option Addr) (r : List Nd) (cap : Nat) (n i : Int) (w : World) (ht : Tabs w) (hr : RopeAt w A r) (hA : A = none → r = []) (hm : r.length ≤ maxLen)
    (hn : -9223372036854775808 ≤ n ∧ n ≤ 9223372036854775807) (hi : -9223372036854775808 ≤ i ∧ i ≤ 9223372036854775807) :
    Calls Tryd.prog 3 #[.slice A r.length cap, .int .i64 n, .int .i64 i] w fun e w' => e = .returned (.bool true) ∧ Below w.heap.size w w' := by
  cases hl : lens r with
  | none => exact powers_none A r cap n i w ht hr hA hm hl
  | some L =>
    by_cases hb : pwBig (lastN L) r.length n
    · obtain ⟨h1, h2⟩ := pw_big hl n hn hb
      exact powers_big A r cap n i L w ht hr hA hm hl hn hi hb h1 h2
    · obtain ⟨h1, K, h2⟩ := pw_ok hl n hn hb
      exact powers_ok A r cap n i L K w ht hr hA hm hl hn hi hb h1 h2
end Go.Proofs.YtgklmcinbaghmaaDoor
