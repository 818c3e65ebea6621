/-
  Our own text, in the proofs of the laws of package rope. Proved here: RopePowers returns true for every rope. Conditions: the nodes lie in memory as the slice says; the listed table lies as the program lays it.
-/
import Derived.Test.YtgklmcinbaghmaaDoorSc
import Derived.Deep.DeepCutAuto
namespace Go.Proofs.YtgklmcinbaghmaaDoor
open Go Go.RowKit

theorem p_lenG {w0 : World} {A A1 A2 : Option Addr} {r R1 R2 : List Nd} {w : World} (h : Sp w0 A r A1 R1 A2 R2 w) (B : Option Addr) (t : List Nd) (m c : Nat) (s : Int) (hB : RopeAt w B t) (hl : t.length = m) (ht : m ≤ maxLen) (h1 : lenI t = s) (h2 : errI t = 0) :
    Calls Tryd.prog 7 #[.slice B m c] w fun e w' => e = .returned (.tuple #[.int .i64 s, .int .i64 0]) ∧ Sp w0 A r A1 R1 A2 R2 w' := by
  subst hl h1
  rw [← h2]
  exact p_len h B t c hB ht
theorem p_atG {w0 : World} {A A1 A2 : Option Addr} {r R1 R2 : List Nd} {w : World} (h : Sp w0 A r A1 R1 A2 R2 w) (B : Option Addr) (t : List Nd) (m c : Nat) (i : Int) (hB : RopeAt w B t) (hl : t.length = m) (ht : m ≤ maxLen) :
    Calls Tryd.prog 9 #[.slice B m c, .int .i64 i] w fun e w' => e = .returned (.tuple #[.int .u8 (atB t i).toNat, .int .i64 (atE t i)]) ∧ Sp w0 A r A1 R1 A2 R2 w' := by
  subst hl
  exact p_at h B t c i hB ht

set_option maxHeartbeats 4000000 in
set_option maxRecDepth 100000 in
theorem powers_ok (A : Option Addr) (r : List Nd) (cap : Nat) (n i : Int) (L K : List Nat) (w : World) (ht : Tabs w) (hr : RopeAt w A r) (hA : A = none → r = []) (hm : r.length ≤ maxLen) (hl : lens r = some L)
    (hn : -9223372036854775808 ≤ n ∧ n ≤ 9223372036854775807) (hi : -9223372036854775808 ≤ i ∧ i ≤ 9223372036854775807) (hnb : ¬ pwBig (lastN L) r.length n) (he : powErr r n = 0) (hk : PwOk r L n (powRope r n) K) :
    Calls Tryd.prog 3 #[.slice A r.length cap, .int .i64 n, .int .i64 i] w fun e w' => e = .returned (.bool true) ∧ Below w.heap.size w w' := by
  have hP := p_pow A r cap n w ht hr hA hm
  rw [he] at hP
  have hI := fun A1 R1 w1 (h : Sp w A r A1 R1 none [] w1) => p_inv w A r cap A1 R1 w1 h hA hm
  rw [invRope_some hl, errI_some hl] at hI
  have hVl : (r.map invN).length = r.length := List.length_map _
  have hVi : ∀ j : Nat, j < lastN L → atB (r.map invN) (j : Int) = invc (atB r ((lastN L : Int) - 1 - (j : Int))) := inv_at hl
  have hV1 : lenI (r.map invN) = (lastN L : Int) := lenI_some (lens_inv hl)
  have hV2 : errI (r.map invN) = 0 := errI_some (lens_inv hl)
  have hr1 : lenI r = (lastN L : Int) := lenI_some hl
  have hr2 : errI r = 0 := errI_some hl
  have hk1 : lenI (powRope r n) = (lastN K : Int) := lenI_some hk.lens
  have hk2 : errI (powRope r n) = 0 := errI_some hk.lens
  obtain ⟨k1, k2, k3⟩ := lens_ok hl
  have hkb := (lens_ok hk.lens).2.1
  have hs60 : (lastN L : Int) ≤ 1152921504606846976 := okL_le k2 _
  have hK60 : (lastN K : Int) ≤ 1152921504606846976 := okL_le hkb _
  obtain ⟨_, q1, q2, q3, q4, q5, q6⟩ := hk
  have hrl : r.length + 1 ≤ 4000 := by
    rcases Nat.lt_or_ge 4000 (r.length + 1) with h | h
    · exact absurd (.inr h) hnb
    · exact h
  have hqt : 0 < lastN L → tmI n ≤ 1152921504606846976 / (lastN L : Int) := fun hs => by
    rcases Int.lt_or_le (1152921504606846976 / (lastN L : Int)) (tmI n) with h' | h'
    · exact absurd (.inl ⟨hs, h'⟩) hnb
    · exact h'
  generalize powRope r n = R1 at *
  generalize r.map invN = V at *
  generalize lastN L = s at *
  generalize lastN K = k at *
  have HI := Lib.hid hI
  have HM := Lib.hid hm
  have HVL := Lib.hid hVl
  have HVI := Lib.hid hVi
  have HV1 := Lib.hid hV1
  have HV2 := Lib.hid hV2
  have HR1 := Lib.hid hr1
  have HR2 := Lib.hid hr2
  have HK1 := Lib.hid hk1
  have HK2 := Lib.hid hk2
  have HQ1 := Lib.hid q1
  have HQ3 := Lib.hid q3
  have HQ4 := Lib.hid q4
  have HQ5 := Lib.hid q5
  have HQ6 := Lib.hid q6
  have HQT := Lib.hid hqt
  clear ht hr hA hm hI hVl hVi hV1 hV2 hr1 hr2 hk1 hk2 q1 q3 q4 q5 q6 hqt hnb he k1 k2 hkb hl
  go_enter Tryd.func3, Tryd.ntmps3
  go_wp2_with fail
  refine hP.mono ?_; rintro e w1 ⟨A1, c1, rfl, h1⟩; clear hP
  go_wp2_with fail
  refine (HI.out A1 R1 w1 h1).mono ?_; rintro e w2 ⟨A2, c2, rfl, h2⟩; clear h1
  simp only [HVL.out]
  go_wp2_with fail
  refine (p_lenG h2 A r _ cap s h2.ra rfl HM.out HR1.out HR2.out).mono ?_; rintro e w3 ⟨rfl, h3⟩; clear h2
  go_wp2_with fail
  refine (p_lenG h3 A2 V _ c2 s h3.r2 HVL.out HM.out HV1.out HV2.out).mono ?_; rintro e w4 ⟨rfl, h4⟩; clear h3
  go_wp2_with fail
  refine (p_sane h4).mono ?_; rintro e w5 ⟨rfl, h5⟩; clear h4
  go_upto_region 9 with fail
  obtain ⟨bi, hbi⟩ : ∃ b, (decide (0 ≤ i) && decide (i < (s : Int))) = b := ⟨_, rfl⟩
  have HBI := Lib.hid hbi
  clear hbi
  go_cut [96] from 90 to 96 (fun s96 wx => s96 = .bool bi ∧ wx = w5)
  case first =>
    have hbi := HBI.out
    by_cases hi0 : 0 ≤ i
    · have hd : decide (0 ≤ i) = true := by simpa using hi0
      rw [hd, Bool.true_and] at hbi
      go_wp2_with fail
      go_meet
      case rel => exact ⟨rfl, rfl⟩
    · have hd : decide (0 ≤ i) = false := by simpa using hi0
      rw [hd, Bool.false_and] at hbi
      subst hbi
      go_wp2_with fail
      go_meet
      case rel => exact ⟨rfl, rfl⟩
  case rest =>
    obtain ⟨rfl, rfl⟩ := hcut
    go_upto_if 96 with fail
    go_cut [] from 97 to 115 (fun wx => Sp w A r A1 R1 A2 V wx)
    case first =>
      cases bi with
      | false =>
        go_wp2_with fail
        go_meet
        case rel => exact h5
      | true =>
        have hbi := HBI.out
        simp only [Bool.and_eq_true, decide_eq_true_eq] at hbi
        obtain ⟨hi0, his⟩ := hbi
        obtain ⟨j, rfl⟩ := Int.eq_ofNat_of_zero_le hi0
        have hv := HVI.out j (by omega)
        have HV := Lib.hid hv
        clear hv HBI
        go_wp2_with fail
        refine (p_atG h5 A2 V _ c2 j h5.r2 HVL.out HM.out).mono ?_; rintro e w6 ⟨rfl, h6⟩; clear h5
        rw [HV.out]
        generalize atE V (j : Int) = e6
        go_wp2_with fail
        refine (p_atG h6 A r _ cap ((s : Int) - 1 - (j : Int)) h6.ra rfl HM.out).mono ?_; rintro e w7 ⟨rfl, h7⟩; clear h6
        clear HV
        generalize atB r ((s : Int) - 1 - (j : Int)) = c7
        generalize atE r ((s : Int) - 1 - (j : Int)) = e7
        go_wp2_with fail
        refine (rInverse_any c7 _).mono ?_; rintro e w' ⟨rfl, rfl⟩
        go_wp2_with fail
        go_meet
        case rel => exact h7
    case rest =>
      clear h5 HBI
      have h8 : Sp w A r A1 R1 A2 V wc := hcut
      clear hcut
      obtain ⟨t1, ht1⟩ : ∃ t, (if n < 0 then IntKind.i64.wrap (-n) else n) = t := ⟨_, rfl⟩
      obtain ⟨T, hT⟩ : ∃ t, tmI n = t := ⟨_, rfl⟩
      have hT1 : ¬ n = -9223372036854775808 → t1 = T := by
        intro h
        rw [← ht1, ← hT]
        unfold tmI
        rw [if_neg h]
        split
        · exact IntWalk.i64_in _ (by omega)
        · rfl
      have hT2 : n = -9223372036854775808 → T = 9223372036854775807 := by
        intro h; rw [← hT]; unfold tmI; rw [if_pos h]
      have HT0 := Lib.hid hT
      have HT1 := Lib.hid hT1
      have HT2 := Lib.hid hT2
      have Ht1 := Lib.hid ht1
      clear hT hT1 hT2 ht1
      go_upto_if 118 with fail
      go_cut [19] from 116 to 120 (fun s19 wx => s19 = .int .i64 t1 ∧ wx = wc)
      case first =>
        have ht1 := Ht1.out
        by_cases hneg : n < 0
        · have hd : decide (n < 0) = true := by simpa using hneg
          rw [if_pos hneg] at ht1
          go_wp2_with fail
          go_meet
          case rel => exact ⟨rfl, rfl⟩
        · have hd : decide (n < 0) = false := by simpa using hneg
          rw [if_neg hneg] at ht1
          subst ht1
          go_wp2_with fail
          go_meet
          case rel => exact ⟨rfl, rfl⟩
      case rest =>
        obtain ⟨rfl, rfl⟩ := hcut
        go_upto_if 122 with fail
        go_cut [19] from 116 to 122 (fun s19 wx => s19 = .int .i64 T ∧ wx = wc)
        case first =>
          by_cases hmin : n = -9223372036854775808
          · have hT := HT2.out hmin
            have hd : (n == -9223372036854775808) = true := by simpa using hmin
            clear hmin HT1 HT2
            go_wp2_with fail
            go_meet
            case rel => exact ⟨by rw [hT], rfl⟩
          · have hT := HT1.out hmin
            have hd : (n == -9223372036854775808) = false := by simpa using hmin
            clear hmin HT1 HT2
            go_wp2_with fail
            go_meet
            case rel => exact ⟨by rw [hT], rfl⟩
        case rest =>
          obtain ⟨rfl, rfl⟩ := hcut
          clear HT1 HT2 Ht1
          go_upto_region 19 with fail
          go_cut [136] from 123 to 136 (fun s136 wx => s136 = .bool false ∧ wx = wc)
          case first =>
            have hd4 : decide ((4000 : Int) < (r.length : Int) + 1) = false := by simp; omega
            by_cases hs0 : 0 < s
            · have hq := HQT.out hs0
              rw [HT0.out] at hq
              obtain ⟨q, hqq⟩ : ∃ q : Int, 1152921504606846976 / (s : Int) = q := ⟨_, rfl⟩
              rw [hqq] at hq
              have hd : decide (q < T) = false := by simp; omega
              have hs1 : decide ((0 : Int) < (s : Int)) = true := by simp; omega
              have hs2 : ¬ (s : Int) = 0 := by omega
              clear hq
              go_wp2_with fail
              go_meet
              case rel => exact ⟨rfl, rfl⟩
            · have hs1 : decide ((0 : Int) < (s : Int)) = false := by simp; omega
              go_wp2_with fail
              go_meet
              case rel => exact ⟨rfl, rfl⟩
          case rest =>
            obtain ⟨rfl, rfl⟩ := hcut
            have hkm : IntKind.i64.wrap (T * (s : Int)) = (k : Int) := by
              have := HQ1.out
              rw [HT0.out] at this
              rw [← this]
              exact IntWalk.i64_in _ (by omega)
            have HKM := Lib.hid hkm
            clear hkm
            go_wp2_with fail
            refine (p_lenG h8 A1 R1 _ c1 k h8.r1 rfl (by unfold maxLen; omega) HK1.out HK2.out).mono ?_; rintro e w9 ⟨rfl, h9⟩; clear h8
            go_upto_region 22 with fail
            go_cut [178] from 149 to 178 (fun s178 wx => s178 = .bool false ∧ wx = w9)
            case first =>
              have hkm := HKM.out
              have hd5 : decide ((r.length : Int) + 1 < (R1.length : Int)) = false := by simp; omega
              by_cases hn0 : n = 0
              · have hR0 := HQ3.out hn0
                have hd : (n == 0) = true := by simpa using hn0
                have hd6 : ((R1.length : Int) != 0) = false := by rw [hR0]; rfl
                clear hn0 hR0
                go_wp2_with fail
                go_meet
                case rel => exact ⟨rfl, rfl⟩
              · have hd : (n == 0) = false := by simpa using hn0
                go_wp2_with fail
                go_meet
                case rel => exact ⟨rfl, rfl⟩
            case rest =>
              obtain ⟨rfl, rfl⟩ := hcut
              clear HKM
              go_upto_region 24 with fail
              obtain ⟨bj, hbj⟩ : ∃ b, (decide (i < 0) || decide ((k : Int) ≤ i)) = b := ⟨_, rfl⟩
              have HBJ := Lib.hid hbj
              clear hbj
              go_cut [185] from 179 to 185 (fun s185 wx => s185 = .bool bj ∧ wx = wc)
              case first =>
                have hbj := HBJ.out
                by_cases hi0 : i < 0
                · have hd : decide (i < 0) = true := by simpa using hi0
                  rw [hd, Bool.true_or] at hbj
                  subst hbj
                  go_wp2_with fail
                  go_meet
                  case rel => exact ⟨rfl, rfl⟩
                · have hd : decide (i < 0) = false := by simpa using hi0
                  rw [hd, Bool.false_or] at hbj
                  go_wp2_with fail
                  go_meet
                  case rel => exact ⟨rfl, rfl⟩
              case rest =>
                obtain ⟨rfl, rfl⟩ := hcut
                cases bj with
                | true =>
                  go_wp2
                  go_ret
                  exact ⟨rfl, h9.below⟩
                | false =>
                  have hbj := HBJ.out
                  simp only [Bool.or_eq_false_iff, decide_eq_false_iff_not] at hbj
                  obtain ⟨hj0, hjk⟩ := hbj
                  obtain ⟨j, rfl⟩ := Int.eq_ofNat_of_zero_le (show 0 ≤ i by omega)
                  have hjk' : j < k := by omega
                  have hs0 : 0 < s := HQ4.out (by omega)
                  obtain ⟨p, hp⟩ : ∃ p : Nat, j % s = p := ⟨_, rfl⟩
                  have hps : p < s := by rw [← hp]; exact Nat.mod_lt _ hs0
                  have hpI : (j : Int) % (s : Int) = (p : Int) := by rw [← hp]; push_cast; rfl
                  have hpT : Int.tmod (j : Int) (s : Int) = (p : Int) := by rw [Int.tmod_eq_emod_of_nonneg (by omega)]; exact hpI
                  have hs2 : ¬ (s : Int) = 0 := by omega
                  have HPT := Lib.hid hpT
                  have hQ := p_atG h9 A1 R1 _ c1 j h9.r1 rfl (by unfold maxLen; omega)
                  by_cases hneg : n < 0
                  · have hd : decide (n < 0) = true := by simpa using hneg
                    have hv := HQ6.out hneg j hjk'
                    rw [hpI] at hv
                    rw [hv] at hQ
                    generalize hat : atB r ((s : Int) - 1 - (p : Int)) = c at *
                    have HAT := Lib.hid hat
                    clear hat hv hp hpI hpT HBJ hj0 hjk hjk' HQ5 HQ6 HQ4 HQ3 HQ1 HQT HVI
                    generalize atE R1 (j : Int) = e9 at *
                    go_wp2_with fail
                    refine hQ.mono ?_; rintro e w10 ⟨rfl, h10⟩; clear hQ h9
                    have hpT := HPT.out
                    go_wp2_with fail
                    refine (p_atG h10 A r _ cap p h10.ra rfl HM.out).mono ?_; rintro e w11 ⟨rfl, h11⟩; clear h10
                    generalize (atB r (p : Int)).toNat = c7
                    generalize atE r (p : Int) = e7
                    go_wp2_with fail
                    refine (p_atG h11 A r _ cap ((s : Int) - 1 - (p : Int)) h11.ra rfl HM.out).mono ?_; rintro e w12 ⟨rfl, h12⟩; clear h11
                    rw [HAT.out]
                    generalize atE r ((s : Int) - 1 - (p : Int)) = e8
                    go_wp2_with fail
                    refine (rInverse_any c _).mono ?_; rintro e w' ⟨rfl, rfl⟩
                    go_wp2
                    go_ret
                    exact ⟨rfl, h12.below⟩
                  · have hd : decide (n < 0) = false := by simpa using hneg
                    have hv := HQ5.out (by omega) j hjk'
                    rw [hpI] at hv
                    rw [hv] at hQ
                    clear hv hp hpI hpT HBJ hj0 hjk hjk' HQ5 HQ6 HQ4 HQ3 HQ1 HQT HVI
                    generalize atE R1 (j : Int) = e9 at *
                    generalize hat : atB r (p : Int) = c at *
                    have HAT := Lib.hid hat
                    clear hat
                    go_wp2_with fail
                    refine hQ.mono ?_; rintro e w10 ⟨rfl, h10⟩; clear hQ h9
                    have hpT := HPT.out
                    go_wp2_with fail
                    refine (p_atG h10 A r _ cap p h10.ra rfl HM.out).mono ?_; rintro e w11 ⟨rfl, h11⟩; clear h10
                    rw [HAT.out]
                    generalize atE r (p : Int) = e7
                    go_wp2
                    go_ret
                    exact ⟨rfl, h11.below⟩
end Go.Proofs.YtgklmcinbaghmaaDoor
