/-
  Our own text, in the proof of the law DiskInvariant of package disk (cayleylaw04). Proved here: Sum. Conditions: the images lie in memory, none beyond 10^9; the word is over eight generators.
-/
import Derived.Test.YtbcckfggnlmhoaaJa
namespace Go.Proofs.Ytbcckfggnlmhoaa
open Go Go.RowKit

theorem idx_table8 : ∀ n : Nat, n < 256 → letB 8 (UInt8.ofNat n) = true → 0 ≤ idxI 8 (UInt8.ofNat n) ∧ idxI 8 (UInt8.ofNat n) < 16 := by decide +kernel
theorem idx8 {c : UInt8} (h : letB 8 c = true) : 0 ≤ idxI 8 c ∧ idxI 8 c < 16 := all_u8 (fun c => letB 8 c = true → 0 ≤ idxI 8 c ∧ idxI 8 c < 16) idx_table8 c h
theorem sumW_snoc (f : Int → Int) (l : List UInt8) (k : Nat) (h : k < l.length) : sumW f (l.take (k + 1)) = sumW f (l.take k) + valC f l[k] := by
  rw [List.take_succ_eq_append_getElem h, sumW_app, sumW_cons, sumW_nil]; omega
theorem sumW_le (f : Int → Int) (hf : ∀ i, -1000000000 ≤ f i ∧ f i ≤ 1000000000) : ∀ l : List UInt8, -(1000000000 * (l.length : Int)) ≤ sumW f l ∧ sumW f l ≤ 1000000000 * (l.length : Int)
  | [] => by simp [sumW]
  | c :: l => by
    have h := sumW_le f hf l
    have h2 := hf (idxI 8 c / 2)
    rw [sumW_cons]
    have hv : -1000000000 ≤ valC f c ∧ valC f c ≤ 1000000000 := by unfold valC; split <;> omega
    simp only [List.length_cons]
    omega

set_option maxHeartbeats 4000000 in
set_option maxRecDepth 100000 in
theorem Sum_any (f : Int → Int) (hf : ∀ i, -1000000000 ≤ f i ∧ f i ≤ 1000000000) (b o : Nat) (l : List UInt8) (ha : l.all (letB 8) = true) (hl : l.length ≤ 100000000) (w : World) (him : ∀ i, i < 8 → w.cell? ⟨b, o + i, none⟩ = some (.int .i64 (f (i : Int)))) :
    Calls Try.prog 35 #[.string ⟨l.toArray⟩, .slice (some ⟨b, o, none⟩) 8 8] w fun e w' => e = .returned (.int .i64 (sumW f l)) ∧ w = w' := by
  have HIM := Lib.hid him
  have HA := Lib.hid ha
  have HF := Lib.hid hf
  have HSZ : (ByteArray.mk l.toArray).size = l.length := size_mk l
  clear him ha hf
  go_enter Try.func35, Try.ntmps35
  go_wp2
  go_loop [5, 6, 7] (fun s i _ => ∃ k : Nat, k ≤ l.length ∧ i = .int .i64 (k : Int) ∧ s = .int .i64 (sumW f (l.take k))) (fun _ i _ => l.length - (intOf i).toNat)
  case atStart => exact ⟨0, Nat.zero_le _, rfl, rfl⟩
  case round =>
    obtain ⟨k, hk, rfl, rfl⟩ := hrel
    by_cases hlt : k < l.length
    · have HS := Lib.hid (sumW_snoc f l k hlt)
      have hb := sumW_le f HF.out (l.take k)
      have hlk : (l.take k).length = k := by rw [List.length_take]; omega
      rw [hlk] at hb
      have hc := idx8 (List.all_eq_true.1 HA.out l[k] (List.getElem_mem hlt))
      have hI := Index_any 8 l[k] w
      have hd : decide ((k : Int) < (l.length : Int)) = true := by simp; omega
      have hd' : decide (k < l.length) = true := by simpa using hlt
      obtain ⟨q, hq⟩ : ∃ q, idxI 8 l[k] = q := ⟨_, rfl⟩
      rw [hq] at hI hc
      obtain ⟨m, hm⟩ : ∃ m : Nat, q / 2 = (m : Int) := ⟨(q / 2).toNat, by omega⟩
      have hm8 : m < 8 := by omega
      have hmi : (m : Int) < 8 := by omega
      have ht : Int.tdiv q 2 = (m : Int) := by rw [Int.tdiv_eq_ediv_of_nonneg hc.1]; exact hm
      have ht2 : Int.tmod q 2 = q % 2 := Int.tmod_eq_emod_of_nonneg hc.1
      have him := HIM.out m hm8
      have hfm := HF.out (m : Int)
      have hc0 := hc.1
      by_cases hpar : q % 2 = 0
      · skip
        have hd2 : (q % 2 == 0) = true := by simpa using hpar
        have hd3 : (Int.tmod q 2 == 0) = true := by rw [ht2]; exact hd2
        have HV : Hid (valC f l[k] = f (m : Int)) := Lib.hid (by unfold valC; rw [hq, if_pos hpar, hm])
        have hw : IntKind.i64.wrap (sumW f (l.take k) + f (m : Int)) = sumW f (l.take k) + f (m : Int) := by rw [IntKind.wrap_i64]; omega
        clear hpar
        go_wp2_with fail
        refine hI.mono ?_
        rintro e w1 ⟨rfl, rfl⟩
        go_wp2
        go_round
        case rel => exact ⟨k + 1, by omega, by go_num, by rw [HS.out, HV.out]⟩
        case measure => simp [intOf]; omega
      · skip
        have hd2 : (q % 2 == 0) = false := by simpa using hpar
        have hd3 : (Int.tmod q 2 == 0) = false := by rw [ht2]; exact hd2
        have HV : Hid (valC f l[k] = - f (m : Int)) := Lib.hid (by unfold valC; rw [hq, if_neg hpar, hm])
        have hw : IntKind.i64.wrap (sumW f (l.take k) - f (m : Int)) = sumW f (l.take k) - f (m : Int) := by rw [IntKind.wrap_i64]; omega
        clear hpar
        go_wp2_with fail
        refine hI.mono ?_
        rintro e w1 ⟨rfl, rfl⟩
        go_wp2
        go_round
        case rel => exact ⟨k + 1, by omega, by go_num, by rw [HS.out, HV.out]; first | rfl | (congr 1; omega)⟩
        case measure => simp [intOf]; omega
    · obtain rfl : k = l.length := by omega
      have HE : Hid (sumW f (l.take l.length) = sumW f l) := Lib.hid (by rw [List.take_length])
      go_wp2
      go_ret
      exact ⟨rfl, rfl⟩
end Go.Proofs.Ytbcckfggnlmhoaa
