/-
  Our own text, in the proofs of the laws of package disk (cayleylaw04). Proved here: Reduce and Invert of the reference. Conditions: none but bounds.
-/
import Derived.Test.YtbcckfggnlmhoaaAf
namespace Go.Proofs.Ytbcckfggnlmhoaa
open Go Go.RowKit

theorem own_empty (w : World) (B e sz : Nat) (hB : B ≤ w.heap.size) : (w.alloc (.cells #[] e)).ownsRow B e sz (.slice (some ⟨w.heap.size, 0, none⟩) 0 0) 0 [] :=
  World.ownsRow_made w #[] 0 hB (by unfold maxLen; omega) (by simp)
theorem below_of_grown {w w1 w2 : World} {B : Nat} {A : Option Addr} (h : Below B w w1) (hg : w1.grownBy w2 (blk A)) (hB : B ≤ w1.heap.size) (hA : ∀ a, A = some a → B ≤ a.block) : Below B w w2 :=
  h.grown hg hB (fun k hk => by cases A with
    | none => cases hk
    | some a => cases hk; exact hA a rfl)
theorem own_ge {w : World} {B e sz n cap : Nat} {A : Option Addr} {xs : List Value} (h : w.ownsRow B e sz (.slice A n cap) n xs) : ∀ a, A = some a → B ≤ a.block := by
  intro a ha
  rcases own_shape h with ⟨h, _⟩ | ⟨g, h, hg, _⟩
  · rw [h] at ha; cases ha
  · rw [h] at ha; cases ha; exact hg

set_option maxHeartbeats 400000 in
theorem Reduce_any (s : ByteArray) (w : World) (hall : s.data.toList.all (letB 8) = true) (hn : s.size ≤ 1000000000) :
    Calls Try.prog 25 #[.string s] w fun e w' => e = .returned (.string ⟨(red s.data.toList).toArray⟩) ∧ Below w.heap.size w w' := by
  have hR := refRed_any w.heap.size (some ⟨w.heap.size, 0, none⟩) 0 [] s (w.alloc (.cells #[] 5)) (own_empty w _ 5 1 (Nat.le_refl _)) hall (by simpa using hn) (by simp)
  have HB0 : Hid (Below w.heap.size w (w.alloc (.cells #[] 5))) := Lib.hid ((Below.refl _ _).alloc (Nat.le_refl _) _)
  simp only [List.length_nil] at hR
  clear hall
  go_enter Try.func25, Try.ntmps25
  go_wp2_with fail
  refine hR.mono ?_
  rintro e w1 ⟨A', cap', rfl, hown, hg, hm⟩
  have hrow := rowAt_own hown
  have hrun := run_string_row w1 A' cap' (run [] s.data.toList).reverse hrow
  rw [List.length_reverse] at hrun
  have HB1 := Lib.hid (below_of_grown HB0.out hg (by simp) (fun a ha => by cases ha; exact Nat.le_refl _))
  clear hown hg hm hrow hR
  go_wp2
  go_ret
  exact ⟨rfl, HB1.out⟩

set_option maxHeartbeats 1000000 in
set_option maxRecDepth 100000 in
theorem Invert_any (s : ByteArray) (w : World) (hall : s.data.toList.all (letB 8) = true) (hn : s.size ≤ 1000000000) :
    Calls Try.prog 26 #[.string s] w fun e w' => e = .returned (.string ⟨(invW s.data.toList).toArray⟩) ∧ Below w.heap.size w w' := by
  have HALL := Lib.hid hall
  have HO0 := Lib.hid (own_empty w w.heap.size 5 1 (Nat.le_refl _))
  have HB0 : Hid (Below w.heap.size w (w.alloc (.cells #[] 5))) := Lib.hid ((Below.refl _ _).alloc (Nat.le_refl _) _)
  clear hall
  go_enter Try.func26, Try.ntmps26
  go_wp2
  go_loopw [3, 4] (fun out i wr => ∃ (m k : Nat) (q : Int) (O' : Option Addr) (oc' : Nat), m + k = s.size ∧ i = .int .i64 q ∧ q + 1 = (m : Int) ∧ out = .slice O' k oc' ∧ wr.ownsRow w.heap.size 5 1 (.slice O' k oc') k (bs (invW (s.data.toList.drop m))) ∧ Below w.heap.size w wr)
    (fun _ i _ => ((intOf i) + 1).toNat)
  case atStart => exact ⟨s.size, 0, _, _, 0, by omega, rfl, by omega, rfl, by rw [List.drop_eq_nil_of_le (by simp)]; exact HO0.out, HB0.out⟩
  case round =>
    obtain ⟨m, k, q, O', oc', hk, rfl, hq, rfl, hown, hb⟩ := hrel
    have HOW := Lib.hid hown
    have HB := Lib.hid hb
    clear hown hb
    cases m with
    | succ m =>
      obtain rfl : q = (m : Int) := by omega
      clear hq
      have hlt : m < s.size := by omega
      have HSN : Hid (invW (s.data.toList.drop m) = invW (s.data.toList.drop (m + 1)) ++ [invc s[m]]) := Lib.hid (by
        have e : s.data.toList.drop m = s[m] :: s.data.toList.drop (m + 1) := by
          rw [List.drop_eq_getElem_cons (by simp; omega)]; rfl
        rw [e]; exact ginv_cons _ _ _)
      have hI := inverted_any s[m] wr
      rw [invt_let (all_get HALL.out m hlt)] at hI
      have HK : Hid (m + 1 + k = s.size) := Lib.hid hk
      have hk2 : k ≤ 1000000000 := by omega
      clear hk
      go_wp2_with fail
      refine hI.mono ?_
      rintro e w' ⟨rfl, rfl⟩
      go_wp2_with (at_builtin; refine append_one wr rfl (.tmp 13) (.tmp 18) rfl w.heap.size O' k oc' _ (invc s[m]) rfl HOW.out _ rfl rfl (by omega) HB.out.size ?_; intro A' cap' w1 hown1 hg1 hm1)
      have H1 := Lib.hid hown1
      have B1 := Lib.hid (below_of_grown HB.out hg1 HB.out.size (own_ge HOW.out))
      clear hown1 hg1 hm1
      go_wp2
      go_roundw
      case rel => exact ⟨m, k + 1, _, A', cap', by have := HK.out; omega, rfl, by omega, rfl, by rw [HSN.out]; exact H1.out, B1.out⟩
      case measure => simp [intOf]
    | zero =>
      obtain rfl : q = -1 := by omega
      obtain rfl : k = s.size := by omega
      have hrow := rowAt_own HOW.out
      rw [List.drop_zero] at hrow
      have hrun := run_string_row wr O' oc' (invW s.data.toList) hrow
      rw [show (invW s.data.toList).length = s.size by simp [ginv]] at hrun
      clear hrow hq hk
      go_wp2
      go_ret
      exact ⟨rfl, HB.out⟩
end Go.Proofs.Ytbcckfggnlmhoaa
