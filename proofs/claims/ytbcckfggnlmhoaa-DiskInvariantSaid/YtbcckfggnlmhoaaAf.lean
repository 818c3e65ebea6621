/-
  Our own text, in the proofs of the laws of package disk (cayleylaw04). Proved here: reduced, Reduce and Invert of the reference. Conditions: none but bounds.
-/
import Derived.Test.YtbcckfggnlmhoaaAe
namespace Go.Proofs.Ytbcckfggnlmhoaa
open Go Go.RowKit

theorem grun_take_succ' (f : UInt8 → UInt8) (r : List UInt8) (s : ByteArray) (k : Nat) (h : k < s.size) : grun f r (s.data.toList.take (k + 1)) = gstp f (grun f r (s.data.toList.take k)) s[k] := by
  rw [take_snoc s k h, grun_snoc]
theorem all_get {s : ByteArray} {p : UInt8 → Bool} (h : s.data.toList.all p = true) (k : Nat) (hk : k < s.size) : p s[k] = true := by
  refine List.all_eq_true.1 h _ ?_
  have : s[k] = s.data.toList[k]'(by simpa using hk) := rfl
  rw [this]; exact List.getElem_mem _

set_option maxHeartbeats 2000000 in
set_option maxRecDepth 100000 in
theorem refRed_any (B : Nat) (O : Option Addr) (oc : Nat) (r : List UInt8) (l : ByteArray) (w : World) (hown : w.ownsRow B 5 1 (.slice O r.length oc) r.length (bs r.reverse))
    (hall : l.data.toList.all (letB 8) = true) (hn : r.length + l.size ≤ 1000000000) (hB : B ≤ w.heap.size) :
    Calls Try.prog 54 #[.slice O r.length oc, .string l] w (AppP w B O (run r l.data.toList)) := by
  have HALL := Lib.hid hall
  have HO := Lib.hid hown
  clear hall hown
  go_enter Try.func54, Try.ntmps54
  go_wp2
  go_loopw [0, 5, 6] (fun out i _ wr => ∃ (k : Nat) (s : List UInt8) (O' : Option Addr) (n oc' : Nat), k ≤ l.size ∧ i = .int .i64 (k : Int) ∧ s = run r (l.data.toList.take k) ∧ n = s.length ∧ n ≤ r.length + k ∧ out = .slice O' n oc' ∧ wr.ownsRow B 5 1 (.slice O' n oc') n (bs s.reverse) ∧ w.grownBy wr (blk O) ∧ Moved w O O')
    (fun _ i _ _ => l.size - (intOf i).toNat)
  case atStart => exact ⟨0, r, O, r.length, oc, Nat.zero_le _, rfl, rfl, rfl, by omega, rfl, HO.out, grown_refl _ _, Moved.refl _ _⟩
  case round =>
    obtain ⟨k, s, O', n, oc', hk, rfl, hs, hns, hnk, rfl, hown, hg, hmv⟩ := hrel
    have HS := Lib.hid hs
    have HG := Lib.hid hg
    have HMV := Lib.hid hmv
    have HOW := Lib.hid hown
    clear hs hg hmv hown
    by_cases hlt : k < l.size
    · have HSN : Hid (gstp invc s l[k] = run r (l.data.toList.take (k + 1))) := Lib.hid (by rw [HS.out]; exact (grun_take_succ' invc r l k hlt).symm)
      have HIV := Lib.hid (invt_let (all_get HALL.out k hlt))
      have HBW := Lib.hid HG.out.size
      cases s with
      | nil =>
        obtain rfl : n = 0 := by simpa using hns
        clear hns
        have hd : decide ((0 : Int) < 0) = false := by decide
        go_wp2
        go_quiet (fail)
        go_wp2_with (at_builtin; refine append_one (wr.drewN nq) rfl (.tmp 33) (.tmp 37) rfl B O' 0 oc' [] l[k] rfl (show (wr.drewN nq).ownsRow _ _ _ _ _ _ from HOW.out) _ rfl rfl (by omega) (Nat.le_trans hB HBW.out) ?_; intro A' cap' w1 hown1 hg1 hm1)
        have H1 := Lib.hid hown1
        have G1 := Lib.hid hg1
        have M1 := Lib.hid hm1
        clear hown1 hg1 hm1
        go_wp2
        go_roundw
        case rel => exact ⟨k + 1, [l[k]], A', 1, cap', by omega, by go_num, HSN.out, rfl, by omega, rfl, H1.out, grown_trans (grown_drewN HG.out nq) G1.out HMV.out, HMV.out.trans M1.out HBW.out⟩
        case measure => simp [intOf]; omega
      | cons x t =>
        obtain rfl : n = t.length + 1 := by simpa using hns
        clear hns
        obtain ⟨g, o2, hO, hx⟩ := rowAt_own HOW.out t.length (by simp)
        obtain rfl : o2 = 0 := by
          rcases own_shape HOW.out with ⟨h, _⟩ | ⟨g', h, _⟩
          · rw [hO] at h; cases h
          · rw [hO] at h; cases h; rfl
        subst hO
        have he : (x :: t).reverse[t.length]'(by simp) = x := by simp
        rw [he, Nat.zero_add] at hx
        clear he
        have hd : decide ((0 : Int) < (t.length : Int) + 1) = true := by simp
        have hd2 : decide ((0 : Nat) < t.length + 1) = true := by simp
        have hcp := own_cap HOW.out
        have hE := eq_nat_bool x (invc l[k])
        have hE2 := eq_nat_bool' x (invc l[k])
        have HI : Hid (∀ m, Calls Try.prog 55 #[.int .u8 l[k].toNat] (wr.drewN m) fun e w'' => e = .returned (.int .u8 (invc l[k]).toNat) ∧ ∃ j, w'' = wr.drewN j) := Lib.hid (by rw [← HIV.out]; exact fun m => Calls.quiet_of_same ((inverted_any l[k] (wr.drewN m)).mono fun _ _ h => ⟨h.1, h.2.symm⟩))
        by_cases hcc : x = invc l[k]
        · have HSN2 : Hid (t = run r (l.data.toList.take (k + 1))) := Lib.hid (by rw [← HSN.out, gstp_cons, if_pos hcc])
          have HT := Lib.hid (own_take (m := t.length) (by omega) HOW.out)
          rw [decide_eq_true hcc] at hE hE2
          clear hcc
          go_wp2
          go_quiet ((go_at_call 55; exact HI.out _))
          go_wp2
          go_roundw
          case rel => exact ⟨k + 1, t, _, t.length, oc', by omega, by go_num, HSN2.out, rfl, by omega, rfl, by show wr.ownsRow _ _ _ _ _ _; have := HT.out; simpa [bs] using this, grown_drewN HG.out nq, HMV.out⟩
          case measure => simp [intOf]; omega
        · have HSN2 : Hid (l[k] :: x :: t = run r (l.data.toList.take (k + 1))) := Lib.hid (by rw [← HSN.out, gstp_cons, if_neg hcc])
          rw [decide_eq_false hcc] at hE hE2
          clear hcc
          go_wp2
          go_quiet ((go_at_call 55; exact HI.out _))
          go_wp2_with (at_builtin; refine append_one (wr.drewN nq) rfl (.tmp 33) (.tmp 37) rfl B _ (t.length + 1) oc' (x :: t).reverse l[k] rfl (show (wr.drewN nq).ownsRow _ _ _ _ _ _ from HOW.out) _ rfl rfl (by omega) (Nat.le_trans hB HBW.out) ?_; intro A' cap' w1 hown1 hg1 hm1)
          have H1 := Lib.hid hown1
          have G1 := Lib.hid hg1
          have M1 := Lib.hid hm1
          clear hown1 hg1 hm1
          go_wp2
          go_roundw
          case rel => exact ⟨k + 1, l[k] :: x :: t, A', t.length + 1 + 1, cap', by omega, by go_num, HSN2.out, rfl, by omega, rfl, by have := H1.out; simpa [bs] using this, grown_trans (grown_drewN HG.out nq) G1.out HMV.out, HMV.out.trans M1.out HBW.out⟩
          case measure => simp [intOf]; omega
    · have hk' : k = l.size := by omega
      subst hk'
      have HR : Hid (s = run r l.data.toList) := Lib.hid (by rw [HS.out, List.take_of_length_le (by simp)])
      go_wp2
      go_ret
      rw [← HR.out]
      subst hns
      exact ⟨O', oc', rfl, HOW.out, HG.out, HMV.out⟩
end Go.Proofs.Ytbcckfggnlmhoaa
