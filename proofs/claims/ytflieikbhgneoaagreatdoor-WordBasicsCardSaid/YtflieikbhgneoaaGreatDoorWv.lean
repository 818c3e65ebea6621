/-
  Our own text, in the proofs of the laws of package word (cayleylaw01). Proved here: appendReduced. Conditions: the arguments read as the row says and the listed tables lie as the program lays them; none other.
-/
import Derived.Test.YtflieikbhgneoaaGreatDoorWu
import Derived.Test.YtflieikbhgneoaaGreatDoorLawT
import Derived.IntWalk
namespace Go.Proofs.YtflieikbhgneoaaGreatDoor
open Go Go.RowKit

/-- The free reduction of two words that meet: the first one's letters, the last one ahead. -/
def apR : List UInt8 → List UInt8 → List UInt8
  | x :: r, c :: v => if (x ^^^ c == 32) = true then apR r v else (x :: r).reverse ++ c :: v
  | r, v => r.reverse ++ v
def ap (u v : List UInt8) : List UInt8 := apR u.reverse v

theorem apR_len : ∀ r v : List UInt8, (apR r v).length ≤ r.length + v.length
  | [], v => by simp [apR]
  | x :: r, [] => by simp [apR]
  | x :: r, c :: v => by
    unfold apR; split
    · have := apR_len r v; simp; omega
    · simp; omega
theorem ap_len (u v : List UInt8) : (ap u v).length ≤ u.length + v.length := by simpa [ap] using apR_len u.reverse v

def sliceN : Value → Nat | .slice _ m _ => m | _ => 0
theorem sliceN_mk (A : Option Addr) (m c : Nat) : sliceN (.slice A m c) = m := rfl

set_option maxHeartbeats 1000000 in
set_option maxRecDepth 100000 in
theorem appendReduced_any (B : Nat) (A : Option Addr) (n cap : Nat) (u v : List UInt8) (w : World) (h : ownT w B (.slice A n cap) n u) (hB : B ≤ w.heap.size) (hn : u.length + v.length ≤ 100000000) :
    Calls Tryz.prog 67 #[.slice A n cap, .string ⟨v.toArray⟩] w fun e w' => (∃ A' n' cap', e = .returned (.slice A' n' cap') ∧ ownT w' B (.slice A' n' cap') n' (ap u v)) ∧ Below B w w' := by
  have hnu := h.1
  have HH := Lib.hid h
  clear h
  go_enter Tryz.func67, Tryz.ntmps67
  go_wp2
  go_loopw [0, 1] (fun a b wr => ∃ (m q : Nat) (r v' : List UInt8), a = .slice A m cap ∧ b = .string ⟨v'.toArray⟩ ∧ m = r.length ∧ ownT w B (.slice A m cap) m r.reverse ∧ apR r v' = ap u v ∧ r.length + v'.length ≤ 100000000 ∧ wr = w.drewN q)
    (fun a _ _ => sliceN a)
  case atStart => exact ⟨n, 0, u.reverse, v, rfl, rfl, by simp [hnu], by rw [List.reverse_reverse]; exact HH.out, rfl, by simpa using hn, rfl⟩
  case round =>
    obtain ⟨m, q, r, v', rfl, rfl, hm, hown, hap, hlen, hw⟩ := hrel
    have HO : Hid (ownT wr B (.slice A m cap) m r.reverse) := Lib.hid (by rw [hw]; exact hown.drewN q)
    have HW := Lib.hid hw
    have HOW := Lib.hid hown
    clear hw hown
    have hbw : ∀ k, Below B w (wr.drewN k) := fun k => by rw [HW.out]; exact ((Below.refl B w).drewN q).drewN k
    have HBW := Lib.hid hbw
    have hbsz : ∀ k, B ≤ (wr.drewN k).heap.size := fun k => Nat.le_trans hB (hbw k).size
    have HSZ := Lib.hid hbsz
    clear hbw hbsz
    cases r with
    | nil =>
      obtain rfl : m = 0 := by simpa using hm
      have hap2 : v' = ap u v := by rw [← hap]; simp [apR]
      have HAP := Lib.hid hap2
      clear hm hap hap2
      go_wp2
      go_quiet (fail)
      go_wp2_with (at_builtin; refine append_T (wr.drewN nq) rfl (.tmp 30) (.tmp 31) rfl B _ _ _ v' rfl (HO.out.drewN nq) rfl (by simp at hlen ⊢; omega) (HSZ.out nq) ?_)
      intro A' cap' w1 hown1 hb1
      go_wp2
      go_ret
      exact ⟨⟨A', _, cap', rfl, by rw [← HAP.out]; simpa using hown1⟩, (HBW.out nq).trans hb1⟩
    | cons x t =>
      obtain rfl : m = t.length + 1 := by simpa using hm
      obtain ⟨g, hA, hc⟩ := HO.out.cell t.length (by simp)
      subst hA
      have hx : (x :: t).reverse[t.length]'(by simp) = x := by simp
      rw [hx] at hc
      clear hx hm
      cases v' with
      | nil =>
        have hap2 : (x :: t).reverse = ap u v := by rw [← hap]; simp [apR]
        have HAP := Lib.hid hap2
        clear hap hap2
        go_wp2
        go_quiet (fail)
        go_wp2_with (at_builtin; refine append_T (wr.drewN nq) rfl (.tmp 30) (.tmp 31) rfl B _ _ _ [] rfl (HO.out.drewN nq) rfl (by simp at hlen ⊢; omega) (HSZ.out nq) ?_)
        intro A' cap' w1 hown1 hb1
        go_wp2
        go_ret
        exact ⟨⟨A', _, cap', rfl, by rw [← HAP.out]; simpa using hown1⟩, (HBW.out nq).trans hb1⟩
      | cons c v2 =>
        have hz : ((ByteArray.mk (c :: v2).toArray)[0]'(by simp [ByteArray.size])) = c := rfl
        have hcan := cancel_quiet x c wr
        have hwr : IntKind.i64.wrap (t.length : Int) = (t.length : Int) := IntWalk.i64_in _ (by simp at hlen; omega)
        have hti : (0 : Int) ≤ (t.length : Int) := by omega
        by_cases hcc : (x ^^^ c == 32) = true
        · rw [hcc] at hcan
          have hap2 : apR t v2 = ap u v := by rw [← hap]; conv => rhs; unfold apR; rw [if_pos hcc]
          have hcap : t.length ≤ cap := by have := HO.out.cap; omega
          have hsh := HOW.out.shorter t.length (by omega)
          have hsh2 : ownT w B (.slice (some ⟨g, 0, none⟩) t.length cap) t.length t.reverse := by simpa using hsh
          have HSH := Lib.hid hsh2
          have HAP := Lib.hid hap2
          have HC := Lib.hid hcan
          have hxx : (ByteArray.mk (c :: v2).toArray).extract 1 (v2.length + 1) = ⟨v2.toArray⟩ := ba_ext (by simp [ByteArray.data_extract, List.extract_eq_take_drop])
          clear hap hap2 hsh hsh2 hcan hcc
          go_wp2
          go_quiet ((go_at_call 52; exact HC.out _))
          go_wp2
          go_roundw
          case rel => exact ⟨t.length, q + nq, t, v2, rfl, rfl, rfl, HSH.out, HAP.out, by simp at hlen; omega, by rw [HW.out, World.drewN_drewN]⟩
          case measure => simp [sliceN_mk]
        · have hcf : (x ^^^ c == 32) = false := by simpa using hcc
          rw [hcf] at hcan
          have hap2 : (x :: t).reverse ++ c :: v2 = ap u v := by rw [← hap]; conv => rhs; unfold apR; rw [if_neg hcc]
          have HAP := Lib.hid hap2
          have HC := Lib.hid hcan
          clear hap hap2 hcan hcc hcf
          go_wp2
          go_quiet ((go_at_call 52; exact HC.out _))
          go_wp2_with (at_builtin; refine append_T (wr.drewN nq) rfl (.tmp 30) (.tmp 31) rfl B _ _ _ (c :: v2) rfl (HO.out.drewN nq) rfl (by simp at hlen ⊢; omega) (HSZ.out nq) ?_)
          intro A' cap' w1 hown1 hb1
          go_wp2
          go_ret
          exact ⟨⟨A', _, cap', rfl, by rw [← HAP.out]; simpa using hown1⟩, (HBW.out nq).trans hb1⟩
end Go.Proofs.YtflieikbhgneoaaGreatDoor
