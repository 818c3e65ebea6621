/-
  Our own text, in the proofs of the laws of package disk (cayleylaw04). Proved here: slices.Reverse of bytes that the call owns. Conditions: none but bounds.
-/
import Derived.Test.YtbcckfggnlmhoaaAg
import Derived.RegionTactic
import Derived.BigRegion
namespace Go.Proofs.Ytbcckfggnlmhoaa
open Go Go.RowKit

/-- A list whose i outermost pairs have been exchanged. -/
structure RevTo {α : Type} (l cur : List α) (i : Nat) : Prop where
  len : cur.length = l.length
  ats : ∀ k, k < l.length → cur[k]? = if k < i ∨ l.length ≤ k + i then l[l.length - 1 - k]? else l[k]?
theorem RevTo.start {α : Type} (l : List α) : RevTo l l 0 := ⟨rfl, fun k hk => by rw [if_neg (by omega)]⟩
theorem RevTo.stop {α : Type} {l cur : List α} {i : Nat} (h : RevTo l cur i) (hi : l.length ≤ 2 * i + 1) : cur = l.reverse := by
  apply List.ext_getElem?
  intro k
  by_cases hk : k < l.length
  · rw [h.ats k hk, List.getElem?_reverse hk]
    split
    · rfl
    · rw [show l.length - 1 - k = k by omega]
  · rw [List.getElem?_eq_none (by rw [h.len]; omega), List.getElem?_eq_none (by rw [List.length_reverse]; omega)]
theorem RevTo.step {α : Type} {l cur : List α} {i : Nat} (h : RevTo l cur i) (hi : 2 * i + 1 < l.length) (x y : α) (hx : cur[i]? = some x) (hy : cur[l.length - 1 - i]? = some y) :
    RevTo l ((cur.set i y).set (l.length - 1 - i) x) (i + 1) := by
  have h1 := h.ats i (by omega)
  have h2 := h.ats (l.length - 1 - i) (by omega)
  rw [if_neg (by omega)] at h1 h2
  have hl := h.len
  refine ⟨by simp [h.len], fun k hk => ?_⟩
  rw [List.getElem?_set, List.getElem?_set]
  by_cases e1 : l.length - 1 - i = k
  · subst e1
    rw [if_pos rfl, if_pos (by simp; omega), if_pos (by omega), show l.length - 1 - (l.length - 1 - i) = i by omega, ← h1, hx]
  · rw [if_neg e1]
    by_cases e2 : i = k
    · subst e2
      rw [if_pos rfl, if_pos (by omega), if_pos (by omega), ← h2, hy]
    · rw [if_neg e2, h.ats k hk]
      by_cases hc : k < i ∨ l.length ≤ k + i
      · rw [if_pos hc, if_pos (by omega)]
      · rw [if_neg hc, if_neg (by omega)]

theorem drewN_one (w : World) : w.drew = w.drewN 1 := rfl

set_option maxHeartbeats 2000000 in
set_option maxRecDepth 1000000 in
theorem Reverse_any (B : Nat) (A : Option Addr) (cap : Nat) (l : List UInt8) (w : World) (hown : w.ownsRow B 5 1 (.slice A l.length cap) l.length (bs l)) (hn : l.length ≤ 1000000000) (hB : B ≤ w.heap.size) :
    Calls Try.prog 93 #[.slice A l.length cap] w fun e w' => e = .returned (.tuple #[]) ∧ w'.ownsRow B 5 1 (.slice A l.length cap) l.length (bs l.reverse) ∧ Below B w w' := by
  have HO := Lib.hid hown
  clear hown
  go_enter Try.func93, Try.ntmps93
  go_wp2
  go_loopw [2, 3] (fun i j wr => ∃ (k : Nat) (q : Int) (cur : List UInt8), i = .int .i64 (k : Int) ∧ j = .int .i64 q ∧ q + 1 + (k : Int) = (l.length : Int) ∧ RevTo l cur k ∧ wr.ownsRow B 5 1 (.slice A l.length cap) l.length (bs cur) ∧ Below B w wr)
    (fun i _ _ => l.length - (intOf i).toNat)
  case atStart => exact ⟨0, _, l, rfl, rfl, by simp, RevTo.start l, HO.out, Below.refl _ _⟩
  case round =>
    obtain ⟨k, q, cur, rfl, rfl, hq, hrev, hown, hb⟩ := hrel
    have HR := Lib.hid hrev
    have HOW := Lib.hid hown
    have HB := Lib.hid hb
    clear hrev hown hb
    by_cases hlt : (k : Int) < q
    · obtain ⟨j, rfl⟩ := Int.eq_ofNat_of_zero_le (show 0 ≤ q by omega)
      have hj : j = l.length - 1 - k := by omega
      have hlen : l.length = j + 1 + k := by omega
      have hcl := HR.out.len
      obtain ⟨g, o, hA, hx⟩ := rowAt_own HOW.out k (by omega)
      obtain ⟨g', o', hA', hy⟩ := rowAt_own HOW.out j (by omega)
      obtain ⟨rfl, rfl⟩ : g = g' ∧ o = o' := by rw [hA] at hA'; cases hA'; exact ⟨rfl, rfl⟩
      obtain rfl : o = 0 := by
        rcases own_shape HOW.out with ⟨h, _⟩ | ⟨g', h, _⟩
        · rw [hA] at h; cases h
        · rw [hA] at h; cases h; rfl
      subst hA
      rw [Nat.zero_add] at hx hy
      have HXE : Hid (cur[k]? = some (cur[k]'(by omega))) := Lib.hid (List.getElem?_eq_getElem (by omega))
      have HYE : Hid (cur[j]? = some (cur[j]'(by omega))) := Lib.hid (List.getElem?_eq_getElem (by omega))
      generalize cur[k]'(by omega) = x at *
      generalize cur[j]'(by omega) = y at *
      have hfx := HOW.out.frozenAt k
      have hfy := HOW.out.frozenAt j
      have HS1 := Lib.hid (show (wr.drew).ownsRow B 5 1 (.slice (some ⟨g, 0, none⟩) l.length cap) l.length (bs cur) from HOW.out)
      have HJ := Lib.hid hj
      have HL := Lib.hid hlen
      have hj1 : (j : Int) < (l.length : Int) := by omega
      have hk1 : (k : Int) < (l.length : Int) := by omega
      clear hj hlen hA' hcl hq
      go_wp2_with fail
      go_region
      go_wp2
      go_roundw
      case rel =>
        have h1 := HOW.out.stored k (.int .u8 y.toNat)
        have h2 := h1.1.stored j (.int .u8 x.toNat)
        refine ⟨k + 1, _, (cur.set k y).set j x, by go_num, rfl, by have := HL.out; omega, ?_, ?_, ?_⟩
        · have := HR.out.step (by have := HL.out; omega) x y HXE.out (by rw [← HJ.out]; exact HYE.out)
          rw [← HJ.out] at this; exact this
        · rw [bs_set, bs_set]; exact h2.1
        · have hgB := own_ge HOW.out _ rfl
          have b1 : Below B wr ((wr.setCell { block := g, off := k } (Value.int IntKind.u8 ↑y.toNat)).setCell { block := g, off := j } (Value.int IntKind.u8 ↑x.toNat)) := ((Below.refl B wr).setCell (p := ⟨g, k, none⟩) hgB _).setCell (p := ⟨g, j, none⟩) hgB _
          exact HB.out.trans b1.drew
      case measure => have := HL.out; simp [intOf]; omega
    · have HE : Hid (cur = l.reverse) := Lib.hid (HR.out.stop (by omega))
      go_wp2
      go_end0
      exact ⟨rfl, by rw [← HE.out]; exact HOW.out, HB.out⟩
end Go.Proofs.Ytbcckfggnlmhoaa
