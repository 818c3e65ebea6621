/-
  Our own text, in the proofs of the laws of package word (cayleylaw01). Proved here: inverse and Inverse return the inverse word. Conditions: the arguments read as the row says and the listed tables lie as the program lays them; none other.
-/
import Derived.Test.YtflieikbhgneoaaGreatDoorLaw
import Derived.Test.YtflieikbhgneoaaGreatDoorWb
import Derived.Laws.BitsAllLaws
namespace Go.Proofs.YtflieikbhgneoaaGreatDoor
open Go Go.RowKit

theorem Tryz.info5 : (Tryz.prog.info? 5).map (fun i => (i.zero, i.size, i.bytes)) = some (some (.int .u8 0), 1, 1) := by kernel_rfl

/-- The inverse of a letter, and of a word. -/
def invc (c : UInt8) : UInt8 := c ^^^ 32
def invW (l : List UInt8) : List UInt8 := (l.map invc).reverse

theorem xor_u8_32 (x : UInt8) : bits BinOp.xor IntKind.u8 (x.toNat : Int) 32 = ((invc x).toNat : Int) := xor_u8 x 32

theorem invW_snoc (s : ByteArray) (k : Nat) (h : k < s.size) (n : Nat) :
    (List.replicate (n + 1) (0 : UInt8) ++ invW (s.data.toList.take k)).set n (invc s[k]) = List.replicate n 0 ++ invW (s.data.toList.take (k + 1)) := by
  have e : s.data.toList.take (k + 1) = s.data.toList.take k ++ [s[k]] := by
    rw [List.take_succ_eq_append_getElem (by simpa using h)]; rfl
  rw [e]
  simp [invW, List.replicate_succ', List.set_append]

theorem bs_set (l : List UInt8) (n : Nat) (c : UInt8) : bs (l.set n c) = (bs l).set n (.int .u8 c.toNat) := by
  simp [bs, List.map_set]
theorem below_set {w w' : World} {g : Nat} (h : w.grownBy w' (some g)) (B : Nat := g) (hB : B ≤ g := by omega) (hl : B ≤ w.heap.size := by omega) : Below B w w' :=
  (Below.refl B w).grown h hl (fun k hk => by cases hk; exact hB)

set_option maxHeartbeats 400000 in
theorem inverse_any (s : ByteArray) (w : World) (hs : s.size ≤ 140737488351232) :
    Calls Tryz.prog 36 #[.string s] w fun e w' => e = .returned (.string ⟨(invW s.data.toList).toArray⟩) ∧ Below w.heap.size w w' := by
  obtain ⟨i0, hi, hz0, hz1, hz2⟩ := info_parts Tryz.info5
  go_enter Tryz.func36, Tryz.ntmps36
  go_wp2_with (at_make; refine wpList_make_full _ rfl _ _ 48 rfl w.heap.size 5 i0 (.int .u8 0) 1 Tryz.underlying48 hi hz0 hz1 _ _ _ _ s.size rfl rfl rfl rfl ?b2 ?b3 (Nat.le_refl _) ?_)
  case b2 => rw [hz2]; omega
  case b3 => unfold maxLen; omega
  intro w0 hown0 hgrow0
  go_wp2
  have hown1 : w0.ownsRow w.heap.size 5 1 (.slice (some ⟨w.heap.size, 0, none⟩) s.size s.size) s.size (bs (List.replicate s.size 0 ++ invW (s.data.toList.take 0))) := by
    have : (madeCells #[Value.int .u8 0] s.size).toList = bs (List.replicate s.size 0 ++ invW (s.data.toList.take 0)) := by
      rw [toList_madeCells_one]
      simp [bs, invW]
    rw [← this]; exact hown0
  clear hown0
  go_loopw [10] (fun i wr => ∃ k : Nat, k ≤ s.size ∧ i = .int .i64 k ∧
      wr.ownsRow w.heap.size 5 1 (.slice (some ⟨w.heap.size, 0, none⟩) s.size s.size) s.size (bs (List.replicate (s.size - k) 0 ++ invW (s.data.toList.take k))) ∧ Below w.heap.size w wr)
    (fun i _ => s.size - (intOf i).toNat)
  case atStart => exact ⟨0, Nat.zero_le _, rfl, hown1, (Below.refl _ _).grown hgrow0 (Nat.le_refl _) (fun k h => by cases h)⟩
  case round =>
    obtain ⟨k, hk, rfl, hown, hb⟩ := hrel
    by_cases hlt : k < s.size
    · have hc := hown.cellAt (s.size - 1 - k) (by omega)
      have hf := hown.frozenAt (s.size - 1 - k)
      have hst := hown.stored (s.size - 1 - k) (.int .u8 (invc s[k]).toNat)
      have hx := xor_u8_32 s[k]
      have hlen : (bs (List.replicate (s.size - k) 0 ++ invW (s.data.toList.take k))).length = s.size := by have := hown.1; simpa using this
      rw [List.getElem?_eq_getElem (by omega)] at hc
      have hin := invW_snoc s k hlt (s.size - 1 - k)
      generalize (bs (List.replicate (s.size - k) 0 ++ invW (s.data.toList.take k)))[s.size - 1 - k]'(by omega) = v0 at hc
      have HB := Lib.hid hb
      have HST := Lib.hid hst
      have HIN := Lib.hid hin
      have HX := Lib.hid hx
      clear hb hst hown1 hgrow0 hin hx hown hlen
      go_wp2
      go_roundw
      case rel =>
        rw [HX.out]
        refine ⟨k + 1, by omega, by go_num, ?_, HB.out.trans (below_set (HST.out).2 w.heap.size (Nat.le_refl _) HB.out.size)⟩
        have h := (HST.out).1
        have e : s.size - k = s.size - 1 - k + 1 := by omega
        rw [show s.size - (k + 1) = s.size - 1 - k from by omega, ← HIN.out, ← e]
        rw [bs_set]
        exact h
      case measure => simp [intOf]; omega
    · have hk' : k = s.size := by omega
      subst hk'
      rw [Nat.sub_self, List.take_of_length_le (by simp)] at hown
      simp only [List.replicate_zero, List.nil_append] at hown
      clear hown1 hgrow0
      have hrun := run_string_own (P := Tryz.prog) wr 48 9 5 Tryz.underlying48 Tryz.underlying5 Tryz.underlying9 _ _ _ _ _ hown
      generalize hL : (invW s.data.toList) = L at *
      have HL := Lib.hid hL
      clear hL hown
      go_wp2
      go_ret
      exact ⟨by rw [HL.out]; rfl, hb⟩

set_option maxHeartbeats 400000 in
theorem Inverse_yes (s : ByteArray) (w : World) (ht : Tabs w) (hw : isW s.data.toList = true) (hs : s.size ≤ 140737488351232) :
    Calls Tryz.prog 13 #[.string s] w fun e w' => e = .returned (.string ⟨(invW s.data.toList).toArray⟩) ∧ Below w.heap.size w w' := by
  have hI := isWord_any s w ht (by unfold maxLen; omega)
  rw [hw] at hI
  have hV := inverse_any s w hs
  clear ht hw
  go_enter Tryz.func13, Tryz.ntmps13
  go_wp2_with (first | (go_at_call 35; refine hI.mono ?_; rintro e w' ⟨rfl, rfl⟩) | (go_at_call 36; refine hV.mono ?_; rintro e w' ⟨rfl, hb⟩))
  go_ret
  exact ⟨rfl, hb⟩

set_option maxHeartbeats 400000 in
theorem Inverse_no (s : ByteArray) (w : World) (ht : Tabs w) (hw : isW s.data.toList = false) (hs : s.size ≤ 140737488351232) :
    Calls Tryz.prog 13 #[.string s] w fun e w' => e = .returned (.string ⟨#[]⟩) ∧ w = w' := by
  have hI := isWord_any s w ht (by unfold maxLen; omega)
  rw [hw] at hI
  clear ht hw
  go_enter Tryz.func13, Tryz.ntmps13
  go_wp2_with (go_at_call 35; refine hI.mono ?_; rintro e w' ⟨rfl, rfl⟩)
  go_ret
  exact ⟨rfl, rfl⟩
end Go.Proofs.YtflieikbhgneoaaGreatDoor
