/-
  Our own text, in the proofs of the laws of package word (cayleylaw01). Proved here: word.Index and isLetter return what the table says, in every world whose tables lie as initialised. Conditions: the arguments read as the row says and the listed tables lie as the program lays them; none other.
-/
import Derived.Test.YtflieikbhgneoaaGreatDoorRows
import Derived.WalkKit
import Derived.WalkSpells
import Derived.WalkLawsBesides
import Derived.Lib.LaidTab
import Derived.Lib.Hide
import Derived.Lib.ItoaNum
import Derived.Lib.AppendIntMem
import Derived.WalkSmall
namespace Go.Proofs.YtflieikbhgneoaaGreatDoor
open Go.RowKit

/-- The table of letters' places, as the program lays it. -/
def placesL : List Int := List.replicate 65 0 ++ [2, 4, 6, 8, 10, 12, 14, 16] ++ List.replicate 24 0 ++ [1, 3, 5, 7, 9, 11, 13, 15]
def lettersL : List Int := [97, 65, 98, 66, 99, 67, 100, 68, 101, 69, 102, 70, 103, 71, 104, 72]

/-- The index of a byte: what word.Index returns. -/
def idx (c : UInt8) : Int := if c.toNat < 105 then placesL.getD c.toNat 0 - 1 else -1

theorem placesL_bound (i : Nat) : 0 ≤ placesL.getD i 0 ∧ placesL.getD i 0 ≤ 16 := by
  by_cases h : i < 105
  · have : ∀ i, i < 105 → 0 ≤ placesL.getD i 0 ∧ placesL.getD i 0 ≤ 16 := by decide
    exact this i h
  · have hl : placesL.length = 105 := by decide
    have : placesL.getD i 0 = 0 := by simp [List.getD, List.getElem?_eq_none (show placesL.length ≤ i by omega)]
    omega

theorem idx_bound (c : UInt8) : -1 ≤ idx c ∧ idx c ≤ 15 := by
  unfold idx; have := placesL_bound c.toNat; split <;> omega

structure Tabs (w : World) : Prop where
  places : ∀ i, i < 105 → w.cell? ⟨0, i, none⟩ = some (.int .i8 (placesL.getD i 0))
  letters : ∀ i, i < 16 → w.cell? ⟨1, i, none⟩ = some (.int .u8 (lettersL.getD i 0))
  pow : Lib.TabIs Tryz.prog w "internal/strconv.uint64pow10" .u64 Lib.pow10Tab

theorem gPow : Tryz.prog.globalNamed "internal/strconv.uint64pow10" = some 2 := by kernel_rfl
theorem lt_of_cell {w : World} {a : Addr} {v : Value} (h : w.cell? a = some v) : a.block < w.heap.size := by
  rcases Nat.lt_or_ge a.block w.heap.size with h' | h'
  · exact h'
  · simp [World.cell?, Array.getElem?_eq_none h'] at h
theorem Tabs.three {w : World} (ht : Tabs w) : 2 < w.heap.size := lt_of_cell (ht.pow.cell gPow 0 (by decide))
theorem Tabs.below {w w' : World} {B : Nat} (ht : Tabs w) (hB : 2 < B) (hb : Below B w w') : Tabs w' :=
  ⟨fun i h => (hb.cell (show (0 : Nat) < B by omega)).trans (ht.places i h), fun i h => (hb.cell (show (1 : Nat) < B by omega)).trans (ht.letters i h), var?_below hb gPow hB ht.pow⟩
theorem Tabs.on {w w' : World} (ht : Tabs w) (hb : Below w.heap.size w w') : Tabs w' := ht.below ht.three hb
theorem Tabs.drewN {w : World} (ht : Tabs w) (n : Nat) : Tabs (w.drewN n) := ⟨ht.places, ht.letters, ht.pow⟩
theorem Tabs.tab {w : World} (ht : Tabs w) {B : Nat} (hB : 2 < B) : Lib.TabBelow Tryz.prog B w "internal/strconv.uint64pow10" .u64 Lib.pow10Tab :=
  fun _ h => (ht.below hB h).pow

set_option maxHeartbeats 400000 in
theorem index_any (c : UInt8) (w : World) (ht : Tabs w) :
    Calls Tryz.prog 9 #[.int .u8 c.toNat] w fun e w' => e = .returned (.int .i64 (idx c)) ∧ w = w' := by
  have hb := placesL_bound c.toNat
  have hc8 : c.toNat < 256 := c.toNat_lt
  by_cases h : c.toNat < 105
  · have hc := ht.places _ h
    have hi : idx c = placesL.getD c.toNat 0 - 1 := by simp [idx, h]
    have HI := Lib.hid hi
    clear hi
    generalize placesL.getD c.toNat 0 = p at *
    clear ht
    go_enter Tryz.func9, Tryz.ntmps9
    go_wp2
    go_ret
    exact ⟨by rw [HI.out]; rfl, rfl⟩
  · have hi : idx c = -1 := by simp [idx, h]
    have HI := Lib.hid hi
    clear hi ht
    go_enter Tryz.func9, Tryz.ntmps9
    go_wp2
    go_ret
    exact ⟨by rw [HI.out]; rfl, rfl⟩

/-- word.isLetter. -/
def letterB (k : Int) (c : UInt8) : Bool := decide (0 ≤ idx c) && decide (idx c < 2 * k)

set_option maxHeartbeats 400000 in
theorem isLetter_any (k : Int) (c : UInt8) (w : World) (ht : Tabs w) (hk0 : 0 ≤ k) (hk : k ≤ 8) :
    Calls Tryz.prog 34 #[.int .i64 k, .int .u8 c.toNat] w fun e w' => e = .returned (.bool (letterB k c)) ∧ w = w' := by
  have hb := idx_bound c
  have hI := index_any c w ht
  clear ht
  by_cases h0 : 0 ≤ idx c
  · have hr : letterB k c = decide (idx c < 2 * k) := by simp [letterB, h0]
    have HR := Lib.hid hr
    clear hr
    generalize idx c = p at *
    go_enter Tryz.func34, Tryz.ntmps34
    go_wp2_with (go_at_call 9; refine hI.mono ?_; rintro e w' ⟨rfl, rfl⟩)
    go_outline
    go_ret
    exact ⟨by rw [HR.out]; rfl, rfl⟩
  · have hr : letterB k c = false := by simp [letterB, h0]
    have HR := Lib.hid hr
    clear hr
    generalize idx c = p at *
    go_enter Tryz.func34, Tryz.ntmps34
    go_wp2_with (go_at_call 9; refine hI.mono ?_; rintro e w' ⟨rfl, rfl⟩)
    go_outline
    go_ret
    exact ⟨by rw [HR.out]; rfl, rfl⟩
end Go.Proofs.YtflieikbhgneoaaGreatDoor
