/-
  Our own text, in the proofs of the laws of package word (cayleylaw01). Proved here: the outline of a text: begin and end. Conditions: the arguments read as the row says and the listed tables lie as the program lays them; none other.
-/
import Derived.Test.YtflieikbhgneoaaGreatDoorWr
import Derived.BigRegion
import Derived.RegionTactic
namespace Go.Proofs.YtflieikbhgneoaaGreatDoor
open Go Go.RowKit

/-- Block b is just these cells. -/
def Blk (w : World) (g : Nat) (t : TypeId) (cs : Array Value) : Prop := w.heap[g]? = some (.cells cs t (0, 0))
theorem Blk.lt {w : World} {g : Nat} {t : TypeId} {cs : Array Value} (h : Blk w g t cs) : g < w.heap.size := (Array.getElem?_eq_some_iff.1 h).1
theorem Blk.cell {w : World} {g : Nat} {t : TypeId} {cs : Array Value} (h : Blk w g t cs) (i : Nat) : w.cell? ⟨g, i, none⟩ = cs[i]? := cell_of_row w g i cs t (0, 0) h
theorem Blk.frozen {w : World} {g : Nat} {t : TypeId} {cs : Array Value} (h : Blk w g t cs) (i : Nat) : w.frozen? ⟨g, i, none⟩ = false := frozen_of_row w g i cs t h
theorem Blk.set_ {w : World} {g : Nat} {t : TypeId} {cs : Array Value} (h : Blk w g t cs) (i : Nat) (u : Value) : Blk (w.setCell ⟨g, i, none⟩ u) g t (cs.setIfInBounds i u) := heap_setCell_same w g i cs t u h
theorem Blk.below {w w' : World} {g B : Nat} {t : TypeId} {cs : Array Value} (h : Blk w g t cs) (hb : Below B w w') (hg : g < B) : Blk w' g t cs := (hb.block g hg).trans h

/-- The outline's state, in block b. -/
structure OutA (w : World) (b : Nat) (text : List UInt8) (k at_ : Int) (op : List UInt8) (most : Int) (A : Option Addr) (n cap : Nat) : Prop where
  blk : Blk w b 73 #[.string ⟨text.toArray⟩, .int .i64 k, .int .i64 at_, .slice A n cap, .int .i64 most]
  own : w.ownsRow (b + 1) 5 1 (.slice A n cap) n (bs op)
def OutS (w : World) (b : Nat) (text : List UInt8) (k at_ : Int) (op : List UInt8) (most : Int) : Prop := ∃ A n cap, OutA w b text k at_ op most A n cap

theorem OutA.len {w b text k at_ op most A n cap} (h : OutA w b text k at_ op most A n cap) : n = op.length := by
  have := h.own.1; simp [bs_len] at this; omega
theorem OutA.drew {w b text k at_ op most A n cap} (h : OutA w b text k at_ op most A n cap) : OutA w.drew b text k at_ op most A n cap := ⟨h.blk, h.own⟩
theorem OutA.set {w b text k at_ op most A n cap} (h : OutA w b text k at_ op most A n cap) (i : Nat) (u : Value) {text' k' at' most'} (he : (#[Value.string ⟨text.toArray⟩, .int .i64 k, .int .i64 at_, .slice A n cap, .int .i64 most] : Array Value).setIfInBounds i u = #[Value.string ⟨text'.toArray⟩, .int .i64 k', .int .i64 at', .slice A n cap, .int .i64 most']) :
    OutA (w.setCell ⟨b, i, none⟩ u) b text' k' at' op most' A n cap :=
  ⟨by have := h.blk.set_ i u; rw [he] at this; exact this, ownsRow_setCell_below h.own (show b < b + 1 by omega) u⟩
theorem OutA.atT {w b text k at_ op most A n cap} (h : OutA w b text k at_ op most A n cap) : AtT w b text := ⟨by rw [h.blk.cell]; rfl, h.blk.frozen 0⟩
theorem OutA.put {w b text k at_ op most A n cap} (h : OutA w b text k at_ op most A n cap) (m : List UInt8) : OutA (putT w b m) b m k at_ op most A n cap := h.set 0 _ rfl
theorem below_put (w : World) (b : Nat) (m : List UInt8) : Below b w (putT w b m) := (Below.refl b w).setCell (p := ⟨b, 0, none⟩) (Nat.le_refl _) _

set_option maxHeartbeats 1000000 in
theorem begin_any (b : Nat) (text : List UInt8) (k at_ : Int) (op : List UInt8) (most : Int) (e : UInt8) (w : World) (h : OutS w b text k at_ op most) (hl : op.length ≤ 1000000000) :
    Calls Tryz.prog 80 #[.pointer (some ⟨b, 0, none⟩), .int .u8 e.toNat] w fun r w' => r = .returned (.tuple #[]) ∧ OutS w' b text k 0 (op ++ [e]) (max most (op.length + 1)) ∧ Below b w w' := by
  obtain ⟨A, n, cap, h⟩ := h
  have hn := h.len
  have hc3 : w.cell? ⟨b, 3, none⟩ = some (.slice A n cap) := by rw [h.blk.cell]; rfl
  have hf3 := h.blk.frozen 3
  have hlt := h.blk.lt
  have HH := Lib.hid h
  have HN := Lib.hid hn
  have hnl : n ≤ 1000000000 := by omega
  clear h hn
  go_enter Tryz.func80, Tryz.ntmps80
  go_wp2_with (at_builtin; refine append_byte w rfl (.tmp 8) (.tmp 10) rfl (b + 1) _ _ _ _ e rfl HH.out.own _ rfl rfl (by omega) (by omega) ?_)
  intro A' cap' w1 hown1 hb1
  have hblk := HH.out.blk.below hb1 (Nat.lt_succ_self b)
  have hA : OutA w1 b text k at_ op most A n cap → True := fun _ => trivial
  have hc31 : w1.cell? ⟨b, 3, none⟩ = some (.slice A n cap) := by rw [hblk.cell]; rfl
  have hf31 := hblk.frozen 3
  have hA1 : OutA (w1.setCell ⟨b, 3, none⟩ (.slice A' (n + 1) cap')) b text k at_ (op ++ [e]) most A' (n + 1) cap' :=
    ⟨by have := hblk.set_ 3 (.slice A' (n + 1) cap'); exact this, ownsRow_setCell_below hown1 (show b < b + 1 by omega) _⟩
  have hw2 : Below b w (w1.setCell ⟨b, 3, none⟩ (.slice A' (n + 1) cap')) := (hb1.mono (Nat.le_succ b)).setCell (p := ⟨b, 3, none⟩) (Nat.le_refl _) _
  have HW2 := Lib.hid hw2
  have HA1 := Lib.hid hA1
  clear hA hblk hown1 hb1 hw2 hA1
  go_wp2
  generalize hww : w1.setCell ⟨b, 3, none⟩ (.slice A' (n + 1) cap') = w2 at *
  clear hww hc31 hf31 hc3 hf3
  have hc3 : w2.cell? ⟨b, 3, none⟩ = some (.slice A' (n + 1) cap') := by rw [HA1.out.blk.cell]; rfl
  have hc4 : w2.cell? ⟨b, 4, none⟩ = some (.int .i64 most) := by rw [HA1.out.blk.cell]; rfl
  have hf4 := HA1.out.blk.frozen 4
  have hc2 : w2.cell? ⟨b, 2, none⟩ = some (.int .i64 at_) := by rw [HA1.out.blk.cell]; rfl
  have hf2 := HA1.out.blk.frozen 2
  go_region
  go_wp2
  go_end0
  have h4 := HA1.out.set (most' := max most (n + 1)) (text' := text) (k' := k) (at' := at_) 4 (.int .i64 (max most (n + 1))) rfl
  have h2 := h4.set (most' := max most (n + 1)) (text' := text) (k' := k) (at' := 0) 2 (.int .i64 0) rfl
  refine ⟨rfl, ⟨_, _, _, OutA.drew (by rw [← HN.out]; exact h2)⟩, ?_⟩
  exact ((HW2.out.setCell (p := ⟨b, 4, none⟩) (Nat.le_refl _) _).setCell (p := ⟨b, 2, none⟩) (Nat.le_refl _) _).drew

theorem own_top {w b text k at_ op most A n cap} (h : OutA w b text k at_ op most A n cap) (l : List UInt8) (x : UInt8) (ho : op = l ++ [x]) :
    ∃ g, A = some ⟨g, 0, none⟩ ∧ n = l.length + 1 ∧ l.length + 1 ≤ cap ∧ w.cell? ⟨g, l.length, none⟩ = some (.int .u8 x.toNat) ∧ w.frozen? ⟨g, l.length, none⟩ = false ∧ b < g := by
  have hn := h.len
  rw [ho] at hn
  simp at hn
  subst hn
  obtain ⟨g, rfl, hc⟩ := own_cell h.own (j := l.length) (by omega)
  have := (h.own.lt g rfl).1
  refine ⟨g, rfl, rfl, own_cap h.own, ?_, h.own.frozenAt _, by omega⟩
  rw [hc, ho]; simp [bs]

set_option maxHeartbeats 1000000 in
theorem end_no (b : Nat) (text : List UInt8) (k at_ : Int) (op : List UInt8) (most : Int) (c : UInt8) (w : World) (h : OutS w b text k at_ op most) (hno : at_ = 0 ∨ op.getLast? ≠ some c) (hl : op.length ≤ 1000000000) :
    Calls Tryz.prog 81 #[.pointer (some ⟨b, 0, none⟩), .int .u8 c.toNat] w fun r w' => r = .panicked (leaves 4) ∧ Below b w w' := by
  obtain ⟨A, n, cap, h⟩ := h
  have hn := h.len
  have hc3 : w.cell? ⟨b, 3, none⟩ = some (.slice A n cap) := by rw [h.blk.cell]; rfl
  have hc2 : w.cell? ⟨b, 2, none⟩ = some (.int .i64 at_) := by rw [h.blk.cell]; rfl
  have hnl : n ≤ 1000000000 := by omega
  have hH := hold_no w
  rcases List.eq_nil_or_concat op with rfl | ⟨l, x, rfl⟩
  · obtain rfl : n = 0 := by simpa using hn
    clear h hn hno hl
    go_enter Tryz.func81, Tryz.ntmps81
    go_wp2_with (go_at_call 63; refine hH.mono ?_; rintro e w' ⟨rfl, rfl⟩)
    exact ⟨rfl, rfl, Below.refl _ _⟩
  · obtain ⟨g, rfl, rfl, hcap, hct, hft, hbg⟩ := own_top h l x (by simp)
    by_cases hxc : x = c
    · have hat : at_ = 0 := by
        rcases hno with h | h
        · exact h
        · exfalso; apply h; simp [hxc]
      have hb1 : ((x.toNat : Int) == (c.toNat : Int)) = true := by simp [hxc]
      have hb2 : (at_ == 0) = true := by simp [hat]
      have hb3 : (at_ != 0) = false := by simp [hat]
      clear h hn hno hl hxc hat
      go_enter Tryz.func81, Tryz.ntmps81
      go_wp2_with (go_at_call 63; refine hH.mono ?_; rintro e w' ⟨rfl, rfl⟩)
      exact ⟨rfl, rfl, Below.refl _ _⟩
    · have hb1 : ((x.toNat : Int) == (c.toNat : Int)) = false := by
        rw [beq_eq_false_iff_ne]; intro e; exact hxc (UInt8.toNat_inj.1 (by exact_mod_cast e))
      clear h hn hno hl hxc
      go_enter Tryz.func81, Tryz.ntmps81
      go_wp2_with (go_at_call 63; refine hH.mono ?_; rintro e w' ⟨rfl, rfl⟩)
      exact ⟨rfl, rfl, Below.refl _ _⟩

set_option maxHeartbeats 1000000 in
theorem end_comma (b : Nat) (text : List UInt8) (k at_ : Int) (l : List UInt8) (most : Int) (w : World) (h : OutS w b text k at_ (l ++ [44]) most) (hat : at_ ≠ 0) (hl : l.length ≤ 1000000000) :
    Calls Tryz.prog 81 #[.pointer (some ⟨b, 0, none⟩), .int .u8 44] w fun r w' => r = .returned (.tuple #[]) ∧ OutS w' b text k 0 (l ++ [93]) most ∧ Below b w w' := by
  obtain ⟨A, n, cap, h⟩ := h
  have hc3 : w.cell? ⟨b, 3, none⟩ = some (.slice A n cap) := by rw [h.blk.cell]; rfl
  have hc2 : w.cell? ⟨b, 2, none⟩ = some (.int .i64 at_) := by rw [h.blk.cell]; rfl
  have hf2 := h.blk.frozen 2
  have hH := hold_yes w
  obtain ⟨g, rfl, rfl, hcap, hct, hft, hbg⟩ := own_top h l 44 rfl
  have hb2 : (at_ == 0) = false := by simpa using hat
  have hb3 : (at_ != 0) = true := by simpa using hat
  have hst := h.own.stored l.length (.int .u8 93)
  have hblk : Blk (w.setCell ⟨g, l.length, none⟩ (.int .u8 93)) b 73 #[.string ⟨text.toArray⟩, .int .i64 k, .int .i64 at_, .slice (some ⟨g, 0, none⟩) (l.length + 1) cap, .int .i64 most] :=
    (Below.heap_setCell w ⟨g, l.length, none⟩ (.int .u8 93) b (show b ≠ g by omega)).trans h.blk
  have hA : OutA (w.setCell ⟨g, l.length, none⟩ (.int .u8 93)) b text k at_ (l ++ [93]) most (some ⟨g, 0, none⟩) (l.length + 1) cap := by
    refine ⟨hblk, ?_⟩
    have := hst.1
    rw [show (bs (l ++ [44])).set l.length (.int .u8 93) = bs (l ++ [93]) by simp [bs, List.set_append]] at this
    exact this
  have hct2 : (w.setCell ⟨g, l.length, none⟩ (.int .u8 93)).cell? ⟨b, 2, none⟩ = some (.int .i64 at_) := by rw [hblk.cell]; rfl
  have HA := Lib.hid hA
  clear h hat hst hblk hA
  go_enter Tryz.func81, Tryz.ntmps81
  go_wp2_with (go_at_call 63; refine hH.mono ?_; rintro e w' ⟨rfl, rfl⟩)
  refine bodyPost_ret (results_none rfl _ _ _) rfl ?_
  refine ⟨rfl, ⟨_, _, _, HA.out.set (most' := most) (text' := text) (k' := k) (at' := 0) 2 (.int .i64 0) rfl⟩, ?_⟩
  exact ((Below.refl b w).setCell (p := ⟨g, l.length, none⟩) (show b ≤ g by omega) _).setCell (p := ⟨b, 2, none⟩) (Nat.le_refl _) _

set_option maxHeartbeats 1000000 in
theorem end_shut (b : Nat) (text : List UInt8) (k at_ : Int) (l : List UInt8) (x : UInt8) (hx : (x.toNat : Int) ≠ 44) (most : Int) (w : World) (h : OutS w b text k at_ (l ++ [x]) most) (hat : at_ ≠ 0) (hl : l.length ≤ 1000000000) :
    Calls Tryz.prog 81 #[.pointer (some ⟨b, 0, none⟩), .int .u8 x.toNat] w fun r w' => r = .returned (.tuple #[]) ∧ OutS w' b text k 1 l most ∧ Below b w w' := by
  obtain ⟨A, n, cap, h⟩ := h
  have hc3 : w.cell? ⟨b, 3, none⟩ = some (.slice A n cap) := by rw [h.blk.cell]; rfl
  have hf3 := h.blk.frozen 3
  have hc2 : w.cell? ⟨b, 2, none⟩ = some (.int .i64 at_) := by rw [h.blk.cell]; rfl
  have hf2 := h.blk.frozen 2
  have hH := hold_yes w
  obtain ⟨g, rfl, rfl, hcap, hct, hft, hbg⟩ := own_top h l x rfl
  have hb2 : (at_ == 0) = false := by simpa using hat
  have hb3 : (at_ != 0) = true := by simpa using hat
  have hb4 : ((x.toNat : Int) == 44) = false := by rw [beq_eq_false_iff_ne]; exact hx
  have hb5 : ((x.toNat : Int) == (x.toNat : Int)) = true := by simp
  have hA : OutA (w.setCell ⟨b, 3, none⟩ (.slice (some ⟨g, 0, none⟩) l.length cap)) b text k at_ l most (some ⟨g, 0, none⟩) l.length cap := by
    refine ⟨by have := h.blk.set_ 3 (.slice (some ⟨g, 0, none⟩) l.length cap); exact this, ?_⟩
    refine ownsRow_setCell_below ?_ (show b < b + 1 by omega) _
    have := ownsRow_take' (m := l.length) (by omega) h.own
    rw [show (bs (l ++ [x])).take l.length = bs l by simp [bs]] at this
    exact this
  have hct2 : (w.setCell ⟨b, 3, none⟩ (.slice (some ⟨g, 0, none⟩) l.length cap)).cell? ⟨b, 2, none⟩ = some (.int .i64 at_) := by rw [hA.blk.cell]; rfl
  have hll : l.length ≤ cap := by omega
  have HA := Lib.hid hA
  clear h hat hA hx
  go_enter Tryz.func81, Tryz.ntmps81
  go_wp2_with (go_at_call 63; refine hH.mono ?_; rintro e w' ⟨rfl, rfl⟩)
  go_end0
  refine ⟨rfl, ⟨_, _, _, HA.out.set (most' := most) (text' := text) (k' := k) (at' := 1) 2 (.int .i64 1) rfl⟩, ?_⟩
  exact ((Below.refl b w).setCell (p := ⟨b, 3, none⟩) (Nat.le_refl _) _).setCell (p := ⟨b, 2, none⟩) (Nat.le_refl _) _
end Go.Proofs.YtflieikbhgneoaaGreatDoor
