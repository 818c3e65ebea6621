/-
  Our own text, in the proofs of the laws of package pres (cayleylaw03). Proved here: the outline of a text: begin and end; the outline of a text: token; the outline of a text: mostOpen; appendReduced. Conditions: the arguments lie in memory as the slices say; bounds; the listed tables lie as the program lays them.
-/
import Derived.Test.YteephomlnbbjeaaGreatDoorJq
import Derived.BigRegion
import Derived.RegionTactic
import Derived.Test.YteephomlnbbjeaaGreatDoorJe
import Derived.IntWalk
set_option linter.unusedVariables false
set_option linter.unusedSimpArgs false
set_option linter.unusedSectionVars false
namespace Go.Proofs.YteephomlnbbjeaaGreatDoor
open Go Go.RowKit

/-- Block b is just these cells. -/
def Blk (w : World) (g : Nat) (t : TypeId) (cs : Array Value) : Prop := w.heap[g]? = some (.cells cs t (0, 0))
theorem Blk.lt {w : World} {g : Nat} {t : TypeId} {cs : Array Value} (h : Blk w g t cs) : g < w.heap.size := (Array.getElem?_eq_some_iff.1 h).1
theorem Blk.cell {w : World} {g : Nat} {t : TypeId} {cs : Array Value} (h : Blk w g t cs) (i : Nat) : w.cell? ⟨g, i, none⟩ = cs[i]? := cell_of_row w g i cs t (0, 0) h
theorem Blk.frozen {w : World} {g : Nat} {t : TypeId} {cs : Array Value} (h : Blk w g t cs) (i : Nat) : w.frozen? ⟨g, i, none⟩ = false := frozen_of_row w g i cs t h
theorem Blk.set_ {w : World} {g : Nat} {t : TypeId} {cs : Array Value} (h : Blk w g t cs) (i : Nat) (u : Value) : Blk (w.setCell ⟨g, i, none⟩ u) g t (cs.setIfInBounds i u) := heap_setCell_same w g i cs t u h
theorem Blk.below {w w' : World} {g B : Nat} {t : TypeId} {cs : Array Value} (h : Blk w g t cs) (hb : Below B w w') (hg : g < B) : Blk w' g t cs := (hb.block g hg).trans h

/-- The outline's state, in block b. -/
structure OutA (w : World) (b : Nat) (text : List UInt8) (k at_ : Int) (op : List UInt8) (most : Int) (A : Option Addr) (n cap : Nat) : Prop where
  blk : Blk w b 245 #[.string ⟨text.toArray⟩, .int .i64 k, .int .i64 at_, .slice A n cap, .int .i64 most]
  own : w.ownsRow (b + 1) 5 1 (.slice A n cap) n (bs op)
def OutS (w : World) (b : Nat) (text : List UInt8) (k at_ : Int) (op : List UInt8) (most : Int) : Prop := ∃ A n cap, OutA w b text k at_ op most A n cap

theorem OutA.len {w b text k at_ op most A n cap} (h : OutA w b text k at_ op most A n cap) : n = op.length := by
  have := h.own.1; simp [bs_len] at this; omega
theorem OutA.drew {w b text k at_ op most A n cap} (h : OutA w b text k at_ op most A n cap) : OutA w.drew b text k at_ op most A n cap := ⟨h.blk, h.own⟩
theorem OutA.set {w b text k at_ op most A n cap} (h : OutA w b text k at_ op most A n cap) (i : Nat) (u : Value) {text' k' at' most'} (he : (#[Value.string ⟨text.toArray⟩, .int .i64 k, .int .i64 at_, .slice A n cap, .int .i64 most] : Array Value).setIfInBounds i u = #[Value.string ⟨text'.toArray⟩, .int .i64 k', .int .i64 at', .slice A n cap, .int .i64 most']) :
    OutA (w.setCell ⟨b, i, none⟩ u) b text' k' at' op most' A n cap :=
  ⟨by have := h.blk.set_ i u; rw [he] at this; exact this, ownsRow_setCell_below h.own (show b < b + 1 by omega) u⟩
theorem OutA.atT {w b text k at_ op most A n cap} (h : OutA w b text k at_ op most A n cap) : AtT w b text := ⟨by rw [h.blk.cell]; rfl, h.blk.frozen 0⟩
theorem OutA.put {w b text k at_ op most A n cap} (h : OutA w b text k at_ op most A n cap) (m : List UInt8) : OutA (putT w b m) b m k at_ op most A n cap := h.set 0 _ rfl
theorem below_put (w : World) (b : Nat) (m : List UInt8) : Below b w (putT w b m) := (Below.refl b w).setCell (p := ⟨b, 0, none⟩) (Nat.le_refl _) _

set_option maxHeartbeats 1000000 in
theorem begin_any (b : Nat) (text : List UInt8) (k at_ : Int) (op : List UInt8) (most : Int) (e : UInt8) (w : World) (h : OutS w b text k at_ op most) (hl : op.length ≤ 1000000000) :
    Calls Tryz.prog 255 #[.pointer (some ⟨b, 0, none⟩), .int .u8 e.toNat] w fun r w' => r = .returned (.tuple #[]) ∧ OutS w' b text k 0 (op ++ [e]) (max most (op.length + 1)) ∧ Below b w w' := by
  obtain ⟨A, n, cap, h⟩ := h
  have hn := h.len
  have hc3 : w.cell? ⟨b, 3, none⟩ = some (.slice A n cap) := by rw [h.blk.cell]; rfl
  have hf3 := h.blk.frozen 3
  have hlt := h.blk.lt
  have HH := Lib.hid h
  have HN := Lib.hid hn
  have hnl : n ≤ 1000000000 := by omega
  clear h hn
  go_enter Tryz.func255, Tryz.ntmps255
  go_wp2_with (at_builtin; refine append_byte w rfl (.tmp 8) (.tmp 10) rfl (b + 1) _ _ _ _ e rfl HH.out.own _ rfl rfl (by omega) (by omega) ?_)
  intro A' cap' w1 hown1 hb1
  have hblk := HH.out.blk.below hb1 (Nat.lt_succ_self b)
  have hA : OutA w1 b text k at_ op most A n cap → True := fun _ => trivial
  have hc31 : w1.cell? ⟨b, 3, none⟩ = some (.slice A n cap) := by rw [hblk.cell]; rfl
  have hf31 := hblk.frozen 3
  have hA1 : OutA (w1.setCell ⟨b, 3, none⟩ (.slice A' (n + 1) cap')) b text k at_ (op ++ [e]) most A' (n + 1) cap' :=
    ⟨by have := hblk.set_ 3 (.slice A' (n + 1) cap'); exact this, ownsRow_setCell_below hown1 (show b < b + 1 by omega) _⟩
  have hw2 : Below b w (w1.setCell ⟨b, 3, none⟩ (.slice A' (n + 1) cap')) := (hb1.mono (Nat.le_succ b)).setCell (p := ⟨b, 3, none⟩) (Nat.le_refl _) _
  have HW2 := Lib.hid hw2
  have HA1 := Lib.hid hA1
  clear hA hblk hown1 hb1 hw2 hA1
  go_wp2
  generalize hww : w1.setCell ⟨b, 3, none⟩ (.slice A' (n + 1) cap') = w2 at *
  clear hww hc31 hf31 hc3 hf3
  have hc3 : w2.cell? ⟨b, 3, none⟩ = some (.slice A' (n + 1) cap') := by rw [HA1.out.blk.cell]; rfl
  have hc4 : w2.cell? ⟨b, 4, none⟩ = some (.int .i64 most) := by rw [HA1.out.blk.cell]; rfl
  have hf4 := HA1.out.blk.frozen 4
  have hc2 : w2.cell? ⟨b, 2, none⟩ = some (.int .i64 at_) := by rw [HA1.out.blk.cell]; rfl
  have hf2 := HA1.out.blk.frozen 2
  go_region
  go_wp2
  go_end0
  have h4 := HA1.out.set (most' := max most (n + 1)) (text' := text) (k' := k) (at' := at_) 4 (.int .i64 (max most (n + 1))) rfl
  have h2 := h4.set (most' := max most (n + 1)) (text' := text) (k' := k) (at' := 0) 2 (.int .i64 0) rfl
  refine ⟨rfl, ⟨_, _, _, OutA.drew (by rw [← HN.out]; exact h2)⟩, ?_⟩
  exact ((HW2.out.setCell (p := ⟨b, 4, none⟩) (Nat.le_refl _) _).setCell (p := ⟨b, 2, none⟩) (Nat.le_refl _) _).drew

theorem own_top {w b text k at_ op most A n cap} (h : OutA w b text k at_ op most A n cap) (l : List UInt8) (x : UInt8) (ho : op = l ++ [x]) :
    ∃ g, A = some ⟨g, 0, none⟩ ∧ n = l.length + 1 ∧ l.length + 1 ≤ cap ∧ w.cell? ⟨g, l.length, none⟩ = some (.int .u8 x.toNat) ∧ w.frozen? ⟨g, l.length, none⟩ = false ∧ b < g := by
  have hn := h.len
  rw [ho] at hn
  simp at hn
  subst hn
  obtain ⟨g, rfl, hc⟩ := own_cell h.own (j := l.length) (by omega)
  have := (h.own.lt g rfl).1
  refine ⟨g, rfl, rfl, own_cap h.own, ?_, h.own.frozenAt _, by omega⟩
  rw [hc, ho]; simp [bs]

set_option maxHeartbeats 1000000 in
theorem end_no (b : Nat) (text : List UInt8) (k at_ : Int) (op : List UInt8) (most : Int) (c : UInt8) (w : World) (h : OutS w b text k at_ op most) (hno : at_ = 0 ∨ op.getLast? ≠ some c) (hl : op.length ≤ 1000000000) :
    Calls Tryz.prog 256 #[.pointer (some ⟨b, 0, none⟩), .int .u8 c.toNat] w fun r w' => r = .panicked (leaves 4) ∧ Below b w w' := by
  obtain ⟨A, n, cap, h⟩ := h
  have hn := h.len
  have hc3 : w.cell? ⟨b, 3, none⟩ = some (.slice A n cap) := by rw [h.blk.cell]; rfl
  have hc2 : w.cell? ⟨b, 2, none⟩ = some (.int .i64 at_) := by rw [h.blk.cell]; rfl
  have hnl : n ≤ 1000000000 := by omega
  have hH := hold_no w
  rcases List.eq_nil_or_concat op with rfl | ⟨l, x, rfl⟩
  · obtain rfl : n = 0 := by simpa using hn
    clear h hn hno hl
    go_enter Tryz.func256, Tryz.ntmps256
    go_wp2_with (go_at_call 241; refine hH.mono ?_; rintro e w' ⟨rfl, rfl⟩)
    exact ⟨rfl, rfl, Below.refl _ _⟩
  · obtain ⟨g, rfl, rfl, hcap, hct, hft, hbg⟩ := own_top h l x (by simp)
    by_cases hxc : x = c
    · have hat : at_ = 0 := by
        rcases hno with h | h
        · exact h
        · exfalso; apply h; simp [hxc]
      have hb1 : ((x.toNat : Int) == (c.toNat : Int)) = true := by simp [hxc]
      have hb2 : (at_ == 0) = true := by simp [hat]
      have hb3 : (at_ != 0) = false := by simp [hat]
      clear h hn hno hl hxc hat
      go_enter Tryz.func256, Tryz.ntmps256
      go_wp2_with (go_at_call 241; refine hH.mono ?_; rintro e w' ⟨rfl, rfl⟩)
      exact ⟨rfl, rfl, Below.refl _ _⟩
    · have hb1 : ((x.toNat : Int) == (c.toNat : Int)) = false := by
        rw [beq_eq_false_iff_ne]; intro e; exact hxc (UInt8.toNat_inj.1 (by exact_mod_cast e))
      clear h hn hno hl hxc
      go_enter Tryz.func256, Tryz.ntmps256
      go_wp2_with (go_at_call 241; refine hH.mono ?_; rintro e w' ⟨rfl, rfl⟩)
      exact ⟨rfl, rfl, Below.refl _ _⟩

set_option maxHeartbeats 1000000 in
theorem end_comma (b : Nat) (text : List UInt8) (k at_ : Int) (l : List UInt8) (most : Int) (w : World) (h : OutS w b text k at_ (l ++ [44]) most) (hat : at_ ≠ 0) (hl : l.length ≤ 1000000000) :
    Calls Tryz.prog 256 #[.pointer (some ⟨b, 0, none⟩), .int .u8 44] w fun r w' => r = .returned (.tuple #[]) ∧ OutS w' b text k 0 (l ++ [93]) most ∧ Below b w w' := by
  obtain ⟨A, n, cap, h⟩ := h
  have hc3 : w.cell? ⟨b, 3, none⟩ = some (.slice A n cap) := by rw [h.blk.cell]; rfl
  have hc2 : w.cell? ⟨b, 2, none⟩ = some (.int .i64 at_) := by rw [h.blk.cell]; rfl
  have hf2 := h.blk.frozen 2
  have hH := hold_yes w
  obtain ⟨g, rfl, rfl, hcap, hct, hft, hbg⟩ := own_top h l 44 rfl
  have hb2 : (at_ == 0) = false := by simpa using hat
  have hb3 : (at_ != 0) = true := by simpa using hat
  have hst := h.own.stored l.length (.int .u8 93)
  have hblk : Blk (w.setCell ⟨g, l.length, none⟩ (.int .u8 93)) b 245 #[.string ⟨text.toArray⟩, .int .i64 k, .int .i64 at_, .slice (some ⟨g, 0, none⟩) (l.length + 1) cap, .int .i64 most] :=
    (Below.heap_setCell w ⟨g, l.length, none⟩ (.int .u8 93) b (show b ≠ g by omega)).trans h.blk
  have hA : OutA (w.setCell ⟨g, l.length, none⟩ (.int .u8 93)) b text k at_ (l ++ [93]) most (some ⟨g, 0, none⟩) (l.length + 1) cap := by
    refine ⟨hblk, ?_⟩
    have := hst.1
    rw [show (bs (l ++ [44])).set l.length (.int .u8 93) = bs (l ++ [93]) by simp [bs, List.set_append]] at this
    exact this
  have hct2 : (w.setCell ⟨g, l.length, none⟩ (.int .u8 93)).cell? ⟨b, 2, none⟩ = some (.int .i64 at_) := by rw [hblk.cell]; rfl
  have HA := Lib.hid hA
  clear h hat hst hblk hA
  go_enter Tryz.func256, Tryz.ntmps256
  go_wp2_with (go_at_call 241; refine hH.mono ?_; rintro e w' ⟨rfl, rfl⟩)
  refine bodyPost_ret (results_none rfl _ _ _) rfl ?_
  refine ⟨rfl, ⟨_, _, _, HA.out.set (most' := most) (text' := text) (k' := k) (at' := 0) 2 (.int .i64 0) rfl⟩, ?_⟩
  exact ((Below.refl b w).setCell (p := ⟨g, l.length, none⟩) (show b ≤ g by omega) _).setCell (p := ⟨b, 2, none⟩) (Nat.le_refl _) _

set_option maxHeartbeats 1000000 in
theorem end_shut (b : Nat) (text : List UInt8) (k at_ : Int) (l : List UInt8) (x : UInt8) (hx : (x.toNat : Int) ≠ 44) (most : Int) (w : World) (h : OutS w b text k at_ (l ++ [x]) most) (hat : at_ ≠ 0) (hl : l.length ≤ 1000000000) :
    Calls Tryz.prog 256 #[.pointer (some ⟨b, 0, none⟩), .int .u8 x.toNat] w fun r w' => r = .returned (.tuple #[]) ∧ OutS w' b text k 1 l most ∧ Below b w w' := by
  obtain ⟨A, n, cap, h⟩ := h
  have hc3 : w.cell? ⟨b, 3, none⟩ = some (.slice A n cap) := by rw [h.blk.cell]; rfl
  have hf3 := h.blk.frozen 3
  have hc2 : w.cell? ⟨b, 2, none⟩ = some (.int .i64 at_) := by rw [h.blk.cell]; rfl
  have hf2 := h.blk.frozen 2
  have hH := hold_yes w
  obtain ⟨g, rfl, rfl, hcap, hct, hft, hbg⟩ := own_top h l x rfl
  have hb2 : (at_ == 0) = false := by simpa using hat
  have hb3 : (at_ != 0) = true := by simpa using hat
  have hb4 : ((x.toNat : Int) == 44) = false := by rw [beq_eq_false_iff_ne]; exact hx
  have hb5 : ((x.toNat : Int) == (x.toNat : Int)) = true := by simp
  have hA : OutA (w.setCell ⟨b, 3, none⟩ (.slice (some ⟨g, 0, none⟩) l.length cap)) b text k at_ l most (some ⟨g, 0, none⟩) l.length cap := by
    refine ⟨by have := h.blk.set_ 3 (.slice (some ⟨g, 0, none⟩) l.length cap); exact this, ?_⟩
    refine ownsRow_setCell_below ?_ (show b < b + 1 by omega) _
    have := ownsRow_take' (m := l.length) (by omega) h.own
    rw [show (bs (l ++ [x])).take l.length = bs l by simp [bs]] at this
    exact this
  have hct2 : (w.setCell ⟨b, 3, none⟩ (.slice (some ⟨g, 0, none⟩) l.length cap)).cell? ⟨b, 2, none⟩ = some (.int .i64 at_) := by rw [hA.blk.cell]; rfl
  have hll : l.length ≤ cap := by omega
  have HA := Lib.hid hA
  clear h hat hA hx
  go_enter Tryz.func256, Tryz.ntmps256
  go_wp2_with (go_at_call 241; refine hH.mono ?_; rintro e w' ⟨rfl, rfl⟩)
  go_end0
  refine ⟨rfl, ⟨_, _, _, HA.out.set (most' := most) (text' := text) (k' := k) (at' := 1) 2 (.int .i64 1) rfl⟩, ?_⟩
  exact ((Below.refl b w).setCell (p := ⟨b, 3, none⟩) (Nat.le_refl _) _).setCell (p := ⟨b, 2, none⟩) (Nat.le_refl _) _
end Go.Proofs.YteephomlnbbjeaaGreatDoor

namespace Go.Proofs.YteephomlnbbjeaaGreatDoor
open Go Go.RowKit

structure OSt where
  text : List UInt8
  at_ : Int
  op : List UInt8
  most : Int

def OutO (w : World) (b : Nat) (k : Int) (s : OSt) : Prop := OutS w b s.text k s.at_ s.op s.most

/-- The exponent behind '^': the sign, and what stands behind it. -/
def exNeg (t : List UInt8) : Bool := match trim t with | c :: _ => c == 45 | [] => false
def exRest (t : List UInt8) : List UInt8 := match trim t with | c :: r => if c == 45 then r else c :: r | [] => []
theorem exNeg_spec (t : List UInt8) : if exNeg t then trim t = 45 :: exRest t else (trim t = exRest t ∧ ∀ r, exRest t ≠ 45 :: r) := by
  unfold exNeg exRest
  cases h : trim t with
  | nil => simp
  | cons c r =>
    by_cases hc : c = 45
    · simp [hc]
    · simp [hc]
theorem trim_len (l : List UInt8) : (trim l).length ≤ l.length := by
  unfold trim Lib.trimLeftB
  induction l with
  | nil => simp
  | cons c t ih => rw [List.dropWhile_cons]; split <;> simp; omega
theorem exRest_len (t : List UInt8) : (exRest t).length ≤ t.length := by
  have := trim_len t
  unfold exRest
  cases h : trim t with
  | nil => simp
  | cons c r => rw [h] at this; simp only; split <;> simp at this ⊢ <;> omega

def tokF (k : Int) (s : OSt) (c : UInt8) : Option OSt :=
  if c = 40 then some ⟨s.text, 0, s.op ++ [41], max s.most (s.op.length + 1)⟩
  else if c = 91 then some ⟨s.text, 0, s.op ++ [44], max s.most (s.op.length + 1)⟩
  else if c = 41 ∨ c = 44 ∨ c = 93 then
    (if s.at_ = 0 ∨ s.op.getLast? ≠ some c then none
     else if c = 44 then some ⟨s.text, 0, s.op.dropLast ++ [93], s.most⟩ else some ⟨s.text, 1, s.op.dropLast, s.most⟩)
  else if c = 94 then
    (if s.at_ = 1 ∧ exB (exRest s.text) = true then some ⟨exR (exRest s.text), 2, s.op, s.most⟩ else none)
  else if c = 49 ∨ letterB k c = true then some ⟨s.text, 1, s.op, s.most⟩ else none

/-- How token ends. -/
def TokPost (w : World) (b : Nat) (k : Int) (o : Option OSt) (r : Ending) (w' : World) : Prop :=
  Below b w w' ∧ match o with
    | some s => r = .returned (.tuple #[]) ∧ OutO w' b k s
    | none => r = .panicked (leaves 4)

theorem u8_eqs (c x : UInt8) : ((c.toNat : Int) == (x.toNat : Int)) = decide (c = x) := by
  rw [Bool.eq_iff_iff]; simp only [beq_iff_eq, decide_eq_true_eq]
  constructor
  · intro h; exact UInt8.toNat_inj.1 (by exact_mod_cast h)
  · intro h; rw [h]

theorem u8_ne (c x : UInt8) (n : Int) (hn : (x.toNat : Int) = n) (h : c ≠ x) : ((c.toNat : Int) == n) = false := by
  rw [← hn, u8_eqs]; simpa using h

theorem getLast_split {l : List UInt8} {x : UInt8} (h : l.getLast? = some x) : l = l.dropLast ++ [x] := by
  rcases List.eq_nil_or_concat l with rfl | ⟨m, y, rfl⟩
  · simp at h
  · simp at h; simp [h]

set_option maxHeartbeats 1000000 in
theorem token_end (b : Nat) (k : Int) (s : OSt) (c : UInt8) (hc : c = 41 ∨ c = 44 ∨ c = 93) (w : World) (h : OutO w b k s) (hl : s.op.length ≤ 1000000000) :
    Calls Tryz.prog 256 #[.pointer (some ⟨b, 0, none⟩), .int .u8 c.toNat] w (TokPost w b k (tokF k s c)) := by
  have hc1 : c ≠ 40 := by rintro rfl; revert hc; decide
  have hc2 : c ≠ 91 := by rintro rfl; revert hc; decide
  by_cases hno : s.at_ = 0 ∨ s.op.getLast? ≠ some c
  · have HR : tokF k s c = none := by unfold tokF; rw [if_neg hc1, if_neg hc2, if_pos hc, if_pos hno]
    rw [HR]
    exact (end_no b s.text k s.at_ s.op s.most c w h hno hl).mono fun r w' ⟨h1, h2⟩ => ⟨h2, h1⟩
  · have h0 : s.at_ ≠ 0 := fun e => hno (.inl e)
    have hlast : s.op.getLast? = some c := Classical.byContradiction fun e => hno (.inr e)
    have hsp := getLast_split hlast
    have hdl : s.op.dropLast.length ≤ 1000000000 := by simp; omega
    have h' : OutS w b s.text k s.at_ (s.op.dropLast ++ [c]) s.most := by rw [← hsp]; exact h
    by_cases h44 : c = 44
    · have HR : tokF k s c = some ⟨s.text, 0, s.op.dropLast ++ [93], s.most⟩ := by unfold tokF; rw [if_neg hc1, if_neg hc2, if_pos hc, if_neg hno, if_pos h44]
      rw [HR]
      subst h44
      exact (end_comma b s.text k s.at_ s.op.dropLast s.most w h' h0 hdl).mono fun r w' ⟨h1, h2, h3⟩ => ⟨h3, h1, h2⟩
    · have HR : tokF k s c = some ⟨s.text, 1, s.op.dropLast, s.most⟩ := by unfold tokF; rw [if_neg hc1, if_neg hc2, if_pos hc, if_neg hno, if_neg h44]
      rw [HR]
      exact (end_shut b s.text k s.at_ s.op.dropLast c (by intro e; exact h44 (UInt8.toNat_inj.1 (by exact_mod_cast e))) s.most w h' h0 hdl).mono fun r w' ⟨h1, h2, h3⟩ => ⟨h3, h1, h2⟩

set_option maxHeartbeats 1000000 in
theorem token_any (b : Nat) (k : Int) (s : OSt) (c : UInt8) (w : World) (hb : 2 < b) (ht : Tabs w) (h : OutO w b k s) (hk0 : 0 ≤ k) (hk : k ≤ 8) (hl : s.op.length ≤ 1000000000) (htl : s.text.length ≤ 1000000000) :
    Calls Tryz.prog 239 #[.pointer (some ⟨b, 0, none⟩), .int .u8 c.toNat] w (TokPost w b k (tokF k s c)) := by
  by_cases h1 : c = 40
  · subst h1
    have hbg := begin_any b s.text k s.at_ s.op s.most 41 w h hl
    have HR : Hid (tokF k s 40 = some ⟨s.text, 0, s.op ++ [41], max s.most (s.op.length + 1)⟩) := Lib.hid (by simp [tokF])
    clear h ht
    go_enter Tryz.func239, Tryz.ntmps239
    go_wp2_with (go_at_call 255; refine hbg.mono ?_; rintro e w' ⟨rfl, ho, hbw⟩)
    go_end0
    rw [HR.out]
    exact ⟨hbw, rfl, ho⟩
  by_cases h2 : c = 91
  · subst h2
    have hbg := begin_any b s.text k s.at_ s.op s.most 44 w h hl
    have HR : Hid (tokF k s 91 = some ⟨s.text, 0, s.op ++ [44], max s.most (s.op.length + 1)⟩) := Lib.hid (by simp [tokF])
    clear h ht h1
    go_enter Tryz.func239, Tryz.ntmps239
    go_wp2_with (go_at_call 255; refine hbg.mono ?_; rintro e w' ⟨rfl, ho, hbw⟩)
    go_end0
    rw [HR.out]
    exact ⟨hbw, rfl, ho⟩
  have e1 := u8_ne c 40 40 rfl h1
  have e2 := u8_ne c 91 91 rfl h2
  by_cases h3 : c = 41 ∨ c = 44 ∨ c = 93
  · have hE := token_end b k s c h3 w h hl
    have hE2 : Calls Tryz.prog 256 #[.pointer (some ⟨b, 0, none⟩), .int .u8 c.toNat] w fun r w' => (r = .returned (.tuple #[]) ∨ r = .panicked (leaves 4)) ∧ TokPost w b k (tokF k s c) r w' :=
      hE.mono fun r w' hp => ⟨by
        obtain ⟨_, h2⟩ := hp
        cases hx : tokF k s c with
        | none => rw [hx] at h2; exact .inr h2
        | some st => rw [hx] at h2; exact .inl h2.1, hp⟩
    have HE := Lib.hid hE2
    generalize tokF k s c = o at *
    have h3' := h3
    clear h ht h1 h2 hE hE2 h3
    rcases h3' with rfl | rfl | rfl
    · clear e1 e2
      go_enter Tryz.func239, Tryz.ntmps239
      go_wp2_with (go_at_call 256; refine HE.out.mono ?_; rintro e w' ⟨rfl | rfl, hp⟩)
      · go_end0
        exact hp
      · exact ⟨rfl, hp⟩
    · clear e1 e2
      go_enter Tryz.func239, Tryz.ntmps239
      go_wp2_with (go_at_call 256; refine HE.out.mono ?_; rintro e w' ⟨rfl | rfl, hp⟩)
      · go_end0
        exact hp
      · exact ⟨rfl, hp⟩
    · clear e1 e2
      go_enter Tryz.func239, Tryz.ntmps239
      go_wp2_with (go_at_call 256; refine HE.out.mono ?_; rintro e w' ⟨rfl | rfl, hp⟩)
      · go_end0
        exact hp
      · exact ⟨rfl, hp⟩
  have e3 := u8_ne c 41 41 rfl (fun e => h3 (.inl e))
  have e4 := u8_ne c 44 44 rfl (fun e => h3 (.inr (.inl e)))
  have e5 := u8_ne c 93 93 rfl (fun e => h3 (.inr (.inr e)))
  by_cases h4 : c = 94
  · subst h4
    clear e1 e2 e3 e4 e5 h1 h2 h3
    obtain ⟨A, n, cap, hA⟩ := h
    have hc2 : w.cell? ⟨b, 2, none⟩ = some (.int .i64 s.at_) := by rw [hA.blk.cell]; rfl
    have hat := hA.atT
    have hHo := hold_no w
    have hHy := hold_yes w
    by_cases ha : s.at_ = 1
    · have hX := exponent_any b s.text w hat (exNeg s.text) (exRest s.text) (exNeg_spec s.text) (Nat.le_trans (exRest_len _) htl)
      have hput := hA.put (exR (exRest s.text))
      have hf2 := hput.blk.frozen 2
      have hc22 : (putT w b (exR (exRest s.text))).cell? ⟨b, 2, none⟩ = some (.int .i64 s.at_) := by rw [hput.blk.cell]; rfl
      have hHo2 := hold_no (putT w b (exR (exRest s.text)))
      have hHy2 := hold_yes (putT w b (exR (exRest s.text)))
      have hbp := below_put w b (exR (exRest s.text))
      have hd : (s.at_ == 1) = true := by simp [ha]
      have HP := Lib.hid hput
      generalize hww : putT w b (exR (exRest s.text)) = w2 at *
      have HWW := Lib.hid hww
      cases hB : exB (exRest s.text) with
      | true =>
        have HR : Hid (tokF k s 94 = some ⟨exR (exRest s.text), 2, s.op, s.most⟩) := Lib.hid (by simp [tokF, ha, hB])
        rw [hB] at hX
        clear hput hA hat ht hB ha hww
        generalize exS (exNeg s.text) (exRest s.text) = ev at *
        go_enter Tryz.func239, Tryz.ntmps239
        go_wp2_with fail
        refine hHy.mono ?_; rintro e w' ⟨rfl, rfl⟩
        go_wp2_with fail
        refine hX.mono ?_; rintro e w' ⟨rfl, rfl⟩
        go_wp2_with fail
        refine hHy2.mono ?_; rintro e w' ⟨rfl, rfl⟩
        go_wp2
        go_end0
        rw [HR.out]
        exact ⟨hbp.setCell (p := ⟨b, 2, none⟩) (Nat.le_refl _) _, rfl, _, _, _, HP.out.set (most' := s.most) (text' := exR (exRest s.text)) (k' := k) (at' := 2) 2 (.int .i64 2) rfl⟩
      | false =>
        have HR : Hid (tokF k s 94 = none) := Lib.hid (by simp [tokF, hB])
        rw [hB] at hX
        clear hput hA hat ht hB ha hww
        generalize exS (exNeg s.text) (exRest s.text) = ev at *
        go_enter Tryz.func239, Tryz.ntmps239
        go_wp2_with fail
        refine hHy.mono ?_; rintro e w' ⟨rfl, rfl⟩
        go_wp2_with fail
        refine hX.mono ?_; rintro e w' ⟨rfl, rfl⟩
        go_wp2_with fail
        refine hHo2.mono ?_; rintro e w' ⟨rfl, rfl⟩
        rw [HR.out]
        exact ⟨rfl, hbp, rfl⟩
    · have HR : Hid (tokF k s 94 = none) := Lib.hid (by simp [tokF, ha])
      have hd : (s.at_ == 1) = false := by simpa using ha
      clear hA hat ht ha
      go_enter Tryz.func239, Tryz.ntmps239
      go_wp2_with (go_at_call 241; refine hHo.mono ?_; rintro e w' ⟨rfl, rfl⟩)
      rw [HR.out]
      exact ⟨rfl, Below.refl _ _, rfl⟩
  have e6 := u8_ne c 94 94 rfl h4
  have hHo := hold_no w
  have hHy := hold_yes w
  obtain ⟨A, n, cap, hA⟩ := h
  have hc1 : w.cell? ⟨b, 1, none⟩ = some (.int .i64 k) := by rw [hA.blk.cell]; rfl
  have hc2 : w.cell? ⟨b, 2, none⟩ = some (.int .i64 s.at_) := by rw [hA.blk.cell]; rfl
  have hf2 := hA.blk.frozen 2
  have hI := isLetter_any k c w ht hk0 hk
  have HA := Lib.hid hA
  by_cases h5 : c = 49
  · have HR : Hid (tokF k s c = some ⟨s.text, 1, s.op, s.most⟩) := Lib.hid (by unfold tokF; rw [if_neg h1, if_neg h2, if_neg h3, if_neg h4, if_pos (Or.inl h5)])
    have e7 : ((c.toNat : Int) == 49) = true := by rw [h5]; rfl
    clear h1 h2 h3 h4 h5 hA ht
    go_enter Tryz.func239, Tryz.ntmps239
    go_wp2_with (go_at_call 241; refine hHy.mono ?_; rintro e w' ⟨rfl, rfl⟩)
    go_end0
    rw [HR.out]
    exact ⟨(Below.refl b w).setCell (p := ⟨b, 2, none⟩) (Nat.le_refl _) _, rfl, _, _, _, HA.out.set (most' := s.most) (text' := s.text) (k' := k) (at' := 1) 2 (.int .i64 1) rfl⟩
  have e7 := u8_ne c 49 49 rfl h5
  cases hlb : letterB k c with
  | true =>
    have HR : Hid (tokF k s c = some ⟨s.text, 1, s.op, s.most⟩) := Lib.hid (by unfold tokF; rw [if_neg h1, if_neg h2, if_neg h3, if_neg h4, if_pos (Or.inr hlb)])
    rw [hlb] at hI
    clear h1 h2 h3 h4 h5 hA ht hlb
    go_enter Tryz.func239, Tryz.ntmps239
    go_wp2_with (first | (go_at_call 241; refine hHy.mono ?_; rintro e w' ⟨rfl, rfl⟩) | (go_at_call 128; refine hI.mono ?_; rintro e w' ⟨rfl, rfl⟩))
    go_end0
    rw [HR.out]
    exact ⟨(Below.refl b w).setCell (p := ⟨b, 2, none⟩) (Nat.le_refl _) _, rfl, _, _, _, HA.out.set (most' := s.most) (text' := s.text) (k' := k) (at' := 1) 2 (.int .i64 1) rfl⟩
  | false =>
    have HR : Hid (tokF k s c = none) := Lib.hid (by unfold tokF; rw [if_neg h1, if_neg h2, if_neg h3, if_neg h4, if_neg (by simp [h5, hlb])])
    rw [hlb] at hI
    clear h1 h2 h3 h4 h5 hA ht hlb
    go_enter Tryz.func239, Tryz.ntmps239
    go_wp2_with (first | (go_at_call 241; refine hHo.mono ?_; rintro e w' ⟨rfl, rfl⟩) | (go_at_call 128; refine hI.mono ?_; rintro e w' ⟨rfl, rfl⟩))
    rw [HR.out]
    exact ⟨rfl, Below.refl _ _, rfl⟩
end Go.Proofs.YteephomlnbbjeaaGreatDoor

namespace Go.Proofs.YteephomlnbbjeaaGreatDoor
open Go Go.RowKit

/-- The outline's loop: 'some none': the text is none of the form; 'none': the fuel has run out. -/
def outF : Nat → Int → OSt → Option (Option Int)
  | 0, _, _ => none
  | f + 1, k, s => match trim s.text with
    | [] => if s.op = [] ∧ s.at_ ≠ 0 then some (some s.most) else some none
    | c :: t => match tokF k { s with text := t } c with
      | none => some none
      | some s' => outF f k s'

def OpenPost (w : World) (r : Option Int) (e : Ending) (w' : World) : Prop :=
  Below w.heap.size w w' ∧ match r with
    | some m => e = .returned (.int .i64 m)
    | none => e = .panicked (leaves 4)

def tlen (w : World) (b : Nat) : Nat := match w.cell? ⟨b, 0, none⟩ with | some (.string s) => s.size | _ => 0
theorem tlen_of {w : World} {b : Nat} {l : List UInt8} (h : AtT w b l) : tlen w b = l.length := by unfold tlen; rw [h.1]; rfl

theorem exR_len (l : List UInt8) : (exR l).length ≤ l.length := by unfold exR; split; exact Nat.le_refl _; simp
theorem tokF_len {k : Int} {s s' : OSt} {c : UInt8} (h : tokF k s c = some s') : s'.text.length ≤ s.text.length ∧ s'.op.length ≤ s.op.length + 1 := by
  unfold tokF at h
  split at h
  · cases h; simp
  split at h
  · cases h; simp
  split at h
  · split at h
    · cases h
    split at h
    · cases h; simp only [List.length_append, List.length_dropLast, List.length_singleton]; omega
    · cases h; simp only [List.length_dropLast]; omega
  split at h
  · split at h
    · cases h
      have h1 := exR_len (exRest s.text)
      have h2 := exRest_len s.text
      exact ⟨Nat.le_trans h1 h2, by simp⟩
    · cases h
  split at h
  · cases h; simp
  · cases h

set_option maxHeartbeats 2000000 in
theorem mostOpen_any (l : List UInt8) (k : Int) (w : World) (ht : Tabs w) (hk0 : 0 ≤ k) (hk : k ≤ 8) (hs : l.length ≤ 1000000) (f : Nat) (r : Option Int) (hr : outF f k ⟨l, 0, [], 0⟩ = some r) :
    Calls Tryz.prog 209 #[.int .i64 k, .string ⟨l.toArray⟩] w (OpenPost w r) := by
  have h3 := ht.three
  have hO0 : OutO (w.alloc (.cells #[.string ⟨l.toArray⟩, .int .i64 k, .int .i64 0, .slice none 0 0, .int .i64 0] 245)) w.heap.size k ⟨l, 0, [], 0⟩ :=
    ⟨none, 0, 0, heap_alloc_new w _, World.ownsRow_nil _ _ _ _⟩
  have hB0 := (Below.refl w.heap.size w).alloc (Nat.le_refl _) (.cells #[.string ⟨l.toArray⟩, .int .i64 k, .int .i64 0, .slice none 0 0, .int .i64 0] 245)
  have HT := Lib.hid ht
  have HR := Lib.hid hr
  have HO0 := Lib.hid hO0
  have HB0 := Lib.hid hB0
  clear ht hr hO0 hB0
  go_enter Tryz.func209, Tryz.ntmps209
  go_wp2
  go_loopw [] (fun wr => ∃ (g : Nat) (s : OSt), OutO wr w.heap.size k s ∧ outF g k s = some r ∧ s.text.length + s.op.length ≤ 1000000 ∧ Below w.heap.size w wr) (fun wr => tlen wr w.heap.size)
  case atStart => exact ⟨f, _, HO0.out, HR.out, by simpa using hs, HB0.out⟩
  case round =>
    obtain ⟨g, s, hO, hf, hlen, hb⟩ := hrel
    have HB := Lib.hid hb
    have htr := HT.out.on hb
    have HTR := Lib.hid htr
    have HO := Lib.hid hO
    obtain ⟨A, n, cap, hA⟩ := hO
    have HA := Lib.hid hA
    have hat := hA.atT
    have hM := more_any w.heap.size s.text wr hat
    have hput := hA.put (trim s.text)
    cases g with
    | zero => simp [outF] at hf
    | succ g =>
      unfold outF at hf
      cases htm : trim s.text with
      | nil =>
        rw [htm] at hf hM hput
        simp only at hf
        have hbp := below_put wr w.heap.size []
        have HPB := Lib.hid (HB.out.trans hbp)
        have HP := Lib.hid hput
        have hc3 : (putT wr w.heap.size []).cell? ⟨w.heap.size, 3, none⟩ = some (.slice A n cap) := by rw [hput.blk.cell]; rfl
        have hc2 : (putT wr w.heap.size []).cell? ⟨w.heap.size, 2, none⟩ = some (.int .i64 s.at_) := by rw [hput.blk.cell]; rfl
        have hc4 : (putT wr w.heap.size []).cell? ⟨w.heap.size, 4, none⟩ = some (.int .i64 s.most) := by rw [hput.blk.cell]; rfl
        have hn := hA.len
        have hHo := hold_no (putT wr w.heap.size [])
        have hHy := hold_yes (putT wr w.heap.size [])
        generalize hw2 : putT wr w.heap.size [] = w2 at *
        clear hw2
        by_cases hop : s.op = []
        · have hn0 : n = 0 := by rw [hn, hop]; rfl
          subst hn0
          by_cases hat0 : s.at_ = 0
          · rw [if_neg (by simp [hat0])] at hf
            obtain rfl : r = none := by simpa using hf.symm
            have hd : (s.at_ == 0) = true := by simp [hat0]
            have hd2 : (s.at_ != 0) = false := by simp [hat0]
            clear hf hb htr hA hat hput htm hbp hn hop hat0 hlen
            go_wp2_with fail
            refine hM.mono ?_; rintro e w' ⟨rfl, rfl⟩
            go_wp2_with (go_at_call 241; refine hHo.mono ?_; rintro e w' ⟨rfl, rfl⟩)
            exact ⟨rfl, HPB.out, rfl⟩
          · rw [if_pos ⟨hop, hat0⟩] at hf
            obtain rfl : r = some s.most := by simpa using hf.symm
            have hd : (s.at_ == 0) = false := by simpa using hat0
            have hd2 : (s.at_ != 0) = true := by simpa using hat0
            clear hf hb htr hA hat hput htm hbp hn hop hat0 hlen
            go_wp2_with fail
            refine hM.mono ?_; rintro e w' ⟨rfl, rfl⟩
            go_wp2_with (go_at_call 241; refine hHy.mono ?_; rintro e w' ⟨rfl, rfl⟩)
            go_ret
            exact ⟨HPB.out, rfl⟩
        · rw [if_neg (by simp [hop])] at hf
          obtain rfl : r = none := by simpa using hf.symm
          have hn0 : 0 < n := by rw [hn]; exact List.length_pos_iff.2 hop
          have hd : ((n : Int) == 0) = false := by rw [beq_eq_false_iff_ne]; omega
          clear hf hb htr hA hat hput htm hbp hn hop hlen
          go_wp2_with fail
          refine hM.mono ?_; rintro e w' ⟨rfl, rfl⟩
          go_wp2_with (go_at_call 241; refine hHo.mono ?_; rintro e w' ⟨rfl, rfl⟩)
          exact ⟨rfl, HPB.out, rfl⟩
      | cons c t =>
        rw [htm] at hf hM hput
        simp only at hf
        have hN := next_any w.heap.size (c :: t) (putT wr w.heap.size (c :: t)) hput.atT c t (trim_of htm)
        have hput2 := hA.put t
        have hpp : putT (putT wr w.heap.size (c :: t)) w.heap.size t = putT wr w.heap.size t := by simp only [putT, putT_putT]
        rw [hpp] at hN
        have hbp := below_put wr w.heap.size t
        have HPB := Lib.hid (HB.out.trans hbp)
        have htl := trim_len s.text
        rw [htm] at htl
        simp only [List.length_cons] at htl
        have hTk := token_any w.heap.size k { s with text := t } c (putT wr w.heap.size t) (by omega) (HT.out.on HPB.out) ⟨A, n, cap, hput2⟩ hk0 hk (by simp only; omega) (by simp only; omega)
        have htlw : tlen wr w.heap.size = s.text.length := tlen_of hat
        have HTLW := Lib.hid htlw
        cases htk : tokF k { s with text := t } c with
        | none =>
          rw [htk] at hf hTk
          simp only at hf
          obtain rfl : r = none := by simpa using hf.symm
          have hTk2 : Calls Tryz.prog 239 #[.pointer (some ⟨w.heap.size, 0, none⟩), .int .u8 c.toNat] (putT wr w.heap.size t) fun e w' => e = .panicked (leaves 4) ∧ Below w.heap.size (putT wr w.heap.size t) w' := hTk.mono fun e w' h => ⟨h.2, h.1⟩
          clear hf hb htr hA hat hput htm hbp hlen hput2 hpp htl htlw htk hTk
          generalize hw1 : putT wr w.heap.size (c :: t) = w1 at *
          generalize hw2 : putT wr w.heap.size t = w2 at *
          clear hw1 hw2
          go_wp2_with fail
          refine hM.mono ?_; rintro e w' ⟨rfl, rfl⟩
          go_wp2_with fail
          refine hN.mono ?_; rintro e w' ⟨rfl, rfl⟩
          go_wp2_with fail
          refine hTk2.mono ?_; rintro e w' ⟨rfl, hbt⟩
          exact ⟨rfl, HPB.out.trans hbt, rfl⟩
        | some s' =>
          rw [htk] at hf hTk
          simp only at hf
          have hl2 := tokF_len htk
          simp only at hl2
          have HF := Lib.hid hf
          have hTk2 : Calls Tryz.prog 239 #[.pointer (some ⟨w.heap.size, 0, none⟩), .int .u8 c.toNat] (putT wr w.heap.size t) fun e w' => e = .returned (.tuple #[]) ∧ OutO w' w.heap.size k s' ∧ Below w.heap.size (putT wr w.heap.size t) w' := hTk.mono fun e w' h => ⟨h.2.1, h.2.2, h.1⟩
          clear hf hb htr hA hat hput htm hbp hput2 hpp htlw htk hTk
          generalize hw1 : putT wr w.heap.size (c :: t) = w1 at *
          generalize hw2 : putT wr w.heap.size t = w2 at *
          clear hw1 hw2
          go_wp2_with fail
          refine hM.mono ?_; rintro e w' ⟨rfl, rfl⟩
          go_wp2_with fail
          refine hN.mono ?_; rintro e w' ⟨rfl, rfl⟩
          go_wp2_with fail
          refine hTk2.mono ?_; rintro e w' ⟨rfl, hot, hbt⟩
          go_wp2
          go_roundw
          case rel => exact ⟨g, s', hot, HF.out, by omega, HPB.out.trans hbt⟩
          case measure =>
            obtain ⟨A2, n2, cap2, hA2⟩ := hot
            rw [HTLW.out, tlen_of hA2.atT]
            omega
end Go.Proofs.YteephomlnbbjeaaGreatDoor

namespace Go.Proofs.YteephomlnbbjeaaGreatDoor
open Go Go.RowKit

/-- The free reduction of two words that meet: the first one's letters, the last one ahead. -/
def apR : List UInt8 → List UInt8 → List UInt8
  | x :: r, c :: v => if (x ^^^ c == 32) = true then apR r v else (x :: r).reverse ++ c :: v
  | r, v => r.reverse ++ v
def ap (u v : List UInt8) : List UInt8 := apR u.reverse v

theorem apR_len : ∀ r v : List UInt8, (apR r v).length ≤ r.length + v.length
  | [], v => by simp [apR]
  | x :: r, [] => by simp [apR]
  | x :: r, c :: v => by
    unfold apR; split
    · have := apR_len r v; simp; omega
    · simp; omega
theorem ap_len (u v : List UInt8) : (ap u v).length ≤ u.length + v.length := by simpa [ap] using apR_len u.reverse v

def sliceN : Value → Nat | .slice _ m _ => m | _ => 0
theorem sliceN_mk (A : Option Addr) (m c : Nat) : sliceN (.slice A m c) = m := rfl

set_option maxHeartbeats 1000000 in
set_option maxRecDepth 100000 in
theorem appendReduced_any (B : Nat) (A : Option Addr) (n cap : Nat) (u v : List UInt8) (w : World) (h : ownT w B (.slice A n cap) n u) (hB : B ≤ w.heap.size) (hn : u.length + v.length ≤ 100000000) :
    Calls Tryz.prog 245 #[.slice A n cap, .string ⟨v.toArray⟩] w fun e w' => (∃ A' n' cap', e = .returned (.slice A' n' cap') ∧ ownT w' B (.slice A' n' cap') n' (ap u v)) ∧ Below B w w' := by
  have hnu := h.1
  have HH := Lib.hid h
  clear h
  go_enter Tryz.func245, Tryz.ntmps245
  go_wp2
  go_loopw [0, 1] (fun a b wr => ∃ (m q : Nat) (r v' : List UInt8), a = .slice A m cap ∧ b = .string ⟨v'.toArray⟩ ∧ m = r.length ∧ ownT w B (.slice A m cap) m r.reverse ∧ apR r v' = ap u v ∧ r.length + v'.length ≤ 100000000 ∧ wr = w.drewN q)
    (fun a _ _ => sliceN a)
  case atStart => exact ⟨n, 0, u.reverse, v, rfl, rfl, by simp [hnu], by rw [List.reverse_reverse]; exact HH.out, rfl, by simpa using hn, rfl⟩
  case round =>
    obtain ⟨m, q, r, v', rfl, rfl, hm, hown, hap, hlen, hw⟩ := hrel
    have HO : Hid (ownT wr B (.slice A m cap) m r.reverse) := Lib.hid (by rw [hw]; exact hown.drewN q)
    have HW := Lib.hid hw
    have HOW := Lib.hid hown
    clear hw hown
    have hbw : ∀ k, Below B w (wr.drewN k) := fun k => by rw [HW.out]; exact ((Below.refl B w).drewN q).drewN k
    have HBW := Lib.hid hbw
    have hbsz : ∀ k, B ≤ (wr.drewN k).heap.size := fun k => Nat.le_trans hB (hbw k).size
    have HSZ := Lib.hid hbsz
    clear hbw hbsz
    cases r with
    | nil =>
      obtain rfl : m = 0 := by simpa using hm
      have hap2 : v' = ap u v := by rw [← hap]; simp [apR]
      have HAP := Lib.hid hap2
      clear hm hap hap2
      go_wp2
      go_quiet (fail)
      go_wp2_with (at_builtin; refine append_T (wr.drewN nq) rfl (.tmp 30) (.tmp 31) rfl B _ _ _ v' rfl (HO.out.drewN nq) rfl (by simp at hlen ⊢; omega) (HSZ.out nq) ?_)
      intro A' cap' w1 hown1 hb1
      go_wp2
      go_ret
      exact ⟨⟨A', _, cap', rfl, by rw [← HAP.out]; simpa using hown1⟩, (HBW.out nq).trans hb1⟩
    | cons x t =>
      obtain rfl : m = t.length + 1 := by simpa using hm
      obtain ⟨g, hA, hc⟩ := HO.out.cell t.length (by simp)
      subst hA
      have hx : (x :: t).reverse[t.length]'(by simp) = x := by simp
      rw [hx] at hc
      clear hx hm
      cases v' with
      | nil =>
        have hap2 : (x :: t).reverse = ap u v := by rw [← hap]; simp [apR]
        have HAP := Lib.hid hap2
        clear hap hap2
        go_wp2
        go_quiet (fail)
        go_wp2_with (at_builtin; refine append_T (wr.drewN nq) rfl (.tmp 30) (.tmp 31) rfl B _ _ _ [] rfl (HO.out.drewN nq) rfl (by simp at hlen ⊢; omega) (HSZ.out nq) ?_)
        intro A' cap' w1 hown1 hb1
        go_wp2
        go_ret
        exact ⟨⟨A', _, cap', rfl, by rw [← HAP.out]; simpa using hown1⟩, (HBW.out nq).trans hb1⟩
      | cons c v2 =>
        have hz : ((ByteArray.mk (c :: v2).toArray)[0]'(by simp [ByteArray.size])) = c := rfl
        have hcan := cancel_quiet x c wr
        have hwr : IntKind.i64.wrap (t.length : Int) = (t.length : Int) := IntWalk.i64_in _ (by simp at hlen; omega)
        have hti : (0 : Int) ≤ (t.length : Int) := by omega
        by_cases hcc : (x ^^^ c == 32) = true
        · rw [hcc] at hcan
          have hap2 : apR t v2 = ap u v := by rw [← hap]; conv => rhs; unfold apR; rw [if_pos hcc]
          have hcap : t.length ≤ cap := by have := HO.out.cap; omega
          have hsh := HOW.out.shorter t.length (by omega)
          have hsh2 : ownT w B (.slice (some ⟨g, 0, none⟩) t.length cap) t.length t.reverse := by simpa using hsh
          have HSH := Lib.hid hsh2
          have HAP := Lib.hid hap2
          have HC := Lib.hid hcan
          have hxx : (ByteArray.mk (c :: v2).toArray).extract 1 (v2.length + 1) = ⟨v2.toArray⟩ := ba_ext (by simp [ByteArray.data_extract, List.extract_eq_take_drop])
          clear hap hap2 hsh hsh2 hcan hcc
          go_wp2
          go_quiet ((go_at_call 161; exact HC.out _))
          go_wp2
          go_roundw
          case rel => exact ⟨t.length, q + nq, t, v2, rfl, rfl, rfl, HSH.out, HAP.out, by simp at hlen; omega, by rw [HW.out, World.drewN_drewN]⟩
          case measure => simp [sliceN_mk]
        · have hcf : (x ^^^ c == 32) = false := by simpa using hcc
          rw [hcf] at hcan
          have hap2 : (x :: t).reverse ++ c :: v2 = ap u v := by rw [← hap]; conv => rhs; unfold apR; rw [if_neg hcc]
          have HAP := Lib.hid hap2
          have HC := Lib.hid hcan
          clear hap hap2 hcan hcc hcf
          go_wp2
          go_quiet ((go_at_call 161; exact HC.out _))
          go_wp2_with (at_builtin; refine append_T (wr.drewN nq) rfl (.tmp 30) (.tmp 31) rfl B _ _ _ (c :: v2) rfl (HO.out.drewN nq) rfl (by simp at hlen ⊢; omega) (HSZ.out nq) ?_)
          intro A' cap' w1 hown1 hb1
          go_wp2
          go_ret
          exact ⟨⟨A', _, cap', rfl, by rw [← HAP.out]; simpa using hown1⟩, (HBW.out nq).trans hb1⟩
end Go.Proofs.YteephomlnbbjeaaGreatDoor
