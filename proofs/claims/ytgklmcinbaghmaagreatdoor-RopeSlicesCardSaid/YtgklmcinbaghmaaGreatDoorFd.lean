/-
  Our own text, in the proof of the law RopeSlices of package rope (cayleylaw02). Proved here: the slicer's join, power and leaf; the state that its calls keep. No condition but bounds.
-/
import Derived.Test.YtgklmcinbaghmaaGreatDoorFc
import Derived.Deep.RegionHeld3
namespace Go.Proofs.YtgklmcinbaghmaaGreatDoor
open Go Go.RowKit

abbrev Dis (Q P Bm B : Nat) : Prop := ¬ (Bm ≤ Q ∧ Q ≤ Bm + 4) ∧ ¬ (B ≤ Q ∧ Q ≤ B + 4) ∧ P ≠ Q

section
variable {w : World} {base Q P Bm B : Nat} {A : Option Addr} {cap : Nat} {a : List Nd} {L : List Nat} {o : List Nd} {Ao : Option Addr} {co n : Nat} {f : Int → Option Value}

set_option maxHeartbeats 1000000 in
theorem join_any (l r : Int) (h : Slc w base Q P Bm B A cap a L o Ao co n f) (hdis : Dis Q P Bm B) (hlen : o.length ≤ 4000) :
    Calls Tryz.prog 67 #[.pointer (some ⟨Q, 0, none⟩), .int .i64 l, .int .i64 r] w (AddP base Q P Bm B A cap a L o Ao n f ⟨⟨#[]⟩, l, r, 0⟩ w) := by
  have H := Lib.hid (add_any ⟨⟨#[]⟩, l, r, 0⟩ h hdis hlen)
  clear h
  go_enter Tryz.func67, Tryz.ntmps67
  go_wp2_with fail
  refine H.out.mono ?_; rintro e w' ⟨rfl, hx⟩
  have HX := Lib.hid hx
  clear hx
  go_wp2
  go_ret
  exact ⟨rfl, HX.out⟩

set_option maxHeartbeats 1000000 in
theorem power_any (l t : Int) (h : Slc w base Q P Bm B A cap a L o Ao co n f) (hdis : Dis Q P Bm B) (hlen : o.length ≤ 4000) :
    Calls Tryz.prog 68 #[.pointer (some ⟨Q, 0, none⟩), .int .i64 l, .int .i64 t] w (AddP base Q P Bm B A cap a L o Ao n f ⟨⟨#[]⟩, l, 0, t⟩ w) := by
  have H := Lib.hid (add_any ⟨⟨#[]⟩, l, 0, t⟩ h hdis hlen)
  clear h
  go_enter Tryz.func68, Tryz.ntmps68
  go_wp2_with fail
  refine H.out.mono ?_; rintro e w' ⟨rfl, hx⟩
  have HX := Lib.hid hx
  clear hx
  go_wp2
  go_ret
  exact ⟨rfl, HX.out⟩

set_option maxHeartbeats 1000000 in
theorem leaf65_any (s : ByteArray) (h : Slc w base Q P Bm B A cap a L o Ao co n f) (hdis : Dis Q P Bm B) (hlen : o.length ≤ 4000) :
    Calls Tryz.prog 65 #[.string s, .pointer (some ⟨P, 0, none⟩)] w (AddP base Q P Bm B A cap a L o Ao n f ⟨s, 0, 0, 0⟩ w) := by
  have H := Lib.hid (add_any ⟨s, 0, 0, 0⟩ h hdis hlen)
  have hc : w.cell? ⟨P, 0, none⟩ = some (.pointer (some ⟨Q, 0, none⟩)) := h.p.cell 0
  clear h
  go_enter Tryz.func65, Tryz.ntmps65
  go_wp2_with fail
  refine H.out.mono ?_; rintro e w' ⟨rfl, hx⟩
  have HX := Lib.hid hx
  clear hx
  go_wp2
  go_ret
  exact ⟨rfl, HX.out⟩
end

/-- The word of a node of the rope that is cut. -/
abbrev wordK (a : List Nd) (k : Nat) : List UInt8 := (dens a).getD k []
/-- What is kept is right. -/
def KnowO (a o : List Nd) (f : Int → Option Value) : Prop := ∀ j : Int, f j = none ∨ ∃ i : Nat, 0 ≤ j ∧ j < a.length ∧ f j = some (.int .i64 (i : Int)) ∧ Has o i (wordK a j.toNat)
theorem KnowO.more {a o : List Nd} {f : Int → Option Value} (h : KnowO a o f) (t : List Nd) : KnowO a (o ++ t) f := by
  intro j
  rcases h j with e | ⟨i, h1, h2, h3, h4⟩
  · exact .inl e
  · exact .inr ⟨i, h1, h2, h3, h4.more t⟩
theorem KnowO.put {a o : List Nd} {f : Int → Option Value} (h : KnowO a o f) {k i : Nat} (hk : k < a.length) (hi : Has o i (wordK a k)) : KnowO a o (putF f k (.int .i64 (i : Int))) := by
  intro j
  unfold putF
  by_cases hj : j = k
  · subst hj
    rw [if_pos rfl]
    exact .inr ⟨i, by omega, by omega, rfl, by simpa using hi⟩
  · rw [if_neg hj]; exact h j
theorem KnowO.nil {a : List Nd} {f : Int → Option Value} (h : KnowO a [] f) : ∀ j, f j = none := by
  intro j
  rcases h j with e | ⟨i, _, _, _, h4⟩
  · exact e
  · exact absurd h4.1 (Nat.not_lt_zero i)

/-- The slicer's state between two calls. -/
structure KS (w : World) (base Q P Bm B : Nat) (A : Option Addr) (cap : Nat) (a : List Nd) (L : List Nat) (o : List Nd) (Ao : Option Addr) (co n : Nat) (f : Int → Option Value) : Prop where
  st : Slc w base Q P Bm B A cap a L o Ao co n f
  val : ∃ M, lens o = some M
  know : KnowO a o f
  cnt : n ≤ cntF a.length f
/-- What is put out, and what can yet be kept. -/
def Phi (a o : List Nd) (f : Int → Option Value) : Nat := o.length + (a.length - cntF a.length f)

/-- How a cut of node k ends: the word u stands in out, at most x nodes more than are kept. -/
def CutP (base Q P Bm B : Nat) (A : Option Addr) (cap : Nat) (a : List Nd) (L : List Nat) (k x : Nat) (u : List UInt8) (w : World) (o : List Nd) (Ao : Option Addr) (f : Int → Option Value) (e : Ending) (w' : World) : Prop :=
  ∃ (idx : Nat) (o' : List Nd) (Ao' : Option Addr) (co' n' : Nat) (f' : Int → Option Value), e = .returned (.int .i64 (idx : Int)) ∧ KS w' base Q P Bm B A cap a L o' Ao' co' n' f' ∧ (∃ t, o' = o ++ t) ∧ Phi a o' f' ≤ Phi a o f + x ∧ Has o' idx u ∧
    (∀ j : Int, (k : Int) < j → f' j = f j) ∧ (o = [] → idx + 1 = o'.length) ∧ SGrow Q B (rowOf Ao) (rowOf Ao') w w'

/-- A node more, out of a call of add: the state behind it. -/
theorem add_step {w w' : World} {base Q P Bm B : Nat} {A : Option Addr} {cap : Nat} {a : List Nd} {L : List Nat} {o : List Nd} {Ao Ao' : Option Addr} {co co' n : Nat} {f : Int → Option Value} {x : Nd} {u : List UInt8}
    (h : KS w base Q P Bm B A cap a L o Ao co n f) (hg : Grown o x u) (hs : Slc w' base Q P Bm B A cap a L (o ++ [x]) Ao' co' n f) : KS w' base Q P Bm B A cap a L (o ++ [x]) Ao' co' n f ∧ Has (o ++ [x]) o.length u ∧ Phi a (o ++ [x]) f = Phi a o f + 1 :=
  ⟨⟨hs, hg.valid, h.know.more _, h.cnt⟩, hg.has, by unfold Phi; simp; omega⟩
end Go.Proofs.YtgklmcinbaghmaaGreatDoor
