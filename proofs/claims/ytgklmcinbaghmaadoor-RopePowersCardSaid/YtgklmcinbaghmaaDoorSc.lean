/-
  Our own text, in the proofs of the laws of package rope. Proved here: the calls of RopePowers, and its walk at a list that is no rope. Conditions: the nodes lie in memory as the slice says; the listed table lies as the program lays it.
-/
import Derived.Test.YtgklmcinbaghmaaDoorSb
namespace Go.Proofs.YtgklmcinbaghmaaDoor
open Go Go.RowKit

theorem rInverse_any (c : UInt8) (w : World) : Calls Tryd.prog 10 #[.int .u8 c.toNat] w fun e w' => e = .returned (.int .u8 (invc c).toNat) ∧ w = w' := by
  have hx := xor_u8_32 c
  go_enter Tryd.func10, Tryd.ntmps10
  go_wp2
  go_ret
  exact ⟨by rw [← hx]; rfl, rfl⟩

theorem small_of {w : World} {A : Option Addr} {r : List Nd} (h : RopeAt w A r) : ∀ x ∈ r, x.word.size ≤ maxLen := by
  intro x hx
  obtain ⟨i, hi, rfl⟩ := List.getElem_of_mem hx
  obtain ⟨a, _, _, h2⟩ := h i hi
  exact h2
theorem small_inv {r : List Nd} (h : ∀ x ∈ r, x.word.size ≤ maxLen) : ∀ x ∈ r.map invN, x.word.size ≤ maxLen := by
  intro x hx
  obtain ⟨y, hy, rfl⟩ := List.mem_map.1 hx
  have := h y hy
  unfold invN
  split
  · split <;> exact this
  · show (invW y.word.data.toList).toArray.size ≤ maxLen
    simp only [List.size_toArray, invW_length]
    exact this
theorem small_invRope {r : List Nd} (h : ∀ x ∈ r, x.word.size ≤ maxLen) : ∀ x ∈ invRope r, x.word.size ≤ maxLen := by
  unfold invRope
  split
  · exact small_inv h
  · intro x hx; cases hx
theorem small_pow {r : List Nd} (h : ∀ x ∈ r, x.word.size ≤ maxLen) (n : Int) : ∀ x ∈ powRope r n, x.word.size ≤ maxLen := by
  unfold powRope
  split
  · intro x hx; cases hx
  · split
    · intro x hx; cases hx
    · intro x hx
      rcases List.mem_append.1 hx with hx | hx
      · split at hx
        · exact small_inv h x hx
        · exact h x hx
      · simp only [List.mem_singleton] at hx
        subst hx
        show (0 : Nat) ≤ maxLen
        omega

/-- How the law goes on: its own rope, the power, the inverse. -/
structure Sp (w0 : World) (A : Option Addr) (r : List Nd) (A1 : Option Addr) (R1 : List Nd) (A2 : Option Addr) (R2 : List Nd) (w : World) : Prop where
  tabs : Tabs w
  ra : RopeAt w A r
  r1 : RopeAt w A1 R1
  r2 : RopeAt w A2 R2
  below : Below w0.heap.size w0 w
theorem Sp.on {w0 : World} {A A1 A2 : Option Addr} {r R1 R2 : List Nd} {w w' : World} (h : Sp w0 A r A1 R1 A2 R2 w) (hb : Below w.heap.size w w') : Sp w0 A r A1 R1 A2 R2 w' :=
  ⟨h.tabs.on hb, h.ra.on hb, h.r1.on hb, h.r2.on hb, h.below.trans (hb.mono h.below.size)⟩

theorem nil_rope (w : World) (A : Option Addr) : RopeAt w A [] := fun i hi => absurd hi (Nat.not_lt_zero i)

theorem p_pow (A : Option Addr) (r : List Nd) (cap : Nat) (n : Int) (w : World) (ht : Tabs w) (hr : RopeAt w A r) (hA : A = none → r = []) (hm : r.length ≤ maxLen) :
    Calls Tryd.prog 5 #[.slice A r.length cap, .int .i64 n] w fun e w' => ∃ A1 c1, e = .returned (.tuple #[.slice A1 (powRope r n).length c1, .int .i64 (powErr r n)]) ∧ Sp w A r A1 (powRope r n) none [] w' := by
  refine (Power_any A r cap n w ht hr hA hm).mono ?_
  rintro e w' ⟨A', cap', rfl, hown, hb⟩
  exact ⟨A', cap', rfl, ht.on hb, hr.on hb, ropeAt_own hown (small_pow (small_of hr) n), nil_rope _ _, hb⟩
theorem p_inv (w0 : World) (A : Option Addr) (r : List Nd) (cap : Nat) (A1 : Option Addr) (R1 : List Nd) (w : World) (h : Sp w0 A r A1 R1 none [] w) (hA : A = none → r = []) (hm : r.length ≤ maxLen) :
    Calls Tryd.prog 6 #[.slice A r.length cap] w fun e w' => ∃ A2 c2, e = .returned (.tuple #[.slice A2 (invRope r).length c2, .int .i64 (errI r)]) ∧ Sp w0 A r A1 R1 A2 (invRope r) w' := by
  refine (Inverse_any A r cap w h.tabs h.ra hA hm).mono ?_
  rintro e w' ⟨A', cap', rfl, hown, hb⟩
  have h2 := h.on hb
  exact ⟨A', cap', rfl, h2.tabs, h2.ra, h2.r1, ropeAt_own hown (small_invRope (small_of h.ra)), h2.below⟩
theorem p_sane {w0 : World} {A A1 A2 : Option Addr} {r R1 R2 : List Nd} {w : World} (h : Sp w0 A r A1 R1 A2 R2 w) : Calls Tryd.prog 8 #[] w fun e w' => e = .returned (.bool true) ∧ Sp w0 A r A1 R1 A2 R2 w' := by
  refine (sane_any w h.tabs).mono ?_
  rintro e w' ⟨rfl, hb⟩
  exact ⟨rfl, h.on hb⟩
theorem p_len {w0 : World} {A A1 A2 : Option Addr} {r R1 R2 : List Nd} {w : World} (h : Sp w0 A r A1 R1 A2 R2 w) (B : Option Addr) (t : List Nd) (c : Nat) (hB : RopeAt w B t) (ht : t.length ≤ maxLen) :
    Calls Tryd.prog 7 #[.slice B t.length c] w fun e w' => e = .returned (.tuple #[.int .i64 (lenI t), .int .i64 (errI t)]) ∧ Sp w0 A r A1 R1 A2 R2 w' := by
  refine (rLen_any B t c w hB ht).mono ?_
  rintro e w' ⟨rfl, hb⟩
  exact ⟨rfl, h.on hb⟩
theorem p_at {w0 : World} {A A1 A2 : Option Addr} {r R1 R2 : List Nd} {w : World} (h : Sp w0 A r A1 R1 A2 R2 w) (B : Option Addr) (t : List Nd) (c : Nat) (i : Int) (hB : RopeAt w B t) (ht : t.length ≤ maxLen) :
    Calls Tryd.prog 9 #[.slice B t.length c, .int .i64 i] w fun e w' => e = .returned (.tuple #[.int .u8 (atB t i).toNat, .int .i64 (atE t i)]) ∧ Sp w0 A r A1 R1 A2 R2 w' := by
  refine (rAt_any B t c i w hB ht).mono ?_
  rintro e w' ⟨rfl, hb⟩
  exact ⟨rfl, h.on hb⟩

set_option maxHeartbeats 2000000 in
set_option maxRecDepth 100000 in
theorem powers_none (A : Option Addr) (r : List Nd) (cap : Nat) (n i : Int) (w : World) (ht : Tabs w) (hr : RopeAt w A r) (hA : A = none → r = []) (hm : r.length ≤ maxLen) (hl : lens r = none) :
    Calls Tryd.prog 3 #[.slice A r.length cap, .int .i64 n, .int .i64 i] w fun e w' => e = .returned (.bool true) ∧ Below w.heap.size w w' := by
  have hP := p_pow A r cap n w ht hr hA hm
  have e1 : powRope r n = [] ∧ powErr r n = 20 := by unfold powRope powErr; rw [hl]; exact ⟨rfl, rfl⟩
  have e2 : invRope r = [] := by unfold invRope; rw [hl]
  rw [e1.1, e1.2] at hP
  have HI := Lib.hid (fun A1 w1 (h : Sp w A r A1 [] none [] w1) => p_inv w A r cap A1 [] w1 h hA hm)
  have HE := Lib.hid e2
  have HM := Lib.hid hm
  have HZ := Lib.hid (errI_none hl)
  have HZ2 := Lib.hid (lenI_none hl)
  clear ht hr hA hm e1 e2 hl
  go_enter Tryd.func3, Tryd.ntmps3
  go_wp2_with fail
  refine hP.mono ?_; rintro e w1 ⟨A1, c1, rfl, h1⟩; clear hP
  go_wp2_with fail
  refine (HI.out A1 w1 h1).mono ?_; rintro e w2 ⟨A2, c2, rfl, h2⟩; clear h1
  rw [HE.out] at h2
  simp only [HE.out, HZ.out]
  go_wp2_with fail
  refine (p_len h2 A r cap h2.ra HM.out).mono ?_; rintro e w3 ⟨rfl, h3⟩; clear h2
  simp only [HZ.out, HZ2.out]
  go_wp2_with fail
  refine (p_sane h3).mono ?_; rintro e w4 ⟨rfl, h4⟩; clear h3
  go_wp2
  go_ret
  exact ⟨rfl, h4.below⟩
end Go.Proofs.YtgklmcinbaghmaaDoor
