/-
  Our own text, in the proofs of the laws of package rope. Proved here: RopeConcats returns true, whatever the two lists and the index. Conditions: the nodes lie in memory as the slices say; the listed table lies as the program lays it.
-/
import Derived.Test.YtgklmcinbaghmaaGreatDoorCg
namespace Go.Proofs.YtgklmcinbaghmaaGreatDoor
open Go Go.RowKit

theorem small_of {w : World} {A : Option Addr} {r : List Nd} (h : RopeAt w A r) : ∀ x ∈ r, x.word.size ≤ maxLen := by
  intro x hx
  obtain ⟨i, hi, rfl⟩ := List.getElem_of_mem hx
  obtain ⟨a, _, _, h2⟩ := h i hi
  exact h2
theorem small_mov {r : List Nd} (k : Nat) (h : ∀ x ∈ r, x.word.size ≤ maxLen) : ∀ x ∈ r.map (movN k), x.word.size ≤ maxLen := by
  intro x hx
  obtain ⟨y, hy, rfl⟩ := List.mem_map.1 hx
  have := h y hy
  unfold movN
  split
  · split <;> exact this
  · exact this
theorem small_cat {a b : List Nd} (h : ∀ x ∈ a, x.word.size ≤ maxLen) (h' : ∀ x ∈ b, x.word.size ≤ maxLen) : ∀ x ∈ catRope a b, x.word.size ≤ maxLen := by
  unfold catRope
  split
  · split
    · intro x hx; cases hx
    · split
      · intro x hx
        rcases List.mem_append.1 hx with hx | hx
        · exact h x hx
        · exact h' x hx
      · unfold catR
        intro x hx
        rcases List.mem_append.1 hx with hx | hx
        · rcases List.mem_append.1 hx with hx | hx
          · exact h x hx
          · exact small_mov _ h' x hx
        · simp only [List.mem_singleton] at hx
          subst hx
          show (0 : Nat) ≤ maxLen
          omega
  · intro x hx; cases hx

/-- How the law goes on: its two ropes, and the concatenation. -/
structure Sp (w0 : World) (A : Option Addr) (a : List Nd) (B : Option Addr) (b : List Nd) (A1 : Option Addr) (R : List Nd) (w : World) : Prop where
  tabs : Tabs w
  ra : RopeAt w A a
  rb : RopeAt w B b
  r1 : RopeAt w A1 R
  below : Below w0.heap.size w0 w
theorem Sp.on {w0 : World} {A B A1 : Option Addr} {a b R : List Nd} {w w' : World} (h : Sp w0 A a B b A1 R w) (hb : Below w.heap.size w w') : Sp w0 A a B b A1 R w' :=
  ⟨h.tabs.on hb, h.ra.on hb, h.rb.on hb, h.r1.on hb, h.below.trans (hb.mono h.below.size)⟩
theorem p_cat (A B : Option Addr) (a b : List Nd) (cap capb : Nat) (w : World) (ht : Tabs w) (hr : RopeAt w A a) (hr' : RopeAt w B b) (hA : A = none → a = [] ∧ cap = 0) (hB : B = none → b = [] ∧ capb = 0) (hm : a.length ≤ maxLen) (hm' : b.length ≤ maxLen) :
    Calls Tryz.prog 22 #[.slice A a.length cap, .slice B b.length capb] w fun e w' => ∃ A1 c1, e = .returned (.tuple #[.slice A1 (catRope a b).length c1, .int .i64 (catErr a b)]) ∧ Sp w A a B b A1 (catRope a b) w' := by
  refine (Concat_any A B a b cap capb w ht hr hr' hA hB hm hm').mono ?_
  rintro e w' ⟨A', cap', rfl, hown, hb⟩
  exact ⟨A', cap', rfl, ht.on hb, hr.on hb, hr'.on hb, ropeAt_own hown (small_cat (small_of hr) (small_of hr')), hb⟩
theorem p_sane {w0 : World} {A B A1 : Option Addr} {a b R : List Nd} {w : World} (h : Sp w0 A a B b A1 R w) : Calls Tryz.prog 12 #[] w fun e w' => e = .returned (.bool true) ∧ Sp w0 A a B b A1 R w' := by
  refine (sane_any w h.tabs).mono ?_
  rintro e w' ⟨rfl, hb⟩
  exact ⟨rfl, h.on hb⟩
theorem p_len {w0 : World} {A B A1 : Option Addr} {a b R : List Nd} {w : World} (h : Sp w0 A a B b A1 R w) (X : Option Addr) (t : List Nd) (c : Nat) (s e0 : Int) (hX : RopeAt w X t) (ht : t.length ≤ maxLen) (h1 : lenI t = s) (h2 : errI t = e0) :
    Calls Tryz.prog 9 #[.slice X t.length c] w fun e w' => e = .returned (.tuple #[.int .i64 s, .int .i64 e0]) ∧ Sp w0 A a B b A1 R w' := by
  subst h1 h2
  refine (rLen_any X t c w hX ht).mono ?_
  rintro e w' ⟨rfl, hb⟩
  exact ⟨rfl, h.on hb⟩
theorem p_at {w0 : World} {A B A1 : Option Addr} {a b R : List Nd} {w : World} (h : Sp w0 A a B b A1 R w) (X : Option Addr) (t : List Nd) (c : Nat) (i : Int) (hX : RopeAt w X t) (ht : t.length ≤ maxLen) :
    Calls Tryz.prog 17 #[.slice X t.length c, .int .i64 i] w fun e w' => e = .returned (.tuple #[.int .u8 (atB t i).toNat, .int .i64 (atE t i)]) ∧ Sp w0 A a B b A1 R w' := by
  refine (rAt_any X t c i w hX ht).mono ?_
  rintro e w' ⟨rfl, hb⟩
  exact ⟨rfl, h.on hb⟩

set_option maxHeartbeats 4000000 in
set_option maxRecDepth 100000 in
theorem concats_bad (A B : Option Addr) (a b : List Nd) (cap capb : Nat) (i : Int) (w : World) (ht : Tabs w) (hr : RopeAt w A a) (hr' : RopeAt w B b) (hA : A = none → a = [] ∧ cap = 0) (hB : B = none → b = [] ∧ capb = 0) (hm : a.length ≤ maxLen) (hm' : b.length ≤ maxLen) (hl : lens a = none ∨ lens b = none) :
    Calls Tryz.prog 5 #[.slice A a.length cap, .slice B b.length capb, .int .i64 i] w fun e w' => e = .returned (.bool true) ∧ Below w.heap.size w w' := by
  have hP := p_cat A B a b cap capb w ht hr hr' hA hB hm hm'
  have e1 : catRope a b = [] ∧ catErr a b = 20 := by
    unfold catRope catErr
    rcases hl with hl | hl
    · rw [hl]; exact ⟨rfl, rfl⟩
    · rw [hl]; cases lens a <;> exact ⟨rfl, rfl⟩
  rw [e1.1, e1.2] at hP
  have hbad : ¬ errI a = 0 ∨ ¬ errI b = 0 := by
    rcases hl with hl | hl
    · left; rw [errI_none hl]; decide
    · right; rw [errI_none hl]; decide
  have HM := Lib.hid hm
  have HM' := Lib.hid hm'
  clear ht hr hr' hA hB hm hm' e1 hl
  generalize hs1 : lenI a = s1 at *
  generalize hs2 : lenI b = s2 at *
  generalize hf1 : errI a = f1 at *
  generalize hf2 : errI b = f2 at *
  have HS1 := Lib.hid hs1
  have HS2 := Lib.hid hs2
  have HF1 := Lib.hid hf1
  have HF2 := Lib.hid hf2
  clear hs1 hs2 hf1 hf2
  go_enter Tryz.func5, Tryz.ntmps5
  go_wp2_with fail
  refine hP.mono ?_; rintro e w1 ⟨A1, c1, rfl, h1⟩; clear hP
  go_wp2_with fail
  refine (p_len h1 A a cap s1 f1 h1.ra HM.out HS1.out HF1.out).mono ?_; rintro e w2 ⟨rfl, h2⟩; clear h1
  go_wp2_with fail
  refine (p_len h2 B b capb s2 f2 h2.rb HM'.out HS2.out HF2.out).mono ?_; rintro e w3 ⟨rfl, h3⟩; clear h2
  by_cases hf : f1 = 0
  · have hd : (f1 != 0) = false := by simp [hf]
    have hd2 : (f2 != 0) = true := by rcases hbad with h | h; exact absurd hf h; simpa using h
    clear hf hbad
    go_wp2_with fail
    refine (p_sane h3).mono ?_; rintro e w4 ⟨rfl, h4⟩; clear h3
    go_wp2
    go_ret
    exact ⟨rfl, h4.below⟩
  · have hd : (f1 != 0) = true := by simpa using hf
    clear hf hbad
    go_wp2_with fail
    refine (p_sane h3).mono ?_; rintro e w4 ⟨rfl, h4⟩; clear h3
    go_wp2
    go_ret
    exact ⟨rfl, h4.below⟩

set_option maxHeartbeats 4000000 in
set_option maxRecDepth 100000 in
theorem concats_big (A B : Option Addr) (a b : List Nd) (cap capb : Nat) (i : Int) (w : World) (ht : Tabs w) (hr : RopeAt w A a) (hr' : RopeAt w B b) (hA : A = none → a = [] ∧ cap = 0) (hB : B = none → b = [] ∧ capb = 0) (hm : a.length ≤ maxLen) (hm' : b.length ≤ maxLen) (L M : List Nat) (hl : lens a = some L) (hl' : lens b = some M) (hb : catBig L M a.length b.length) :
    Calls Tryz.prog 5 #[.slice A a.length cap, .slice B b.length capb, .int .i64 i] w fun e w' => e = .returned (.bool true) ∧ Below w.heap.size w w' := by
  have hP := p_cat A B a b cap capb w ht hr hr' hA hB hm hm'
  have e1 : catRope a b = [] ∧ catErr a b = 2 := by unfold catRope catErr; rw [hl, hl']; simp only [if_pos hb]; exact ⟨trivial, trivial⟩
  rw [e1.1, e1.2] at hP
  have hs1 : lenI a = (lastN L : Int) := lenI_some hl
  have hs2 : lenI b = (lastN M : Int) := lenI_some hl'
  have hf1 : errI a = 0 := errI_some hl
  have hf2 : errI b = 0 := errI_some hl'
  have b1 : (lastN L : Int) ≤ 1152921504606846976 := okL_le (lens_ok hl).2.1 _
  have b2 : (lastN M : Int) ≤ 1152921504606846976 := okL_le (lens_ok hl').2.1 _
  have l1 := (lens_ok hl).2.2
  have l2 := (lens_ok hl').2.2
  have hbb : 4000 < a.length + b.length + 1 ∨ 1152921504606846976 < (lastN L : Int) + (lastN M : Int) := hb
  generalize lastN L = s at *
  generalize lastN M = m at *
  clear e1 hb
  have HM := Lib.hid hm
  have HM' := Lib.hid hm'
  have HS1 := Lib.hid hs1
  have HS2 := Lib.hid hs2
  have HF1 := Lib.hid hf1
  have HF2 := Lib.hid hf2
  clear ht hr hr' hA hB hm hm' hs1 hs2 hf1 hf2 hl hl'
  go_enter Tryz.func5, Tryz.ntmps5
  go_wp2_with fail
  refine hP.mono ?_; rintro e w1 ⟨A1, c1, rfl, h1⟩; clear hP
  go_wp2_with fail
  refine (p_len h1 A a cap s 0 h1.ra HM.out HS1.out HF1.out).mono ?_; rintro e w2 ⟨rfl, h2⟩; clear h1
  go_wp2_with fail
  refine (p_len h2 B b capb m 0 h2.rb HM'.out HS2.out HF2.out).mono ?_; rintro e w3 ⟨rfl, h3⟩; clear h2
  by_cases hq : (1152921504606846976 : Int) - (m : Int) < (s : Int)
  · have hd : decide ((1152921504606846976 : Int) - (m : Int) < (s : Int)) = true := by simpa using hq
    clear hq hbb
    go_wp2_with fail
    refine (p_sane h3).mono ?_; rintro e w4 ⟨rfl, h4⟩; clear h3
    go_wp2
    go_ret
    exact ⟨rfl, h4.below⟩
  · have hd : decide ((1152921504606846976 : Int) - (m : Int) < (s : Int)) = false := by simpa using hq
    have hd2 : decide ((4000 : Int) < (a.length : Int) + (b.length : Int) + 1) = true := by simp; omega
    clear hq hbb
    go_wp2_with fail
    refine (p_sane h3).mono ?_; rintro e w4 ⟨rfl, h4⟩; clear h3
    go_wp2
    go_ret
    exact ⟨rfl, h4.below⟩

set_option maxHeartbeats 4000000 in
set_option maxRecDepth 100000 in
theorem concats_ok (A B : Option Addr) (a b : List Nd) (cap capb : Nat) (i : Int) (w : World) (ht : Tabs w) (hr : RopeAt w A a) (hr' : RopeAt w B b) (hA : A = none → a = [] ∧ cap = 0) (hB : B = none → b = [] ∧ capb = 0) (hm : a.length ≤ maxLen) (hm' : b.length ≤ maxLen) (L M K : List Nat) (hl : lens a = some L) (hl' : lens b = some M) (hb : ¬ catBig L M a.length b.length) (hk : CatOk a b L M (catRope a b) K) :
    Calls Tryz.prog 5 #[.slice A a.length cap, .slice B b.length capb, .int .i64 i] w fun e w' => e = .returned (.bool true) ∧ Below w.heap.size w w' := by
  have hP := p_cat A B a b cap capb w ht hr hr' hA hB hm hm'
  have e1 : catErr a b = 0 := by unfold catErr; rw [hl, hl']; simp only [if_neg hb]
  rw [e1] at hP
  have hs1 : lenI a = (lastN L : Int) := lenI_some hl
  have hs2 : lenI b = (lastN M : Int) := lenI_some hl'
  have hf1 : errI a = 0 := errI_some hl
  have hf2 : errI b = 0 := errI_some hl'
  have b1 : (lastN L : Int) ≤ 1152921504606846976 := okL_le (lens_ok hl).2.1 _
  have b2 : (lastN M : Int) ≤ 1152921504606846976 := okL_le (lens_ok hl').2.1 _
  have l1 := (lens_ok hl).2.2
  have l2 := (lens_ok hl').2.2
  have hb1 : ¬ 4000 < a.length + b.length + 1 := fun h => hb (.inl h)
  have hb2 : ¬ 1152921504606846976 < (lastN L : Int) + (lastN M : Int) := fun h => hb (.inr h)
  have hk1 := lenI_some hk.lens
  have hk2 := errI_some hk.lens
  obtain ⟨_, q1, q2, q3, q4⟩ := hk
  rw [q1] at hk1 q4
  generalize catRope a b = R at *
  generalize lastN L = s at *
  generalize lastN M = m at *
  have HK1 := Lib.hid hk1
  have HK2 := Lib.hid hk2
  have HQ3 := Lib.hid q3
  have HQ4 := Lib.hid q4
  have HR := Lib.hid (show R.length ≤ maxLen by unfold maxLen; omega)
  clear e1 hb q1 q3 q4 hk1 hk2
  have HM := Lib.hid hm
  have HM' := Lib.hid hm'
  have HS1 := Lib.hid hs1
  have HS2 := Lib.hid hs2
  have HF1 := Lib.hid hf1
  have HF2 := Lib.hid hf2
  clear ht hr hr' hA hB hm hm' hs1 hs2 hf1 hf2 hl hl'
  go_enter Tryz.func5, Tryz.ntmps5
  go_wp2_with fail
  refine hP.mono ?_; rintro e w1 ⟨A1, c1, rfl, h1⟩; clear hP
  go_wp2_with fail
  refine (p_len h1 A a cap s 0 h1.ra HM.out HS1.out HF1.out).mono ?_; rintro e w2 ⟨rfl, h2⟩; clear h1
  go_wp2_with fail
  refine (p_len h2 B b capb m 0 h2.rb HM'.out HS2.out HF2.out).mono ?_; rintro e w3 ⟨rfl, h3⟩; clear h2
  have hd : decide ((1152921504606846976 : Int) - (m : Int) < (s : Int)) = false := by simp; omega
  have hd2 : decide ((4000 : Int) < (a.length : Int) + (b.length : Int) + 1) = false := by simp; omega
  have hd3 : decide ((a.length : Int) + (b.length : Int) + 1 < (R.length : Int)) = false := by simp; omega
  go_wp2_with fail
  refine (p_len h3 A1 R c1 ((s + m : Nat) : Int) 0 h3.r1 HR.out HK1.out HK2.out).mono ?_; rintro e w4 ⟨rfl, h4⟩; clear h3
  rw [Int.natCast_add]
  go_wp2_with fail
  refine (p_sane h4).mono ?_; rintro e w5 ⟨rfl, h5⟩; clear h4
  by_cases hi0 : i < 0
  · have hd4 : decide (i < 0) = true := by simpa using hi0
    go_wp2
    go_ret
    exact ⟨rfl, h5.below⟩
  · have hd4 : decide (i < 0) = false := by simpa using hi0
    by_cases hi1 : (s : Int) + (m : Int) ≤ i
    · have hd5 : decide ((s : Int) + (m : Int) ≤ i) = true := by simpa using hi1
      go_wp2
      go_ret
      exact ⟨rfl, h5.below⟩
    · have hd5 : decide ((s : Int) + (m : Int) ≤ i) = false := by simpa using hi1
      obtain ⟨j, rfl⟩ := Int.eq_ofNat_of_zero_le (show 0 ≤ i by omega)
      have hQ := p_at h5 A1 R c1 (j : Int) h5.r1 HR.out
      have HQ := Lib.hid hQ
      clear hQ
      generalize atE R (j : Int) = e6 at *
      by_cases hjs : j < s
      · have hv := HQ3.out j hjs
        have hd6 : decide ((s : Int) ≤ (j : Int)) = false := by simp; omega
        have hQ := HQ.out
        rw [hv] at hQ
        generalize hcc : atB a (j : Int) = c at *
        have HC := Lib.hid hcc
        clear hv hcc HQ3 HQ4
        go_wp2_with fail
        refine hQ.mono ?_; rintro e w6 ⟨rfl, h6⟩; clear hQ HQ h5
        go_wp2_with fail
        refine (p_at h6 A a cap (j : Int) h6.ra HM.out).mono ?_; rintro e w7 ⟨rfl, h7⟩; clear h6
        rw [HC.out]
        generalize atE a (j : Int) = e7
        go_wp2
        go_ret
        exact ⟨rfl, h7.below⟩
      · have hv := HQ4.out j (by omega) (by omega)
        have hd6 : decide ((s : Int) ≤ (j : Int)) = true := by simp; omega
        have hQ := HQ.out
        rw [hv] at hQ
        generalize hcc : atB b ((j : Int) - (s : Int)) = c at *
        have HC := Lib.hid hcc
        clear hv hcc HQ3 HQ4
        go_wp2_with fail
        refine hQ.mono ?_; rintro e w6 ⟨rfl, h6⟩; clear hQ HQ h5
        go_wp2_with fail
        refine (p_at h6 A a cap (j : Int) h6.ra HM.out).mono ?_; rintro e w7 ⟨rfl, h7⟩; clear h6
        generalize (atB a (j : Int)).toNat = c7
        generalize atE a (j : Int) = e7
        go_wp2_with fail
        refine (p_at h7 B b capb ((j : Int) - (s : Int)) h7.rb HM'.out).mono ?_; rintro e w8 ⟨rfl, h8⟩; clear h7
        rw [HC.out]
        generalize atE b ((j : Int) - (s : Int)) = e8
        go_wp2
        go_ret
        exact ⟨rfl, h8.below⟩

/-- RopeConcats, whatever the lists and the index. -/
theorem concats_any (A B : Option Addr) (a b : List Nd) (cap capb : Nat) (i : Int) (w : World) (ht : Tabs w) (hr : RopeAt w A a) (hr' : RopeAt w B b) (hA : A = none → a = [] ∧ cap = 0) (hB : B = none → b = [] ∧ capb = 0) (hm : a.length ≤ maxLen) (hm' : b.length ≤ maxLen) :
    Calls Tryz.prog 5 #[.slice A a.length cap, .slice B b.length capb, .int .i64 i] w fun e w' => e = .returned (.bool true) ∧ Below w.heap.size w w' := by
  cases hl : lens a with
  | none => exact concats_bad A B a b cap capb i w ht hr hr' hA hB hm hm' (.inl hl)
  | some L =>
    cases hl' : lens b with
    | none => exact concats_bad A B a b cap capb i w ht hr hr' hA hB hm hm' (.inr hl')
    | some M =>
      by_cases hb : catBig L M a.length b.length
      · exact concats_big A B a b cap capb i w ht hr hr' hA hB hm hm' L M hl hl' hb
      · obtain ⟨K, hk⟩ := cat_ok hl hl' hb
        exact concats_ok A B a b cap capb i w ht hr hr' hA hB hm hm' L M K hl hl' hb hk
end Go.Proofs.YtgklmcinbaghmaaGreatDoor
