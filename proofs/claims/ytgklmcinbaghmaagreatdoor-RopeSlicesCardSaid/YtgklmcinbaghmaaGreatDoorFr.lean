/-
  Our own text, in the proof of the law RopeSlices of package rope (cayleylaw02). Proved here: RopeSlices returns true, whatever the list, the bounds and the index. Conditions: the nodes lie in memory as the slice says; the listed table lies as the program lays it.
-/
import Derived.Test.YtgklmcinbaghmaaGreatDoorFq
import Derived.Test.YtgklmcinbaghmaaGreatDoorRz
namespace Go.Proofs.YtgklmcinbaghmaaGreatDoor
open Go Go.RowKit

theorem atB_wordX {r : List Nd} {L : List Nat} (h : lens r = some L) (i : Nat) (hi : i < lastN L) : atB r (i : Int) = (wordOf r).getD i 0 := by
  rw [(at_in h i hi).1]; rfl
theorem word_lenX {r : List Nd} {L : List Nat} (h : lens r = some L) : (wordOf r).length = lastN L := by
  obtain ⟨k1, _, _⟩ := lens_ok h
  rcases Nat.eq_zero_or_pos r.length with h0 | h0
  · obtain rfl : r = [] := List.length_eq_zero_iff.1 h0
    obtain rfl : L = [] := List.length_eq_zero_iff.1 k1
    rfl
  · unfold wordOf lastN
    rw [dens_lens h _ (by omega), k1]

/-- What the law compares. -/
structure SlOk (a : List Nd) (i j : Int) (R : List Nd) : Prop where
  size : lenI R = j - i
  err : errI R = 0
  len : R.length ≤ 8 * a.length + 8
  ats : ∀ k : Int, 0 ≤ k → k < j - i → atB R k = atB a (i + k)

theorem ok_of_cuts {a : List Nd} {L : List Nat} (hl : lens a = some L) {i j : Nat} (hij : i < j) (hj : j ≤ lastN L) {R : List Nd} (h : Cuts a i j R) : SlOk a (i : Int) (j : Int) R := by
  obtain ⟨⟨M, hM⟩, hw, hlen⟩ := h
  have hwl := word_lenX hl
  have h1 := word_lenX hM
  rw [hw, cutW_len _ _ _ (Nat.le_of_lt hij) (by omega)] at h1
  refine ⟨?_, errI_some hM, hlen, fun k hk0 hk => ?_⟩
  · rw [lenI_some hM]; omega
  · obtain ⟨n, rfl⟩ := Int.eq_ofNat_of_zero_le hk0
    have hn : n < j - i := by omega
    have e : (i : Int) + (n : Int) = ((i + n : Nat) : Int) := by omega
    rw [e, atB_wordX hM n (by omega), atB_wordX hl (i + n) (by omega), hw]
    unfold cutW
    simp only [List.getD, List.getElem?_take, List.getElem?_drop, if_pos hn]
theorem ok_of_nil {a : List Nd} {i : Int} {R : List Nd} (h : R = []) : SlOk a i i R := by
  subst h
  refine ⟨?_, rfl, Nat.zero_le _, fun k h1 h2 => by omega⟩
  rw [Int.sub_self]; rfl

/-- How the law goes on: its rope, and the part. -/
structure Sx (w0 : World) (A : Option Addr) (a : List Nd) (A1 : Option Addr) (R : List Nd) (w : World) : Prop where
  tabs : Tabs w
  ra : RopeAt w A a
  r1 : RopeAt w A1 R
  below : Below w0.heap.size w0 w
theorem Sx.on {w0 : World} {A A1 : Option Addr} {a R : List Nd} {w w' : World} (h : Sx w0 A a A1 R w) (hb : Below w.heap.size w w') : Sx w0 A a A1 R w' :=
  ⟨h.tabs.on hb, h.ra.on hb, h.r1.on hb, h.below.trans (hb.mono h.below.size)⟩
theorem x_slice {w : World} {A : Option Addr} {a : List Nd} {cap : Nat} {i j : Int} {P : List Nd → Prop} {err : Int} (ht : Tabs w) (hr : RopeAt w A a) (h : Calls Tryz.prog 23 #[.slice A a.length cap, .int .i64 i, .int .i64 j] w (SlP w P err)) :
    Calls Tryz.prog 23 #[.slice A a.length cap, .int .i64 i, .int .i64 j] w fun e w' => ∃ R A1 c1, P R ∧ e = .returned (.tuple #[.slice A1 R.length c1, .int .i64 err]) ∧ Sx w A a A1 R w' := by
  refine h.mono ?_
  rintro e w' ⟨R, A1, c1, hP, rfl, h1, hb⟩
  exact ⟨R, A1, c1, hP, rfl, ht.on hb, hr.on hb, h1, hb⟩
theorem x_sane {w0 : World} {A A1 : Option Addr} {a R : List Nd} {w : World} (h : Sx w0 A a A1 R w) : Calls Tryz.prog 12 #[] w fun e w' => e = .returned (.bool true) ∧ Sx w0 A a A1 R w' :=
  (sane_any w h.tabs).mono fun _ _ x => ⟨x.1, h.on x.2⟩
theorem x_len {w0 : World} {A A1 : Option Addr} {a R : List Nd} {w : World} (h : Sx w0 A a A1 R w) (X : Option Addr) (t : List Nd) (c : Nat) (s e0 : Int) (hX : RopeAt w X t) (ht : t.length ≤ maxLen) (h1 : lenI t = s) (h2 : errI t = e0) :
    Calls Tryz.prog 9 #[.slice X t.length c] w fun e w' => e = .returned (.tuple #[.int .i64 s, .int .i64 e0]) ∧ Sx w0 A a A1 R w' := by
  subst h1 h2
  exact (rLen_any X t c w hX ht).mono fun _ _ x => ⟨x.1, h.on x.2⟩
theorem x_at {w0 : World} {A A1 : Option Addr} {a R : List Nd} {w : World} (h : Sx w0 A a A1 R w) (X : Option Addr) (t : List Nd) (c : Nat) (i : Int) (hX : RopeAt w X t) (ht : t.length ≤ maxLen) :
    Calls Tryz.prog 17 #[.slice X t.length c, .int .i64 i] w fun e w' => e = .returned (.tuple #[.int .u8 (atB t i).toNat, .int .i64 (atE t i)]) ∧ Sx w0 A a A1 R w' :=
  (rAt_any X t c i w hX ht).mono fun _ _ x => ⟨x.1, h.on x.2⟩

set_option maxHeartbeats 4000000 in
set_option maxRecDepth 100000 in
theorem slices_no (A : Option Addr) (a : List Nd) (cap : Nat) (i j k : Int) (w : World) (ht : Tabs w) (hr : RopeAt w A a) (hm : a.length ≤ maxLen) (hl : lens a = none) :
    Calls Tryz.prog 6 #[.slice A a.length cap, .int .i64 i, .int .i64 j, .int .i64 k] w fun e w' => e = .returned (.bool true) ∧ Below w.heap.size w w' := by
  have hP := x_slice ht hr (Slice_no A a cap i j w ht hr hm hl)
  have HS := Lib.hid (lenI_none hl)
  have HF := Lib.hid (errI_none hl)
  have HM := Lib.hid hm
  clear ht hr hm hl
  go_enter Tryz.func6, Tryz.ntmps6
  go_wp2_with fail
  refine hP.mono ?_; rintro e w1 ⟨R, A1, c1, rfl, rfl, h1⟩; clear hP
  go_wp2_with fail
  refine (x_len h1 A a cap 0 20 h1.ra HM.out HS.out HF.out).mono ?_; rintro e w2 ⟨rfl, h2⟩; clear h1
  go_wp2_with fail
  refine (x_sane h2).mono ?_; rintro e w3 ⟨rfl, h3⟩; clear h2
  go_wp2
  go_ret
  exact ⟨rfl, h3.below⟩

set_option maxHeartbeats 4000000 in
set_option maxRecDepth 100000 in
theorem slices_arg (A : Option Addr) (a : List Nd) (cap : Nat) (i j k : Int) (w : World) (ht : Tabs w) (hr : RopeAt w A a) (hm : a.length ≤ maxLen) (L : List Nat) (hl : lens a = some L) (hx : i < 0 ∨ j < i ∨ (lastN L : Int) < j) :
    Calls Tryz.prog 6 #[.slice A a.length cap, .int .i64 i, .int .i64 j, .int .i64 k] w fun e w' => e = .returned (.bool true) ∧ Below w.heap.size w w' := by
  have hP := x_slice ht hr (Slice_arg A a cap i j w ht hr hm L hl hx)
  have HS := Lib.hid (lenI_some hl)
  have HF := Lib.hid (errI_some hl)
  have HM := Lib.hid hm
  clear ht hr hm hl
  go_enter Tryz.func6, Tryz.ntmps6
  go_wp2_with fail
  refine hP.mono ?_; rintro e w1 ⟨R, A1, c1, rfl, rfl, h1⟩; clear hP
  go_wp2_with fail
  refine (x_len h1 A a cap (lastN L) 0 h1.ra HM.out HS.out HF.out).mono ?_; rintro e w2 ⟨rfl, h2⟩; clear h1
  by_cases hi : i < 0
  · have hd1 : decide (i < 0) = true := by simpa using hi
    clear hx hi
    go_wp2_with fail
    refine (x_sane h2).mono ?_; rintro e w3 ⟨rfl, h3⟩; clear h2
    go_wp2
    go_ret
    exact ⟨rfl, h3.below⟩
  · have hd1 : decide (i < 0) = false := by simpa using hi
    by_cases hji : j < i
    · have hd2 : decide (j < i) = true := by simpa using hji
      clear hx hi hji
      go_wp2_with fail
      refine (x_sane h2).mono ?_; rintro e w3 ⟨rfl, h3⟩; clear h2
      go_wp2
      go_ret
      exact ⟨rfl, h3.below⟩
    · have hd2 : decide (j < i) = false := by simpa using hji
      have hd3 : decide ((lastN L : Int) < j) = true := by simp; omega
      clear hx hi hji
      go_wp2_with fail
      refine (x_sane h2).mono ?_; rintro e w3 ⟨rfl, h3⟩; clear h2
      go_wp2
      go_ret
      exact ⟨rfl, h3.below⟩

set_option maxHeartbeats 4000000 in
set_option maxRecDepth 100000 in
theorem slices_big (A : Option Addr) (a : List Nd) (cap : Nat) (i j k : Int) (w : World) (ht : Tabs w) (hr : RopeAt w A a) (hm : a.length ≤ maxLen) (L : List Nat) (hl : lens a = some L) (hi : 0 ≤ i) (hij : i ≤ j) (hj : j ≤ (lastN L : Int)) (hb4 : 400 < a.length) :
    Calls Tryz.prog 6 #[.slice A a.length cap, .int .i64 i, .int .i64 j, .int .i64 k] w fun e w' => e = .returned (.bool true) ∧ Below w.heap.size w w' := by
  have hP := x_slice ht hr (Slice_big A a cap i j w ht hr hm L hl hi hij hj hb4)
  have HS := Lib.hid (lenI_some hl)
  have HF := Lib.hid (errI_some hl)
  have HM := Lib.hid hm
  have hd1 : decide (i < 0) = false := by simpa using hi
  have hd2 : decide (j < i) = false := by simpa using hij
  have hd3 : decide ((lastN L : Int) < j) = false := by simpa using hj
  have hd4 : decide ((400 : Int) < (a.length : Int)) = true := by simp; omega
  unfold maxLen at hm
  clear ht hr hl hb4 hi hij hj
  go_enter Tryz.func6, Tryz.ntmps6
  go_wp2_with fail
  refine hP.mono ?_; rintro e w1 ⟨R, A1, c1, rfl, rfl, h1⟩; clear hP
  go_wp2_with fail
  refine (x_len h1 A a cap (lastN L) 0 h1.ra HM.out HS.out HF.out).mono ?_; rintro e w2 ⟨rfl, h2⟩; clear h1
  go_wp2_with fail
  refine (x_sane h2).mono ?_; rintro e w3 ⟨rfl, h3⟩; clear h2
  go_wp2
  go_ret
  exact ⟨rfl, h3.below⟩

set_option maxHeartbeats 4000000 in
set_option maxRecDepth 100000 in
theorem slices_ok (A : Option Addr) (a : List Nd) (cap : Nat) (i j k : Int) (P : List Nd → Prop) (w : World) (ht : Tabs w) (hr : RopeAt w A a) (L : List Nat) (hl : lens a = some L) (hi : 0 ≤ i) (hij : i ≤ j) (hj : j ≤ (lastN L : Int)) (hb4 : a.length ≤ 400)
    (hS : Calls Tryz.prog 23 #[.slice A a.length cap, .int .i64 i, .int .i64 j] w (SlP w P 0)) (hP : ∀ R, P R → SlOk a i j R) :
    Calls Tryz.prog 6 #[.slice A a.length cap, .int .i64 i, .int .i64 j, .int .i64 k] w fun e w' => e = .returned (.bool true) ∧ Below w.heap.size w w' := by
  have hX := x_slice ht hr hS
  have HS := Lib.hid (lenI_some hl)
  have HF := Lib.hid (errI_some hl)
  have HM := Lib.hid (show a.length ≤ maxLen by unfold maxLen; omega)
  have HP := Lib.hid hP
  have b1 : (lastN L : Int) ≤ 1152921504606846976 := okL_le (lens_ok hl).2.1 _
  have hd1 : decide (i < 0) = false := by simpa using hi
  have hd2 : decide (j < i) = false := by simpa using hij
  have hd3 : decide ((lastN L : Int) < j) = false := by simpa using hj
  have hd4 : decide ((400 : Int) < (a.length : Int)) = false := by simp; omega
  clear ht hr hl hS hP
  go_enter Tryz.func6, Tryz.ntmps6
  go_wp2_with fail
  refine hX.mono ?_; rintro e w1 ⟨R, A1, c1, hp, rfl, h1⟩; clear hX
  obtain ⟨q1, q2, q3, q4⟩ := HP.out R hp
  have HQ1 := Lib.hid q1
  have HQ2 := Lib.hid q2
  have HQ4 := Lib.hid q4
  have HRM := Lib.hid (show R.length ≤ maxLen by unfold maxLen; omega)
  clear q1 q2 q4 hp
  go_wp2_with fail
  refine (x_len h1 A a cap (lastN L) 0 h1.ra HM.out HS.out HF.out).mono ?_; rintro e w2 ⟨rfl, h2⟩; clear h1
  go_wp2_with fail
  refine (x_len h2 A1 R c1 (j - i) 0 h2.r1 HRM.out HQ1.out HQ2.out).mono ?_; rintro e w3 ⟨rfl, h3⟩; clear h2
  go_wp2_with fail
  refine (x_sane h3).mono ?_; rintro e w4 ⟨rfl, h4⟩; clear h3
  have hd5 : decide (8 * (a.length : Int) + 8 < (R.length : Int)) = false := by simp; omega
  by_cases hk0 : k < 0
  · have hd6 : decide (k < 0) = true := by simpa using hk0
    go_wp2
    go_ret
    exact ⟨rfl, h4.below⟩
  · have hd6 : decide (k < 0) = false := by simpa using hk0
    by_cases hk1 : j - i ≤ k
    · have hd7 : decide (j - i ≤ k) = true := by simpa using hk1
      go_wp2
      go_ret
      exact ⟨rfl, h4.below⟩
    · have hd7 : decide (j - i ≤ k) = false := by simpa using hk1
      have hQ := x_at h4 A1 R c1 k h4.r1 HRM.out
      rw [HQ4.out k (by omega) (by omega)] at hQ
      generalize atE R k = e6 at *
      generalize hcc : atB a (i + k) = c at *
      have HC := Lib.hid hcc
      clear hcc
      go_wp2_with fail
      refine hQ.mono ?_; rintro e w5 ⟨rfl, h5⟩; clear hQ h4
      go_wp2_with fail
      refine (x_at h5 A a cap (i + k) h5.ra HM.out).mono ?_; rintro e w6 ⟨rfl, h6⟩; clear h5
      rw [HC.out]
      generalize atE a (i + k) = e7
      go_wp2
      go_ret
      exact ⟨rfl, h6.below⟩

/-- RopeSlices, whatever the list, the bounds and the index. -/
theorem slices_any (A : Option Addr) (a : List Nd) (cap : Nat) (i j k : Int) (w : World) (ht : Tabs w) (hr : RopeAt w A a) (hm : a.length ≤ maxLen) :
    Calls Tryz.prog 6 #[.slice A a.length cap, .int .i64 i, .int .i64 j, .int .i64 k] w fun e w' => e = .returned (.bool true) ∧ Below w.heap.size w w' := by
  cases hl : lens a with
  | none => exact slices_no A a cap i j k w ht hr hm hl
  | some L =>
    by_cases hx : i < 0 ∨ j < i ∨ (lastN L : Int) < j
    · exact slices_arg A a cap i j k w ht hr hm L hl hx
    · have hi : 0 ≤ i := by omega
      have hij : i ≤ j := by omega
      have hj : j ≤ (lastN L : Int) := by omega
      by_cases hb4 : 400 < a.length
      · exact slices_big A a cap i j k w ht hr hm L hl hi hij hj hb4
      · by_cases he : i = j
        · subst he
          exact slices_ok A a cap i i k _ w ht hr L hl hi hij hj (by omega) (Slice_nil A a cap i w ht hr hm L hl hi hj (by omega)) (fun R h => ok_of_nil h)
        · obtain ⟨i, rfl⟩ := Int.eq_ofNat_of_zero_le hi
          obtain ⟨j, rfl⟩ := Int.eq_ofNat_of_zero_le (show 0 ≤ j by omega)
          exact slices_ok A a cap i j k _ w ht hr L hl hi hij hj (by omega) (Slice_cut A a cap i j w ht hr hm L hl (by omega) (by omega) (by omega)) (fun R h => ok_of_cuts hl (by omega) (by omega) h)
end Go.Proofs.YtgklmcinbaghmaaGreatDoor
