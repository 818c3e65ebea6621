/-
  Our own text, in the proof of the law RopeSlices of package rope (cayleylaw02). Proved here: Slice returns a rope of the letters from i to j - 1, short. Conditions: the nodes lie in memory as the slice says; the listed table lies as the program lays it.
-/
import Derived.Test.YtgklmcinbaghmaaGreatDoorFp
namespace Go.Proofs.YtgklmcinbaghmaaGreatDoor
open Go Go.RowKit

theorem small_lens {o : List Nd} {M : List Nat} (h : lens o = some M) : ∀ x ∈ o, x.word.size ≤ maxLen := by
  intro x hx
  obtain ⟨k, hk, rfl⟩ := List.getElem_of_mem hx
  unfold maxLen
  rcases node_is h k hk with ⟨_, hlf, _⟩ | ⟨hw, _⟩ | ⟨hw, _⟩
  · unfold leafB at hlf
    rw [Bool.and_eq_true, decide_eq_true_eq] at hlf
    have h1 : o[k].word.size ≤ 100 := hlf.1
    omega
  · have h1 : o[k].word.size = 0 := congrArg List.length hw
    omega
  · have h1 : o[k].word.size = 0 := congrArg List.length hw
    omega

/-- What RopeSlices asks of the rope. -/
structure Cuts (a : List Nd) (i j : Nat) (o : List Nd) : Prop where
  valid : ∃ M, lens o = some M
  word : wordOf o = cutW (wordOf a) i j
  len : o.length ≤ 8 * a.length + 8

set_option maxHeartbeats 4000000 in
set_option maxRecDepth 100000 in
theorem Slice_cut (A : Option Addr) (a : List Nd) (cap : Nat) (i j : Nat) (w : World) (ht : Tabs w) (hr : RopeAt w A a) (hm : a.length ≤ maxLen) (L : List Nat) (hl : lens a = some L) (hij : i < j) (hj : j ≤ lastN L) (hb4 : a.length ≤ 400) :
    Calls Tryz.prog 23 #[.slice A a.length cap, .int .i64 (i : Int), .int .i64 (j : Int)] w (SlP w (Cuts a i j) 0) := by
  have hM := measure_any A a cap w ht hr hm
  unfold maxLen at hm
  have HL := Lib.hid hl
  obtain ⟨k1, k2, k3⟩ := lens_ok hl
  have hpos : 0 < a.length := (lastN_pos hl (by omega)).1
  have hlast : L.getD (a.length - 1) 0 = lastN L := (lastN_pos hl (by omega)).2.symm
  have HK := Lib.hid k1
  have HR := Lib.hid hr
  obtain ⟨ad, rfl, hx0, _⟩ := hr 0 hpos
  have hab : ad.block < w.heap.size := by
    have h1 := lt_of_cell hx0.1
    have h2 : (ad.add (0 * 4)).block = ad.block := by unfold Addr.add; split <;> rfl
    omega
  have hd1 : decide ((i : Int) < 0) = false := by simp
  have hd2 : decide ((j : Int) < (i : Int)) = false := by simp; omega
  have hd3 : decide ((lastN L : Int) < (j : Int)) = false := by simp; omega
  have hd4 : decide ((400 : Int) < (a.length : Int)) = false := by simp; omega
  have hd5 : ((i : Int) == (j : Int)) = false := by simp; omega
  have hd6 : decide (j < i) = false := by simp; omega
  have hd7 : decide (lastN L < j) = false := by simp; omega
  have hd8 : decide (400 < a.length) = false := by simp; omega
  have hd9 : (i == j) = false := by simp; omega
  clear ht hl k2 k1 hx0
  have HJ := Lib.hid hj
  have HIJ := Lib.hid hij
  have HLA := Lib.hid hlast
  clear hj hij hlast
  go_enter Tryz.func23, Tryz.ntmps23
  go_wp2_with fail
  refine hM.mono ?_
  rintro e w1 ⟨hyes, _⟩
  obtain ⟨Bm, hB, rfl, henv, hb⟩ := hyes L HL.out
  have HV := Lib.hid (value_last w1 Bm _ L (by rw [HK.out]; exact k3) henv ((a.length : Int) - 1) (by rw [HK.out]))
  have HN := Lib.hid (newSlicer_any (some ad) a cap L Bm w1 k3 henv (HR.out.on hb) (fun x e => by cases e; have := hb.size; omega))
  have HLT := Lib.hid henv.lt
  have HB := Lib.hid hb
  clear hyes henv hB hb
  go_wp2_with fail
  refine HV.out.mono ?_; rintro e w' ⟨rfl, rfl⟩
  go_wp2_with fail
  refine HN.out.mono ?_; rintro e w2 ⟨rfl, hs, hb2⟩
  have hli : Lie w1.heap.size w1.heap.size (w1.heap.size + 1) Bm (w1.heap.size + 2) := ⟨⟨by have := HLT.out; omega, by omega, by omega⟩, by have := HLT.out; omega, by omega⟩
  have hks : KS w2 w1.heap.size w1.heap.size (w1.heap.size + 1) Bm (w1.heap.size + 2) (some ad) cap a L [] none 0 0 (fun _ => none) := ⟨hs, ⟨[], rfl⟩, fun _ => .inl rfl, Nat.zero_le _⟩
  have hph : Phi a [] (fun _ => none) ≤ a.length := by unfold Phi; simp only [List.length_nil]; omega
  have hxc := XC_le L (a.length - 1) i j
  have hcut := cut_any hli HL.out (a.length - 1) (by omega) w2 [] none 0 0 _ i j hks HIJ.out (by rw [HLA.out]; exact HJ.out) (by omega)
  have hcast : ((a.length - 1 : Nat) : Int) = (a.length : Int) - 1 := by omega
  rw [hcast] at hcut
  have HC := Lib.hid hcut
  have HB2 := Lib.hid hb2
  have HPH := Lib.hid hph
  have HXC := Lib.hid hxc
  have hq2 : w1.heap.size < w2.heap.size := hs.q.lt
  clear hcut hks hs hb2 hph hxc hcast hli
  go_wp2_with fail
  refine HC.out.mono ?_
  rintro e w3 ⟨idx, o, Ao, co, n, f, rfl, hk, _, hp, hh, _, hidx, hg⟩
  have c3 : w3.cell? ⟨w1.heap.size, 3, none⟩ = some (.slice Ao o.length co) := hk.st.q.cell 3
  have HKS := Lib.hid hk
  have HPP := Lib.hid hp
  have HH := Lib.hid hh
  have HID := Lib.hid (hidx rfl)
  have HG := Lib.hid hg
  clear hk hp hh hidx hg
  go_wp2
  go_ret2
  obtain ⟨M, hM⟩ := HKS.out.val
  refine ⟨o, Ao, co, ⟨⟨M, hM⟩, ?_, ?_⟩, rfl, ropeAt_own HKS.out.st.own (small_lens hM), ?_⟩
  · have := HH.out.2
    unfold wordOf
    rw [← HID.out, Nat.add_sub_cancel]
    exact this
  · have h1 := HPP.out
    have h2 := HPH.out
    have h3 := HXC.out
    have h4 : o.length ≤ Phi a o f := Nat.le_add_right _ _
    omega
  · have h1 := HB.out
    have h2 := HB2.out.mono h1.size
    have h3 := HG.out
    have hz := h1.size
    refine (h1.trans h2).trans ⟨h3.os, h3.tape, h3.output, h3.size, fun b hb => h3.block b (by omega) (by omega) (by omega) (fun e => by cases e)⟩
end Go.Proofs.YtgklmcinbaghmaaGreatDoor
