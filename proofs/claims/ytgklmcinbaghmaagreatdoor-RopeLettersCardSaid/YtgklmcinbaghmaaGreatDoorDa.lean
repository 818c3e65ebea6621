/-
  Our own text, in the proof of the law RopeLetters of package rope (cayleylaw02). Proved here: the reference's Word returns the word of a rope. Conditions: the nodes lie in memory as the slice says.
-/
import Derived.Test.YtgklmcinbaghmaaGreatDoorRt
namespace Go.Proofs.YtgklmcinbaghmaaGreatDoor
open Go Go.RowKit

theorem word_take {r : List Nd} {L : List Nat} (h : lens r = some L) (k : Nat) (hk : k < lastN L) : (wordOf r).take (k + 1) = (wordOf r).take k ++ [letQ r (r.length - 1) k] := by
  have hl := wordOf_len h
  have hk' : k < (wordOf r).length := by omega
  rw [List.take_succ_eq_append_getElem hk']
  congr 2
  show _ = (wordOf r).getD k 0
  simp [List.getD, List.getElem?_eq_getElem hk']

set_option maxHeartbeats 2000000 in
set_option maxRecDepth 100000 in
theorem rWord_any (A : Option Addr) (r : List Nd) (cap : Nat) (w : World) (hr : RopeAt w A r) (hm : r.length ≤ maxLen) :
    Calls Tryz.prog 19 #[.slice A r.length cap] w fun e w' => e = .returned (.tuple #[.string ⟨(wordR r).toArray⟩, .int .i64 (wordE r)]) ∧ Below w.heap.size w w' := by
  have hM := rLen_any A r cap w hr hm
  have HR := Lib.hid hr
  have hm2 := hm
  unfold maxLen at hm
  clear hr
  cases hl : lens r with
  | none =>
    have h1 : Hid (wordR r = [] ∧ wordE r = 20) := Lib.hid (by simp [wordR, wordE, hl])
    rw [lenI_none hl, errI_none hl] at hM
    clear hl
    go_enter Tryz.func19, Tryz.ntmps19
    go_wp2_with fail
    refine hM.mono ?_
    rintro e w1 ⟨rfl, hb⟩
    go_wp2
    go_ret2
    exact ⟨by rw [h1.out.1, h1.out.2]; rfl, hb⟩
  | some L =>
    rw [lenI_some hl, errI_some hl] at hM
    obtain ⟨k1, k2, k3⟩ := lens_ok hl
    have HK2 := Lib.hid k2
    have HL := Lib.hid hl
    have hmx : (lastN L : Int) ≤ 1152921504606846976 := okL_le k2 _
    by_cases hlim : lastN L ≤ 100000
    · have h1 : Hid (wordR r = wordOf r ∧ wordE r = 0) := Lib.hid (by simp [wordR, wordE, hl, hlim])
      have hd : decide (100000 < (lastN L : Int)) = false := by simp; omega
      have HLAST := Lib.hid (fun h => lastN_pos hl h)
      have HWL := Lib.hid (wordOf_len hl)
      clear hl k1 k2
      go_enter Tryz.func19, Tryz.ntmps19
      go_wp2_with fail
      refine hM.mono ?_
      rintro e w1 ⟨rfl, hb⟩
      have hM2 := Lengths_any A r cap w1 (HR.out.on hb) hm2
      have HB := Lib.hid hb
      clear hb hM
      generalize hmm : lastN L = m at *
      have HMM := Lib.hid hmm
      clear hmm
      go_wp2_with fail
      refine hM2.mono ?_
      rintro e w2 ⟨hyes, _⟩
      obtain ⟨Al, capl, rfl, hown, hb2⟩ := hyes L HL.out
      have HLA := Lib.hid (lensAt_own hown)
      have HR2 := Lib.hid ((HR.out.on HB.out).on hb2)
      have HB2 := Lib.hid (HB.out.trans (hb2.mono HB.out.size))
      clear hyes hown hb2 hM2
      go_wp2
      go_loopw [8, 9] (fun out i wr => ∃ (k : Nat) (A' : Option Addr) (cap' : Nat), k ≤ m ∧ i = .int .i64 (k : Int) ∧ out = .slice A' k cap' ∧ wr.ownsRow w2.heap.size 5 1 (.slice A' k cap') k (bs ((wordOf r).take k)) ∧ Below w2.heap.size w2 wr)
        (fun _ i _ => m - (intOf i).toNat)
      case atStart => exact ⟨0, none, 0, Nat.zero_le _, rfl, rfl, World.ownsRow_nil _ _ _ _, Below.refl _ _⟩
      case round =>
        obtain ⟨k, A', cap', hk, rfl, rfl, hown, hb⟩ := hrel
        have HO := Lib.hid hown
        have HB3 := Lib.hid hb
        by_cases hlt : k < m
        · have hp := HLAST.out (by omega)
          have hx := letter_any A r cap L Al capl HL.out (r.length - 1) (by omega) k (by rw [← hp.2]; exact hlt) wr (HR2.out.on hb) (HLA.out.on hb)
          have hcast : ((r.length - 1 : Nat) : Int) = (r.length : Int) - 1 := by omega
          rw [hcast] at hx
          have HX := Lib.hid hx
          have hw8 : IntKind.i64.wrap ((r.length : Int) - 1) = (r.length : Int) - 1 := IntWalk.i64_in _ (by omega)
          have HWT := Lib.hid (word_take HL.out k (by rw [HMM.out]; exact hlt))
          clear hx hcast hown hb hp
          go_wp2_with fail
          refine HX.out.mono ?_; rintro e w3 ⟨rfl, hb3⟩
          have HO3 := Lib.hid (own_below HO.out hb3.block)
          have HB4 := Lib.hid (HB3.out.trans (hb3.mono HB3.out.size))
          clear hb3
          go_wp2_with (at_builtin; refine append_byte w3 rfl (.tmp 30) (.tmp 38) rfl w2.heap.size A' k cap' ((wordOf r).take k) (letQ r (r.length - 1) k) rfl HO3.out _ rfl rfl (by omega) HB4.out.size ?_; intro A9 cap9 w9 hown9 hb9; have HO9 := Lib.hid hown9; have HB9 := Lib.hid hb9; clear hown9 hb9)
          go_roundw
          case rel => exact ⟨k + 1, A9, cap9, by omega, by go_num, rfl, by rw [HWT.out]; exact HO9.out, HB4.out.trans HB9.out⟩
          case measure => simp [intOf]; omega
        · have hk' : k = m := by omega
          subst hk'
          have htk : (wordOf r).take k = wordOf r := List.take_of_length_le (by rw [HWL.out]; omega)
          rw [htk] at hown
          have hrun := run_string_own (P := Tryz.prog) wr 72 9 5 Tryz.underlying72 Tryz.underlying5 Tryz.underlying9 _ _ _ _ _ hown
          clear hown hb htk
          go_wp2
          go_ret2
          exact ⟨by rw [h1.out.1, h1.out.2]; rfl, HB2.out.trans (HB3.out.mono HB2.out.size)⟩
    · have h1 : Hid (wordR r = [] ∧ wordE r = 2) := Lib.hid (by simp [wordR, wordE, hl, hlim])
      have hd : decide (100000 < (lastN L : Int)) = true := by simp; omega
      clear hl k1 k2
      generalize lastN L = m at *
      go_enter Tryz.func19, Tryz.ntmps19
      go_wp2_with fail
      refine hM.mono ?_
      rintro e w1 ⟨rfl, hb⟩
      go_wp2
      go_ret2
      exact ⟨by rw [h1.out.1, h1.out.2]; rfl, hb⟩
end Go.Proofs.YtgklmcinbaghmaaGreatDoor
