/-
  Our own text, in the proofs of the laws of package word (cayleylaw01). Proved here: the outline of a text: mostOpen. Conditions: the arguments read as the row says and the listed tables lie as the program lays them; none other.
-/
import Derived.Test.YtflieikbhgneoaaGreatDoorWt
namespace Go.Proofs.YtflieikbhgneoaaGreatDoor
open Go Go.RowKit

/-- The outline's loop: 'some none': the text is none of the form; 'none': the fuel has run out. -/
def outF : Nat → Int → OSt → Option (Option Int)
  | 0, _, _ => none
  | f + 1, k, s => match trim s.text with
    | [] => if s.op = [] ∧ s.at_ ≠ 0 then some (some s.most) else some none
    | c :: t => match tokF k { s with text := t } c with
      | none => some none
      | some s' => outF f k s'

def OpenPost (w : World) (r : Option Int) (e : Ending) (w' : World) : Prop :=
  Below w.heap.size w w' ∧ match r with
    | some m => e = .returned (.int .i64 m)
    | none => e = .panicked (leaves 4)

def tlen (w : World) (b : Nat) : Nat := match w.cell? ⟨b, 0, none⟩ with | some (.string s) => s.size | _ => 0
theorem tlen_of {w : World} {b : Nat} {l : List UInt8} (h : AtT w b l) : tlen w b = l.length := by unfold tlen; rw [h.1]; rfl

theorem exR_len (l : List UInt8) : (exR l).length ≤ l.length := by unfold exR; split; exact Nat.le_refl _; simp
theorem tokF_len {k : Int} {s s' : OSt} {c : UInt8} (h : tokF k s c = some s') : s'.text.length ≤ s.text.length ∧ s'.op.length ≤ s.op.length + 1 := by
  unfold tokF at h
  split at h
  · cases h; simp
  split at h
  · cases h; simp
  split at h
  · split at h
    · cases h
    split at h
    · cases h; simp only [List.length_append, List.length_dropLast, List.length_singleton]; omega
    · cases h; simp only [List.length_dropLast]; omega
  split at h
  · split at h
    · cases h
      have h1 := exR_len (exRest s.text)
      have h2 := exRest_len s.text
      exact ⟨Nat.le_trans h1 h2, by simp⟩
    · cases h
  split at h
  · cases h; simp
  · cases h

set_option maxHeartbeats 2000000 in
theorem mostOpen_any (l : List UInt8) (k : Int) (w : World) (ht : Tabs w) (hk0 : 0 ≤ k) (hk : k ≤ 8) (hs : l.length ≤ 1000000) (f : Nat) (r : Option Int) (hr : outF f k ⟨l, 0, [], 0⟩ = some r) :
    Calls Tryz.prog 50 #[.int .i64 k, .string ⟨l.toArray⟩] w (OpenPost w r) := by
  have h3 := ht.three
  have hO0 : OutO (w.alloc (.cells #[.string ⟨l.toArray⟩, .int .i64 k, .int .i64 0, .slice none 0 0, .int .i64 0] 73)) w.heap.size k ⟨l, 0, [], 0⟩ :=
    ⟨none, 0, 0, heap_alloc_new w _, World.ownsRow_nil _ _ _ _⟩
  have hB0 := (Below.refl w.heap.size w).alloc (Nat.le_refl _) (.cells #[.string ⟨l.toArray⟩, .int .i64 k, .int .i64 0, .slice none 0 0, .int .i64 0] 73)
  have HT := Lib.hid ht
  have HR := Lib.hid hr
  have HO0 := Lib.hid hO0
  have HB0 := Lib.hid hB0
  clear ht hr hO0 hB0
  go_enter Tryz.func50, Tryz.ntmps50
  go_wp2
  go_loopw [] (fun wr => ∃ (g : Nat) (s : OSt), OutO wr w.heap.size k s ∧ outF g k s = some r ∧ s.text.length + s.op.length ≤ 1000000 ∧ Below w.heap.size w wr) (fun wr => tlen wr w.heap.size)
  case atStart => exact ⟨f, _, HO0.out, HR.out, by simpa using hs, HB0.out⟩
  case round =>
    obtain ⟨g, s, hO, hf, hlen, hb⟩ := hrel
    have HB := Lib.hid hb
    have htr := HT.out.on hb
    have HTR := Lib.hid htr
    have HO := Lib.hid hO
    obtain ⟨A, n, cap, hA⟩ := hO
    have HA := Lib.hid hA
    have hat := hA.atT
    have hM := more_any w.heap.size s.text wr hat
    have hput := hA.put (trim s.text)
    cases g with
    | zero => simp [outF] at hf
    | succ g =>
      unfold outF at hf
      cases htm : trim s.text with
      | nil =>
        rw [htm] at hf hM hput
        simp only at hf
        have hbp := below_put wr w.heap.size []
        have HPB := Lib.hid (HB.out.trans hbp)
        have HP := Lib.hid hput
        have hc3 : (putT wr w.heap.size []).cell? ⟨w.heap.size, 3, none⟩ = some (.slice A n cap) := by rw [hput.blk.cell]; rfl
        have hc2 : (putT wr w.heap.size []).cell? ⟨w.heap.size, 2, none⟩ = some (.int .i64 s.at_) := by rw [hput.blk.cell]; rfl
        have hc4 : (putT wr w.heap.size []).cell? ⟨w.heap.size, 4, none⟩ = some (.int .i64 s.most) := by rw [hput.blk.cell]; rfl
        have hn := hA.len
        have hHo := hold_no (putT wr w.heap.size [])
        have hHy := hold_yes (putT wr w.heap.size [])
        generalize hw2 : putT wr w.heap.size [] = w2 at *
        clear hw2
        by_cases hop : s.op = []
        · have hn0 : n = 0 := by rw [hn, hop]; rfl
          subst hn0
          by_cases hat0 : s.at_ = 0
          · rw [if_neg (by simp [hat0])] at hf
            obtain rfl : r = none := by simpa using hf.symm
            have hd : (s.at_ == 0) = true := by simp [hat0]
            have hd2 : (s.at_ != 0) = false := by simp [hat0]
            clear hf hb htr hA hat hput htm hbp hn hop hat0 hlen
            go_wp2_with fail
            refine hM.mono ?_; rintro e w' ⟨rfl, rfl⟩
            go_wp2_with (go_at_call 63; refine hHo.mono ?_; rintro e w' ⟨rfl, rfl⟩)
            exact ⟨rfl, HPB.out, rfl⟩
          · rw [if_pos ⟨hop, hat0⟩] at hf
            obtain rfl : r = some s.most := by simpa using hf.symm
            have hd : (s.at_ == 0) = false := by simpa using hat0
            have hd2 : (s.at_ != 0) = true := by simpa using hat0
            clear hf hb htr hA hat hput htm hbp hn hop hat0 hlen
            go_wp2_with fail
            refine hM.mono ?_; rintro e w' ⟨rfl, rfl⟩
            go_wp2_with (go_at_call 63; refine hHy.mono ?_; rintro e w' ⟨rfl, rfl⟩)
            go_ret
            exact ⟨HPB.out, rfl⟩
        · rw [if_neg (by simp [hop])] at hf
          obtain rfl : r = none := by simpa using hf.symm
          have hn0 : 0 < n := by rw [hn]; exact List.length_pos_iff.2 hop
          have hd : ((n : Int) == 0) = false := by rw [beq_eq_false_iff_ne]; omega
          clear hf hb htr hA hat hput htm hbp hn hop hlen
          go_wp2_with fail
          refine hM.mono ?_; rintro e w' ⟨rfl, rfl⟩
          go_wp2_with (go_at_call 63; refine hHo.mono ?_; rintro e w' ⟨rfl, rfl⟩)
          exact ⟨rfl, HPB.out, rfl⟩
      | cons c t =>
        rw [htm] at hf hM hput
        simp only at hf
        have hN := next_any w.heap.size (c :: t) (putT wr w.heap.size (c :: t)) hput.atT c t (trim_of htm)
        have hput2 := hA.put t
        have hpp : putT (putT wr w.heap.size (c :: t)) w.heap.size t = putT wr w.heap.size t := by simp only [putT, putT_putT]
        rw [hpp] at hN
        have hbp := below_put wr w.heap.size t
        have HPB := Lib.hid (HB.out.trans hbp)
        have htl := trim_len s.text
        rw [htm] at htl
        simp only [List.length_cons] at htl
        have hTk := token_any w.heap.size k { s with text := t } c (putT wr w.heap.size t) h3 (HT.out.on HPB.out) ⟨A, n, cap, hput2⟩ hk0 hk (by simp only; omega) (by simp only; omega)
        have htlw : tlen wr w.heap.size = s.text.length := tlen_of hat
        have HTLW := Lib.hid htlw
        cases htk : tokF k { s with text := t } c with
        | none =>
          rw [htk] at hf hTk
          simp only at hf
          obtain rfl : r = none := by simpa using hf.symm
          have hTk2 : Calls Tryz.prog 61 #[.pointer (some ⟨w.heap.size, 0, none⟩), .int .u8 c.toNat] (putT wr w.heap.size t) fun e w' => e = .panicked (leaves 4) ∧ Below w.heap.size (putT wr w.heap.size t) w' := hTk.mono fun e w' h => ⟨h.2, h.1⟩
          clear hf hb htr hA hat hput htm hbp hlen hput2 hpp htl htlw htk hTk
          generalize hw1 : putT wr w.heap.size (c :: t) = w1 at *
          generalize hw2 : putT wr w.heap.size t = w2 at *
          clear hw1 hw2
          go_wp2_with fail
          refine hM.mono ?_; rintro e w' ⟨rfl, rfl⟩
          go_wp2_with fail
          refine hN.mono ?_; rintro e w' ⟨rfl, rfl⟩
          go_wp2_with fail
          refine hTk2.mono ?_; rintro e w' ⟨rfl, hbt⟩
          exact ⟨rfl, HPB.out.trans hbt, rfl⟩
        | some s' =>
          rw [htk] at hf hTk
          simp only at hf
          have hl2 := tokF_len htk
          simp only at hl2
          have HF := Lib.hid hf
          have hTk2 : Calls Tryz.prog 61 #[.pointer (some ⟨w.heap.size, 0, none⟩), .int .u8 c.toNat] (putT wr w.heap.size t) fun e w' => e = .returned (.tuple #[]) ∧ OutO w' w.heap.size k s' ∧ Below w.heap.size (putT wr w.heap.size t) w' := hTk.mono fun e w' h => ⟨h.2.1, h.2.2, h.1⟩
          clear hf hb htr hA hat hput htm hbp hput2 hpp htlw htk hTk
          generalize hw1 : putT wr w.heap.size (c :: t) = w1 at *
          generalize hw2 : putT wr w.heap.size t = w2 at *
          clear hw1 hw2
          go_wp2_with fail
          refine hM.mono ?_; rintro e w' ⟨rfl, rfl⟩
          go_wp2_with fail
          refine hN.mono ?_; rintro e w' ⟨rfl, rfl⟩
          go_wp2_with fail
          refine hTk2.mono ?_; rintro e w' ⟨rfl, hot, hbt⟩
          go_wp2
          go_roundw
          case rel => exact ⟨g, s', hot, HF.out, by omega, HPB.out.trans hbt⟩
          case measure =>
            obtain ⟨A2, n2, cap2, hA2⟩ := hot
            rw [HTLW.out, tlen_of hA2.atT]
            omega
end Go.Proofs.YtflieikbhgneoaaGreatDoor
