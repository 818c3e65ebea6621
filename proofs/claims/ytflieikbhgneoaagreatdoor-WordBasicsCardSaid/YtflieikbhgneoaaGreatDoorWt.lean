/-
  Our own text, in the proofs of the laws of package word (cayleylaw01). Proved here: the outline of a text: token. Conditions: the arguments read as the row says and the listed tables lie as the program lays them; none other.
-/
import Derived.Test.YtflieikbhgneoaaGreatDoorWs
namespace Go.Proofs.YtflieikbhgneoaaGreatDoor
open Go Go.RowKit

structure OSt where
  text : List UInt8
  at_ : Int
  op : List UInt8
  most : Int

def OutO (w : World) (b : Nat) (k : Int) (s : OSt) : Prop := OutS w b s.text k s.at_ s.op s.most

/-- The exponent behind '^': the sign, and what stands behind it. -/
def exNeg (t : List UInt8) : Bool := match trim t with | c :: _ => c == 45 | [] => false
def exRest (t : List UInt8) : List UInt8 := match trim t with | c :: r => if c == 45 then r else c :: r | [] => []
theorem exNeg_spec (t : List UInt8) : if exNeg t then trim t = 45 :: exRest t else (trim t = exRest t ∧ ∀ r, exRest t ≠ 45 :: r) := by
  unfold exNeg exRest
  cases h : trim t with
  | nil => simp
  | cons c r =>
    by_cases hc : c = 45
    · simp [hc]
    · simp [hc]
theorem trim_len (l : List UInt8) : (trim l).length ≤ l.length := by
  unfold trim Lib.trimLeftB
  induction l with
  | nil => simp
  | cons c t ih => rw [List.dropWhile_cons]; split <;> simp; omega
theorem exRest_len (t : List UInt8) : (exRest t).length ≤ t.length := by
  have := trim_len t
  unfold exRest
  cases h : trim t with
  | nil => simp
  | cons c r => rw [h] at this; simp only; split <;> simp at this ⊢ <;> omega

def tokF (k : Int) (s : OSt) (c : UInt8) : Option OSt :=
  if c = 40 then some ⟨s.text, 0, s.op ++ [41], max s.most (s.op.length + 1)⟩
  else if c = 91 then some ⟨s.text, 0, s.op ++ [44], max s.most (s.op.length + 1)⟩
  else if c = 41 ∨ c = 44 ∨ c = 93 then
    (if s.at_ = 0 ∨ s.op.getLast? ≠ some c then none
     else if c = 44 then some ⟨s.text, 0, s.op.dropLast ++ [93], s.most⟩ else some ⟨s.text, 1, s.op.dropLast, s.most⟩)
  else if c = 94 then
    (if s.at_ = 1 ∧ exB (exRest s.text) = true then some ⟨exR (exRest s.text), 2, s.op, s.most⟩ else none)
  else if c = 49 ∨ letterB k c = true then some ⟨s.text, 1, s.op, s.most⟩ else none

/-- How token ends. -/
def TokPost (w : World) (b : Nat) (k : Int) (o : Option OSt) (r : Ending) (w' : World) : Prop :=
  Below b w w' ∧ match o with
    | some s => r = .returned (.tuple #[]) ∧ OutO w' b k s
    | none => r = .panicked (leaves 4)

theorem u8_eqs (c x : UInt8) : ((c.toNat : Int) == (x.toNat : Int)) = decide (c = x) := by
  rw [Bool.eq_iff_iff]; simp only [beq_iff_eq, decide_eq_true_eq]
  constructor
  · intro h; exact UInt8.toNat_inj.1 (by exact_mod_cast h)
  · intro h; rw [h]

theorem u8_ne (c x : UInt8) (n : Int) (hn : (x.toNat : Int) = n) (h : c ≠ x) : ((c.toNat : Int) == n) = false := by
  rw [← hn, u8_eqs]; simpa using h

theorem getLast_split {l : List UInt8} {x : UInt8} (h : l.getLast? = some x) : l = l.dropLast ++ [x] := by
  rcases List.eq_nil_or_concat l with rfl | ⟨m, y, rfl⟩
  · simp at h
  · simp at h; simp [h]

set_option maxHeartbeats 1000000 in
theorem token_end (b : Nat) (k : Int) (s : OSt) (c : UInt8) (hc : c = 41 ∨ c = 44 ∨ c = 93) (w : World) (h : OutO w b k s) (hl : s.op.length ≤ 1000000000) :
    Calls Tryz.prog 81 #[.pointer (some ⟨b, 0, none⟩), .int .u8 c.toNat] w (TokPost w b k (tokF k s c)) := by
  have hc1 : c ≠ 40 := by rintro rfl; revert hc; decide
  have hc2 : c ≠ 91 := by rintro rfl; revert hc; decide
  by_cases hno : s.at_ = 0 ∨ s.op.getLast? ≠ some c
  · have HR : tokF k s c = none := by unfold tokF; rw [if_neg hc1, if_neg hc2, if_pos hc, if_pos hno]
    rw [HR]
    exact (end_no b s.text k s.at_ s.op s.most c w h hno hl).mono fun r w' ⟨h1, h2⟩ => ⟨h2, h1⟩
  · have h0 : s.at_ ≠ 0 := fun e => hno (.inl e)
    have hlast : s.op.getLast? = some c := Classical.byContradiction fun e => hno (.inr e)
    have hsp := getLast_split hlast
    have hdl : s.op.dropLast.length ≤ 1000000000 := by simp; omega
    have h' : OutS w b s.text k s.at_ (s.op.dropLast ++ [c]) s.most := by rw [← hsp]; exact h
    by_cases h44 : c = 44
    · have HR : tokF k s c = some ⟨s.text, 0, s.op.dropLast ++ [93], s.most⟩ := by unfold tokF; rw [if_neg hc1, if_neg hc2, if_pos hc, if_neg hno, if_pos h44]
      rw [HR]
      subst h44
      exact (end_comma b s.text k s.at_ s.op.dropLast s.most w h' h0 hdl).mono fun r w' ⟨h1, h2, h3⟩ => ⟨h3, h1, h2⟩
    · have HR : tokF k s c = some ⟨s.text, 1, s.op.dropLast, s.most⟩ := by unfold tokF; rw [if_neg hc1, if_neg hc2, if_pos hc, if_neg hno, if_neg h44]
      rw [HR]
      exact (end_shut b s.text k s.at_ s.op.dropLast c (by intro e; exact h44 (UInt8.toNat_inj.1 (by exact_mod_cast e))) s.most w h' h0 hdl).mono fun r w' ⟨h1, h2, h3⟩ => ⟨h3, h1, h2⟩

set_option maxHeartbeats 1000000 in
theorem token_any (b : Nat) (k : Int) (s : OSt) (c : UInt8) (w : World) (hb : 2 < b) (ht : Tabs w) (h : OutO w b k s) (hk0 : 0 ≤ k) (hk : k ≤ 8) (hl : s.op.length ≤ 1000000000) (htl : s.text.length ≤ 1000000000) :
    Calls Tryz.prog 61 #[.pointer (some ⟨b, 0, none⟩), .int .u8 c.toNat] w (TokPost w b k (tokF k s c)) := by
  by_cases h1 : c = 40
  · subst h1
    have hbg := begin_any b s.text k s.at_ s.op s.most 41 w h hl
    have HR : Hid (tokF k s 40 = some ⟨s.text, 0, s.op ++ [41], max s.most (s.op.length + 1)⟩) := Lib.hid (by simp [tokF])
    clear h ht
    go_enter Tryz.func61, Tryz.ntmps61
    go_wp2_with (go_at_call 80; refine hbg.mono ?_; rintro e w' ⟨rfl, ho, hbw⟩)
    go_end0
    rw [HR.out]
    exact ⟨hbw, rfl, ho⟩
  by_cases h2 : c = 91
  · subst h2
    have hbg := begin_any b s.text k s.at_ s.op s.most 44 w h hl
    have HR : Hid (tokF k s 91 = some ⟨s.text, 0, s.op ++ [44], max s.most (s.op.length + 1)⟩) := Lib.hid (by simp [tokF])
    clear h ht h1
    go_enter Tryz.func61, Tryz.ntmps61
    go_wp2_with (go_at_call 80; refine hbg.mono ?_; rintro e w' ⟨rfl, ho, hbw⟩)
    go_end0
    rw [HR.out]
    exact ⟨hbw, rfl, ho⟩
  have e1 := u8_ne c 40 40 rfl h1
  have e2 := u8_ne c 91 91 rfl h2
  by_cases h3 : c = 41 ∨ c = 44 ∨ c = 93
  · have hE := token_end b k s c h3 w h hl
    have hE2 : Calls Tryz.prog 81 #[.pointer (some ⟨b, 0, none⟩), .int .u8 c.toNat] w fun r w' => (r = .returned (.tuple #[]) ∨ r = .panicked (leaves 4)) ∧ TokPost w b k (tokF k s c) r w' :=
      hE.mono fun r w' hp => ⟨by
        obtain ⟨_, h2⟩ := hp
        cases hx : tokF k s c with
        | none => rw [hx] at h2; exact .inr h2
        | some st => rw [hx] at h2; exact .inl h2.1, hp⟩
    have HE := Lib.hid hE2
    generalize tokF k s c = o at *
    have h3' := h3
    clear h ht h1 h2 hE hE2 h3
    rcases h3' with rfl | rfl | rfl
    · clear e1 e2
      go_enter Tryz.func61, Tryz.ntmps61
      go_wp2_with (go_at_call 81; refine HE.out.mono ?_; rintro e w' ⟨rfl | rfl, hp⟩)
      · go_end0
        exact hp
      · exact ⟨rfl, hp⟩
    · clear e1 e2
      go_enter Tryz.func61, Tryz.ntmps61
      go_wp2_with (go_at_call 81; refine HE.out.mono ?_; rintro e w' ⟨rfl | rfl, hp⟩)
      · go_end0
        exact hp
      · exact ⟨rfl, hp⟩
    · clear e1 e2
      go_enter Tryz.func61, Tryz.ntmps61
      go_wp2_with (go_at_call 81; refine HE.out.mono ?_; rintro e w' ⟨rfl | rfl, hp⟩)
      · go_end0
        exact hp
      · exact ⟨rfl, hp⟩
  have e3 := u8_ne c 41 41 rfl (fun e => h3 (.inl e))
  have e4 := u8_ne c 44 44 rfl (fun e => h3 (.inr (.inl e)))
  have e5 := u8_ne c 93 93 rfl (fun e => h3 (.inr (.inr e)))
  by_cases h4 : c = 94
  · subst h4
    clear e1 e2 e3 e4 e5 h1 h2 h3
    obtain ⟨A, n, cap, hA⟩ := h
    have hc2 : w.cell? ⟨b, 2, none⟩ = some (.int .i64 s.at_) := by rw [hA.blk.cell]; rfl
    have hat := hA.atT
    have hHo := hold_no w
    have hHy := hold_yes w
    by_cases ha : s.at_ = 1
    · have hX := exponent_any b s.text w hat (exNeg s.text) (exRest s.text) (exNeg_spec s.text) (Nat.le_trans (exRest_len _) htl)
      have hput := hA.put (exR (exRest s.text))
      have hf2 := hput.blk.frozen 2
      have hc22 : (putT w b (exR (exRest s.text))).cell? ⟨b, 2, none⟩ = some (.int .i64 s.at_) := by rw [hput.blk.cell]; rfl
      have hHo2 := hold_no (putT w b (exR (exRest s.text)))
      have hHy2 := hold_yes (putT w b (exR (exRest s.text)))
      have hbp := below_put w b (exR (exRest s.text))
      have hd : (s.at_ == 1) = true := by simp [ha]
      have HP := Lib.hid hput
      generalize hww : putT w b (exR (exRest s.text)) = w2 at *
      have HWW := Lib.hid hww
      cases hB : exB (exRest s.text) with
      | true =>
        have HR : Hid (tokF k s 94 = some ⟨exR (exRest s.text), 2, s.op, s.most⟩) := Lib.hid (by simp [tokF, ha, hB])
        rw [hB] at hX
        clear hput hA hat ht hB ha hww
        generalize exS (exNeg s.text) (exRest s.text) = ev at *
        go_enter Tryz.func61, Tryz.ntmps61
        go_wp2_with fail
        refine hHy.mono ?_; rintro e w' ⟨rfl, rfl⟩
        go_wp2_with fail
        refine hX.mono ?_; rintro e w' ⟨rfl, rfl⟩
        go_wp2_with fail
        refine hHy2.mono ?_; rintro e w' ⟨rfl, rfl⟩
        go_wp2
        go_end0
        rw [HR.out]
        exact ⟨hbp.setCell (p := ⟨b, 2, none⟩) (Nat.le_refl _) _, rfl, _, _, _, HP.out.set (most' := s.most) (text' := exR (exRest s.text)) (k' := k) (at' := 2) 2 (.int .i64 2) rfl⟩
      | false =>
        have HR : Hid (tokF k s 94 = none) := Lib.hid (by simp [tokF, hB])
        rw [hB] at hX
        clear hput hA hat ht hB ha hww
        generalize exS (exNeg s.text) (exRest s.text) = ev at *
        go_enter Tryz.func61, Tryz.ntmps61
        go_wp2_with fail
        refine hHy.mono ?_; rintro e w' ⟨rfl, rfl⟩
        go_wp2_with fail
        refine hX.mono ?_; rintro e w' ⟨rfl, rfl⟩
        go_wp2_with fail
        refine hHo2.mono ?_; rintro e w' ⟨rfl, rfl⟩
        rw [HR.out]
        exact ⟨rfl, hbp, rfl⟩
    · have HR : Hid (tokF k s 94 = none) := Lib.hid (by simp [tokF, ha])
      have hd : (s.at_ == 1) = false := by simpa using ha
      clear hA hat ht ha
      go_enter Tryz.func61, Tryz.ntmps61
      go_wp2_with (go_at_call 63; refine hHo.mono ?_; rintro e w' ⟨rfl, rfl⟩)
      rw [HR.out]
      exact ⟨rfl, Below.refl _ _, rfl⟩
  have e6 := u8_ne c 94 94 rfl h4
  have hHo := hold_no w
  have hHy := hold_yes w
  obtain ⟨A, n, cap, hA⟩ := h
  have hc1 : w.cell? ⟨b, 1, none⟩ = some (.int .i64 k) := by rw [hA.blk.cell]; rfl
  have hc2 : w.cell? ⟨b, 2, none⟩ = some (.int .i64 s.at_) := by rw [hA.blk.cell]; rfl
  have hf2 := hA.blk.frozen 2
  have hI := isLetter_any k c w ht hk0 hk
  have HA := Lib.hid hA
  by_cases h5 : c = 49
  · have HR : Hid (tokF k s c = some ⟨s.text, 1, s.op, s.most⟩) := Lib.hid (by unfold tokF; rw [if_neg h1, if_neg h2, if_neg h3, if_neg h4, if_pos (Or.inl h5)])
    have e7 : ((c.toNat : Int) == 49) = true := by rw [h5]; rfl
    clear h1 h2 h3 h4 h5 hA ht
    go_enter Tryz.func61, Tryz.ntmps61
    go_wp2_with (go_at_call 63; refine hHy.mono ?_; rintro e w' ⟨rfl, rfl⟩)
    go_end0
    rw [HR.out]
    exact ⟨(Below.refl b w).setCell (p := ⟨b, 2, none⟩) (Nat.le_refl _) _, rfl, _, _, _, HA.out.set (most' := s.most) (text' := s.text) (k' := k) (at' := 1) 2 (.int .i64 1) rfl⟩
  have e7 := u8_ne c 49 49 rfl h5
  cases hlb : letterB k c with
  | true =>
    have HR : Hid (tokF k s c = some ⟨s.text, 1, s.op, s.most⟩) := Lib.hid (by unfold tokF; rw [if_neg h1, if_neg h2, if_neg h3, if_neg h4, if_pos (Or.inr hlb)])
    rw [hlb] at hI
    clear h1 h2 h3 h4 h5 hA ht hlb
    go_enter Tryz.func61, Tryz.ntmps61
    go_wp2_with (first | (go_at_call 63; refine hHy.mono ?_; rintro e w' ⟨rfl, rfl⟩) | (go_at_call 34; refine hI.mono ?_; rintro e w' ⟨rfl, rfl⟩))
    go_end0
    rw [HR.out]
    exact ⟨(Below.refl b w).setCell (p := ⟨b, 2, none⟩) (Nat.le_refl _) _, rfl, _, _, _, HA.out.set (most' := s.most) (text' := s.text) (k' := k) (at' := 1) 2 (.int .i64 1) rfl⟩
  | false =>
    have HR : Hid (tokF k s c = none) := Lib.hid (by unfold tokF; rw [if_neg h1, if_neg h2, if_neg h3, if_neg h4, if_neg (by simp [h5, hlb])])
    rw [hlb] at hI
    clear h1 h2 h3 h4 h5 hA ht hlb
    go_enter Tryz.func61, Tryz.ntmps61
    go_wp2_with (first | (go_at_call 63; refine hHo.mono ?_; rintro e w' ⟨rfl, rfl⟩) | (go_at_call 34; refine hI.mono ?_; rintro e w' ⟨rfl, rfl⟩))
    rw [HR.out]
    exact ⟨rfl, Below.refl _ _, rfl⟩
end Go.Proofs.YtflieikbhgneoaaGreatDoor
