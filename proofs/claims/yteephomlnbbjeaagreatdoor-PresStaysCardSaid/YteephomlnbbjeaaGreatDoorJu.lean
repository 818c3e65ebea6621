/-
  Our own text, in the proofs of the laws of package pres (cayleylaw03). Proved here: atEnd and the commutator; a factor of an expression, given its base; a base of an expression, given its expressions; a factor of an expression takes at least one byte; an expression, and all three parts at every depth. Conditions: the arguments lie in memory as the slices say; bounds; the listed tables lie as the program lays them.
-/
import Derived.Test.YteephomlnbbjeaaGreatDoorJt
import Derived.Laws.Runes
set_option linter.unusedVariables false
set_option linter.unusedSimpArgs false
set_option linter.unusedSectionVars false
namespace Go.Proofs.YteephomlnbbjeaaGreatDoor
open Go Go.RowKit

/-- All but block b is as it was; blocks may have come. -/
structure Par (b : Nat) (w w' : World) : Prop where
  os : w'.os = w.os
  tape : w'.tape = w.tape
  output : w'.output = w.output
  size : w.heap.size ≤ w'.heap.size
  block : ∀ k, k < w.heap.size → k ≠ b → w'.heap[k]? = w.heap[k]?
theorem Par.refl (b : Nat) (w : World) : Par b w w := ⟨rfl, rfl, rfl, Nat.le_refl _, fun _ _ _ => rfl⟩
theorem Par.trans {b : Nat} {x y z : World} (h : Par b x y) (k : Par b y z) : Par b x z :=
  ⟨k.os.trans h.os, k.tape.trans h.tape, k.output.trans h.output, Nat.le_trans h.size k.size, fun i hi hn => (k.block i (Nat.lt_of_lt_of_le hi h.size) hn).trans (h.block i hi hn)⟩
theorem Par.of {b : Nat} {w w' : World} (h : Below w.heap.size w w') : Par b w w' := ⟨h.os, h.tape, h.output, h.size, fun k hk _ => h.block k hk⟩
theorem Par.put (b : Nat) (w : World) (m : List UInt8) : Par b w (putT w b m) :=
  ⟨rfl, rfl, rfl, by simp [World.setCell], fun k _ hk => Below.heap_setCell w ⟨b, 0, none⟩ _ k (by simpa using hk)⟩
theorem Par.below {b : Nat} {w w' : World} (h : Par b w w') (hb : b ≤ w.heap.size) : Below b w w' := ⟨h.os, h.tape, h.output, h.size, fun k hk => h.block k (by omega) (by omega)⟩
theorem Tabs.par {w w' : World} {b : Nat} (ht : Tabs w) (hb : 3 < b) (hl : b ≤ w.heap.size) (h : Par b w w') : Tabs w' := ht.below hb (h.below hl)
theorem AtT.lt {w : World} {b : Nat} {l : List UInt8} (h : AtT w b l) : b < w.heap.size := lt_of_cell h.1
theorem AtT.on {w w' : World} {b : Nat} {l : List UInt8} (h : AtT w b l) (hb : Below w.heap.size w w') : AtT w' b l :=
  ⟨(hb.cell (p := ⟨b, 0, none⟩) h.lt).trans h.1, (hb.frozen (p := ⟨b, 0, none⟩) h.lt).trans h.2⟩
theorem ownT.par {w w' : World} {B n b : Nat} {v : Value} {l : List UInt8} (h : ownT w B v n l) (hB : b < B) (hp : Par b w w') : ownT w' B v n l := by
  refine ⟨h.1, ?_⟩
  rcases h.2 with h1 | ⟨g, cap, cur, fz, hv, hg, hh, rest⟩
  · exact .inl h1
  · exact .inr ⟨g, cap, cur, fz, hv, hg, by rw [hp.block g (Array.getElem?_eq_some_iff.1 hh).1 (by omega)]; exact hh, rest⟩

def endF (t : List UInt8) : Bool := match trim t with
  | [] => true
  | c :: _ => decide (c = 41 ∨ c = 44 ∨ c = 93)

set_option maxHeartbeats 400000 in
theorem atEnd_any (b : Nat) (l : List UInt8) (w : World) (h : AtT w b l) :
    Calls Tryz.prog 243 #[.pointer (some ⟨b, 0, none⟩)] w fun e w' => e = .returned (.bool (endF l)) ∧ w' = putT w b (trim l) := by
  have hM := more_any b l w h
  have h1 := h.put (trim l)
  have hc := h1.1
  cases ht : trim l with
  | nil =>
    have HE : Hid (endF l = true) := Lib.hid (by unfold endF; rw [ht])
    rw [ht] at hM hc
    clear h h1 ht
    go_enter Tryz.func243, Tryz.ntmps243
    go_wp2_with (go_at_call 238; refine hM.mono ?_; rintro e w' ⟨rfl, rfl⟩)
    go_ret
    exact ⟨by rw [HE.out]; rfl, rfl⟩
  | cons c t =>
    have HE : Hid (endF l = decide (c = 41 ∨ c = 44 ∨ c = 93)) := Lib.hid (by unfold endF; rw [ht])
    rw [ht] at hM hc
    have hz : ((ByteArray.mk (c :: t).toArray)[0]'(by simp [ByteArray.size])) = c := rfl
    clear h h1 ht
    by_cases h1 : c = 41
    · subst h1
      go_enter Tryz.func243, Tryz.ntmps243
      go_wp2_with (go_at_call 238; refine hM.mono ?_; rintro e w' ⟨rfl, rfl⟩)
      go_ret
      exact ⟨by rw [HE.out]; rfl, rfl⟩
    by_cases h2 : c = 44
    · subst h2
      go_enter Tryz.func243, Tryz.ntmps243
      go_wp2_with (go_at_call 238; refine hM.mono ?_; rintro e w' ⟨rfl, rfl⟩)
      go_ret
      exact ⟨by rw [HE.out]; rfl, rfl⟩
    by_cases h3 : c = 93
    · subst h3
      go_enter Tryz.func243, Tryz.ntmps243
      go_wp2_with (go_at_call 238; refine hM.mono ?_; rintro e w' ⟨rfl, rfl⟩)
      go_ret
      exact ⟨by rw [HE.out]; rfl, rfl⟩
    have e1 := u8_ne c 41 41 rfl h1
    have e2 := u8_ne c 44 44 rfl h2
    have e3 := u8_ne c 93 93 rfl h3
    have HE2 : Hid (endF l = false) := Lib.hid (by rw [HE.out]; simp [h1, h2, h3])
    clear h1 h2 h3
    go_enter Tryz.func243, Tryz.ntmps243
    go_wp2_with (go_at_call 238; refine hM.mono ?_; rintro e w' ⟨rfl, rfl⟩)
    go_ret
    exact ⟨by rw [HE2.out]; rfl, rfl⟩

def commW (u v : List UInt8) : List UInt8 := ap (ap (ap u v) (invW u)) (invW v)

set_option maxHeartbeats 1000000 in
theorem comm_yes (u v : List UInt8) (w : World) (hl : 2 * (u.length + v.length) ≤ 100000) :
    Calls Tryz.prog 263 #[.string ⟨u.toArray⟩, .string ⟨v.toArray⟩] w fun e w' => e = .returned (.string ⟨(commW u v).toArray⟩) ∧ Below w.heap.size w w' := by
  obtain ⟨w1, hconv, hown, hb⟩ := bytes_T w u
  have hF := fit_yes (2 * ((u.length : Int) + v.length)) (by omega) w
  have HOWN := Lib.hid (hown (by omega))
  have HB := Lib.hid hb
  have hlu : u.length ≤ 100000 := by omega
  have hlv : v.length ≤ 100000 := by omega
  clear hown hb
  go_enter Tryz.func263, Tryz.ntmps263
  go_wp2_with (go_at_call 244; refine hF.mono ?_; rintro e w' ⟨rfl, rfl⟩)
  have hap1 := appendReduced_any w.heap.size _ _ _ u v w1 HOWN.out HB.out.size (by omega)
  generalize grownCap w u.length 0 5 = gc at *
  clear hconv
  refine hap1.mono ?_
  rintro e w2 ⟨⟨A2, n2, cap2, rfl, ho2⟩, hb2⟩
  clear hap1
  have B2 := Lib.hid (HB.out.trans hb2)
  have O2 := Lib.hid ho2
  have hl2 := ap_len u v
  clear hb2 ho2
  go_wp2_with fail
  refine (inverse_any ⟨u.toArray⟩ _ (by rw [size_mk]; omega)).mono ?_
  rintro e w3 ⟨rfl, hb3⟩
  have B3 := Lib.hid (B2.out.trans (hb3.mono B2.out.size))
  have O3 := Lib.hid (O2.out.below hb3)
  have hi1 := invW_len u
  have hap3 := appendReduced_any w.heap.size A2 n2 cap2 (ap u v) (invW u) w3 O3.out B3.out.size (by omega)
  clear hb3
  go_wp2_with fail
  refine hap3.mono ?_
  rintro e w4 ⟨⟨A4, n4, cap4, rfl, ho4⟩, hb4⟩
  clear hap3
  have B4 := Lib.hid (B3.out.trans hb4)
  have O4 := Lib.hid ho4
  have hl4 := ap_len (ap u v) (invW u)
  clear hb4 ho4
  go_wp2_with fail
  refine (inverse_any ⟨v.toArray⟩ _ (by rw [size_mk]; omega)).mono ?_
  rintro e w5 ⟨rfl, hb5⟩
  have B5 := Lib.hid (B4.out.trans (hb5.mono B4.out.size))
  have O5 := Lib.hid (O4.out.below hb5)
  have hi2 := invW_len v
  have hap5 := appendReduced_any w.heap.size A4 n4 cap4 (ap (ap u v) (invW u)) (invW v) w5 O5.out B5.out.size (by omega)
  clear hb5
  go_wp2_with fail
  refine hap5.mono ?_
  rintro e w6 ⟨⟨A6, n6, cap6, rfl, ho6⟩, hb6⟩
  clear hap5
  have B6 := Lib.hid (B5.out.trans hb6)
  have hrun := run_string_T w6 w.heap.size A6 n6 cap6 _ ho6
  have HR : Hid (commW u v = ap (ap (ap u v) (invW u)) (invW v)) := Lib.hid rfl
  generalize ap (ap (ap u v) (invW u)) (invW v) = R at *
  clear hb6 ho6
  go_wp2
  go_ret
  exact ⟨by rw [HR.out]; rfl, B6.out⟩

set_option maxHeartbeats 400000 in
theorem comm_no (u v : List UInt8) (w : World) (hl : 100000 < 2 * (u.length + v.length)) (h1 : u.length ≤ 100000) (h2 : v.length ≤ 100000) :
    Calls Tryz.prog 263 #[.string ⟨u.toArray⟩, .string ⟨v.toArray⟩] w fun e w' => e = .panicked (leaves 2) ∧ w = w' := by
  have hF := fit_no (2 * ((u.length : Int) + v.length)) (by omega) w
  go_enter Tryz.func263, Tryz.ntmps263
  go_wp2_with (go_at_call 244; refine hF.mono ?_; rintro e w' ⟨rfl, rfl⟩)
  exact ⟨rfl, rfl, rfl⟩
end Go.Proofs.YteephomlnbbjeaaGreatDoor

namespace Go.Proofs.YteephomlnbbjeaaGreatDoor
open Go Go.RowKit

/-- What the parser's functions come to: a value and the text that is left, or too many letters. -/
inductive Res where
  | ok (v t : List UInt8)
  | lim

def fitF (n : Int) (r : Res) : Res := if n ≤ 100000 then r else .lim
/-- A power of a value. -/
def powF (w t : List UInt8) : Res :=
  let n := exS (exNeg t) (exRest t)
  fitF (max n (-n) * w.length) (.ok (powW (coreW w) (conjW w) n) (exR (exRest t)))

mutual
def baseF : Nat → List UInt8 → Option Res
  | 0, _ => none
  | f + 1, text => match trim text with
    | [] => none
    | c :: t =>
      if c = 49 then some (.ok [] t)
      else if c = 40 then match exprF f t with
        | some (.ok v t2) => match trim t2 with
          | _ :: t3 => some (.ok v t3)
          | [] => none
        | r => r
      else if c = 91 then match exprF f t with
        | some (.ok u t2) => match trim t2 with
          | _ :: t3 => match exprF f t3 with
            | some (.ok v t4) => match trim t4 with
              | _ :: t5 => some (fitF (2 * ((u.length : Int) + v.length)) (.ok (commW u v) t5))
              | [] => none
            | r => r
          | [] => none
        | r => r
      else if c.toNat < 128 then some (.ok [c] t) else none
def factorF : Nat → List UInt8 → Option Res
  | 0, _ => none
  | f + 1, text => match baseF f text with
    | some (.ok w t) => match trim t with
      | c :: t2 => if c = 94 then some (powF w t2) else some (.ok w (c :: t2))
      | [] => some (.ok w [])
    | r => r
def exprF : Nat → List UInt8 → Option Res
  | 0, _ => none
  | f + 1, text => match factorF f text with
    | some (.ok v t) => if endF t = true then some (.ok v (trim t)) else loopF f v v.length (trim t)
    | r => r
def loopF : Nat → List UInt8 → Nat → List UInt8 → Option Res
  | 0, _, _, _ => none
  | f + 1, p, n, t => if endF t = true then some (.ok p (trim t)) else match factorF f (trim t) with
    | some (.ok w t2) => if n + w.length ≤ 100000 then loopF f (ap p w) (n + w.length) t2 else some .lim
    | r => r
end

/-- How they end. -/
def ParPost (w : World) (b : Nat) (r : Res) (e : Ending) (w' : World) : Prop :=
  Par b w w' ∧ match r with
    | .ok v t => e = .returned (.string ⟨v.toArray⟩) ∧ AtT w' b t ∧ v.length ≤ 100000 ∧ t.length ≤ 1000000
    | .lim => e = .panicked (leaves 2)

theorem encode_byte (c : UInt8) (h : c.toNat < 128) : Utf8.encode (c.toNat : Int) = ⟨#[c]⟩ := by
  have hv : Utf8.valid (c.toNat : Int) = true := by
    have : ∀ n : Nat, n < 128 → Utf8.valid (n : Int) = true := by decide
    exact this _ h
  unfold Utf8.encode
  simp [hv, h]

theorem powW_len (C D : List UInt8) (n : Int) (hn : n ≠ 0) : (powW C D n).length ≤ n.natAbs * (2 * D.length + C.length) := by
  unfold powW
  have h1 : 1 ≤ n.natAbs := by omega
  split
  · simp
  · simp only [List.length_append, repeatL_len, invW_len]
    have e : (if n < 0 then invW C else C).length = C.length := by split <;> simp [invW_len]
    rw [e, Nat.mul_add]
    have : 2 * D.length ≤ n.natAbs * (2 * D.length) := Nat.le_mul_of_pos_left _ h1
    omega

theorem exV_bd (m : List UInt8) : 0 ≤ exV m ∧ exV m ≤ 999999 := by
  unfold exV
  split
  · omega
  · rename_i h
    have hb := digV_bd (m.take (digN m)) (fun c hc => by
      obtain ⟨i, hi, rfl⟩ := List.mem_iff_getElem.1 hc
      rw [List.getElem_take]
      simp at hi
      exact digN_get m i (by omega) (by omega))
    have hle := digN_le m
    rw [List.length_take, Nat.min_eq_left hle] at hb
    have : ∀ j : Nat, j ≤ 6 → (10 : Int) ^ j ≤ 1000000 := by decide
    have := this (digN m) (by omega)
    omega
theorem exS_bd (b : Bool) (m : List UInt8) : -999999 ≤ exS b m ∧ exS b m ≤ 999999 := by
  have := exV_bd m; unfold exS; split <;> omega

set_option maxHeartbeats 1000000 in
/-- A factor, behind its base. -/
theorem factor_of (f b : Nat) (text : List UInt8) (r : Res) (w : World) (hr : factorF (f + 1) text = some r) (h : AtT w b text)
    (hbase : ∀ r, baseF f text = some r → Calls Tryz.prog 258 #[.pointer (some ⟨b, 0, none⟩)] w (ParPost w b r)) :
    Calls Tryz.prog 242 #[.pointer (some ⟨b, 0, none⟩)] w (ParPost w b r) := by
  unfold factorF at hr
  cases hb : baseF f text with
  | none => rw [hb] at hr; simp at hr
  | some r0 =>
    have hB := hbase r0 hb
    rw [hb] at hr
    cases r0 with
    | lim =>
      simp only at hr
      obtain rfl : r = .lim := by simpa using hr.symm
      have hB2 : Calls Tryz.prog 258 #[.pointer (some ⟨b, 0, none⟩)] w fun e w' => e = .panicked (leaves 2) ∧ Par b w w' := hB.mono fun e w' h => ⟨h.2, h.1⟩
      clear hr hb hbase hB h
      go_enter Tryz.func242, Tryz.ntmps242
      go_wp2_with (go_at_call 258; refine hB2.mono ?_; rintro e w' ⟨rfl, hp⟩)
      exact ⟨rfl, hp, rfl⟩
    | ok v t =>
      simp only at hr
      have hB2 : Calls Tryz.prog 258 #[.pointer (some ⟨b, 0, none⟩)] w fun e w' => e = .returned (.string ⟨v.toArray⟩) ∧ Par b w w' ∧ AtT w' b t ∧ v.length ≤ 100000 ∧ t.length ≤ 1000000 := hB.mono fun e w' h => ⟨h.2.1, h.1, h.2.2⟩
      have hno : (∀ t2, trim t ≠ 94 :: t2) → r = .ok v (trim t) := by
        intro hne
        cases ht : trim t with
        | nil => rw [ht] at hr; simpa using hr.symm
        | cons c t2 =>
          rw [ht] at hr
          have : c ≠ 94 := fun e => hne t2 (by rw [ht, e])
          simp [this] at hr
          exact hr.symm
      have HB := Lib.hid hB2
      clear hb hbase hB hB2 h
      by_cases hcar : ∃ t2, trim t = 94 :: t2
      · obtain ⟨t2, ht2⟩ := hcar
        rw [ht2] at hr
        simp only [if_true] at hr
        obtain rfl : powF v t2 = r := by simpa using hr
        clear hr hno
        have hes := exS_bd (exNeg t2) (exRest t2)
        have hpf : powF v t2 = fitF (max (exS (exNeg t2) (exRest t2)) (-(exS (exNeg t2) (exRest t2))) * v.length) (.ok (powW (coreW v) (conjW v) (exS (exNeg t2) (exRest t2))) (exR (exRest t2))) := rfl
        go_enter Tryz.func242, Tryz.ntmps242
        go_wp2_with fail
        refine HB.out.mono ?_
        rintro e w1 ⟨rfl, hp, hat, hvl, htl⟩
        have hsk := skip_yes b t w1 hat 94 t2 ht2
        have hat2 := hat.put t2
        have htt := trim_len t
        rw [ht2] at htt
        simp only [List.length_cons] at htt
        have hX := exponent_any b t2 (putT w1 b t2) hat2 (exNeg t2) (exRest t2) (exNeg_spec t2) (Nat.le_trans (exRest_len _) (by omega))
        have hpp : putT (putT w1 b t2) b (exR (exRest t2)) = putT w1 b (exR (exRest t2)) := by simp only [putT, putT_putT]
        rw [hpp] at hX
        have hat3 := hat.put (exR (exRest t2))
        have hp3 := hp.trans (Par.put b w1 (exR (exRest t2)))
        have hl3 := exR_len (exRest t2)
        have hl4 := exRest_len t2
        have hl5 : (exR (exRest t2)).length ≤ 1000000 := by omega
        generalize exR (exRest t2) = R at *
        generalize hev : exS (exNeg t2) (exRest t2) = ev at *
        generalize exB (exRest t2) = eb at *
        generalize hw2 : putT w1 b t2 = w2 at *
        generalize hw3 : putT w1 b R = w3 at *
        obtain ⟨M, hM⟩ : ∃ M : Int, max ev (-ev) * (v.length : Int) = M := ⟨_, rfl⟩
        have hM0 : 0 ≤ M := by rw [← hM]; exact Int.mul_nonneg (by omega) (by omega)
        have hM1 : M ≤ 999999 * 100000 := by rw [← hM]; exact Int.mul_le_mul (by omega) (by omega) (by omega) (by decide)
        have hna : max ev (-ev) = (ev.natAbs : Int) := by omega
        have hMn : ((ev.natAbs * v.length : Nat) : Int) = M := by rw [← hM, hna]; simp
        rw [hM] at hpf
        have HSP := fun w => split_any ⟨v.toArray⟩ w (by rw [size_mk]; unfold maxLen; omega)
        simp only [data_mk] at HSP
        have hcc := conj_core_len v
        clear hat hat2 hev hw2 hw3 htt ht2 hl3 hl4 hpp hp
        by_cases hfit : M ≤ 100000
        · have hF := fit_yes M hfit w3
          have hpf2 : powF v t2 = .ok (powW (coreW v) (conjW v) ev) R := by rw [hpf]; simp [fitF, hfit]
          have hP := fun w => power_any ⟨(coreW v).toArray⟩ ⟨(conjW v).toArray⟩ ev w (by rw [size_mk]; omega) (by rw [size_mk]; omega) (by omega)
          simp only [data_mk] at hP
          have hpl : (powW (coreW v) (conjW v) ev).length ≤ 100000 := by
            by_cases h0 : ev = 0
            · rw [h0]; simp [powW]
            · have := powW_len (coreW v) (conjW v) ev h0
              rw [hcc] at this
              omega
          have HP := Lib.hid hP
          have HPF := Lib.hid hpf2
          have HS2 := Lib.hid HSP
          generalize coreW v = C at *
          generalize conjW v = D at *
          generalize powW C D ev = X at *
          clear hP hpf hpf2 HSP hcc hna hMn
          go_wp2_with fail
          refine hsk.mono ?_; rintro e w2 ⟨rfl, rfl⟩
          go_wp2_with fail
          refine hX.mono ?_; rintro e w3 ⟨rfl, rfl⟩
          go_wp2_with fail
          refine hF.mono ?_; rintro e w' ⟨rfl, rfl⟩
          go_wp2_with fail
          refine (HS2.out _).mono ?_; rintro e w5 ⟨rfl, n5, hw5⟩
          have B5 := below_drawn hw5 w3.heap.size
          clear hw5
          go_wp2_with fail
          refine (HP.out _).mono ?_; rintro e w6 ⟨rfl, hb6⟩
          go_wp2
          go_ret
          have hb := B5.trans (hb6.mono B5.size)
          rw [HPF.out]
          exact ⟨hp3.trans (Par.of hb), rfl, hat3.on hb, hpl, hl5⟩
        · have hF := fit_no M (by omega) w3
          have hpf2 : powF v t2 = .lim := by rw [hpf]; simp [fitF, hfit]
          have HPF := Lib.hid hpf2
          clear hpf hpf2 HSP hcc hna hMn
          go_wp2_with fail
          refine hsk.mono ?_; rintro e w2 ⟨rfl, rfl⟩
          go_wp2_with fail
          refine hX.mono ?_; rintro e w3 ⟨rfl, rfl⟩
          go_wp2_with fail
          refine hF.mono ?_; rintro e w' ⟨rfl, rfl⟩
          rw [HPF.out]
          exact ⟨rfl, hp3, rfl⟩
      · have hr2 := hno (fun t2 e => hcar ⟨t2, e⟩)
        subst hr2
        clear hr hno
        go_enter Tryz.func242, Tryz.ntmps242
        go_wp2_with fail
        refine HB.out.mono ?_
        rintro e w1 ⟨rfl, hp, hat, hvl, htl⟩
        have hsk := skip_no b t w1 hat 94 (fun t2 e => hcar ⟨t2, e⟩)
        have hat2 := hat.put (trim t)
        have hp2 := hp.trans (Par.put b w1 (trim t))
        have htl2 := trim_len t
        clear hcar hat hp
        go_wp2_with (go_at_call 259; refine hsk.mono ?_; rintro e w' ⟨rfl, rfl⟩)
        go_ret
        exact ⟨hp2, rfl, hat2, hvl, by omega⟩
end Go.Proofs.YteephomlnbbjeaaGreatDoor

namespace Go.Proofs.YteephomlnbbjeaaGreatDoor
open Go Go.RowKit

/-- What an expression's call owes, at fuel f. -/
def ExprAt (f b : Nat) : Prop := ∀ text r w, exprF f text = some r → AtT w b text → text.length ≤ 1000000 → Calls Tryz.prog 210 #[.pointer (some ⟨b, 0, none⟩)] w (ParPost w b r)

theorem ExprAt.lim {f b : Nat} (h : ExprAt f b) {text : List UInt8} {w : World} (hr : exprF f text = some .lim) (hat : AtT w b text) (hl : text.length ≤ 1000000) :
    Calls Tryz.prog 210 #[.pointer (some ⟨b, 0, none⟩)] w fun e w' => e = .panicked (leaves 2) ∧ Par b w w' := (h text _ w hr hat hl).mono fun _ _ h => ⟨h.2, h.1⟩
theorem ExprAt.ok {f b : Nat} (h : ExprAt f b) {text v t : List UInt8} {w : World} (hr : exprF f text = some (.ok v t)) (hat : AtT w b text) (hl : text.length ≤ 1000000) :
    Calls Tryz.prog 210 #[.pointer (some ⟨b, 0, none⟩)] w fun e w' => e = .returned (.string ⟨v.toArray⟩) ∧ Par b w w' ∧ AtT w' b t ∧ v.length ≤ 100000 ∧ t.length ≤ 1000000 := (h text _ w hr hat hl).mono fun _ _ h => ⟨h.2.1, h.1, h.2.2⟩

set_option maxHeartbeats 1000000 in
theorem base_of (f b : Nat) (text : List UInt8) (r : Res) (w : World) (hr : baseF (f + 1) text = some r) (h : AtT w b text) (hl : text.length ≤ 1000000) (hexpr : ExprAt f b) :
    Calls Tryz.prog 258 #[.pointer (some ⟨b, 0, none⟩)] w (ParPost w b r) := by
  have HX := Lib.hid hexpr
  clear hexpr
  unfold baseF at hr
  cases htm : trim text with
  | nil => rw [htm] at hr; simp at hr
  | cons c t =>
    rw [htm] at hr
    simp only at hr
    have hN := next_any b text w h c t htm
    have hat := h.put t
    have hp0 := Par.put b w t
    have htl := trim_len text
    rw [htm] at htl
    simp only [List.length_cons] at htl
    have htl1 : t.length ≤ 1000000 := by omega
    generalize hw1 : putT w b t = w1 at *
    clear hw1 h htm htl hl
    by_cases h1 : c = 49
    · rw [if_pos h1] at hr
      obtain rfl : r = .ok [] t := by simpa using hr.symm
      subst h1
      clear hr
      go_enter Tryz.func258, Tryz.ntmps258
      go_wp2_with (go_at_call 240; refine hN.mono ?_; rintro e w1 ⟨rfl, rfl⟩)
      go_ret
      exact ⟨hp0, rfl, hat, by simp, htl1⟩
    rw [if_neg h1] at hr
    have e1 := u8_ne c 49 49 rfl h1
    by_cases h2 : c = 40
    · rw [if_pos h2] at hr
      subst h2
      clear e1 h1
      cases hx : exprF f t with
      | none => rw [hx] at hr; simp at hr
      | some r0 =>
        rw [hx] at hr
        cases r0 with
        | lim =>
          obtain rfl : r = .lim := by simpa using hr.symm
          have hE := HX.out.lim hx hat htl1
          clear hr hx
          go_enter Tryz.func258, Tryz.ntmps258
          go_wp2_with fail
          refine hN.mono ?_; rintro e w1 ⟨rfl, rfl⟩
          go_wp2_with fail
          refine hE.mono ?_; rintro e w2 ⟨rfl, hp⟩
          exact ⟨rfl, hp0.trans hp, rfl⟩
        | ok v t2 =>
          simp only at hr
          have hE := HX.out.ok hx hat htl1
          cases ht2 : trim t2 with
          | nil => rw [ht2] at hr; simp at hr
          | cons c3 t3 =>
            rw [ht2] at hr
            obtain rfl : r = .ok v t3 := by simpa using hr.symm
            have htl2 := trim_len t2
            rw [ht2] at htl2
            simp only [List.length_cons] at htl2
            clear hr hx
            go_enter Tryz.func258, Tryz.ntmps258
            go_wp2_with fail
            refine hN.mono ?_; rintro e w1 ⟨rfl, rfl⟩
            go_wp2_with fail
            refine hE.mono ?_; rintro e w2 ⟨rfl, hp, hat2, hvl, htl3⟩
            have hN2 := next_any b t2 w2 hat2 c3 t3 ht2
            have hat3 := hat2.put t3
            have hp3 := (hp0.trans hp).trans (Par.put b w2 t3)
            clear hat2 hp ht2
            go_wp2_with fail
            refine hN2.mono ?_; rintro e w3 ⟨rfl, rfl⟩
            go_wp2
            go_ret
            exact ⟨hp3, rfl, hat3, hvl, by omega⟩
    rw [if_neg h2] at hr
    have e2 := u8_ne c 40 40 rfl h2
    by_cases h3 : c = 91
    · rw [if_pos h3] at hr
      subst h3
      clear e1 h1 e2 h2
      cases hx : exprF f t with
      | none => rw [hx] at hr; simp at hr
      | some r0 =>
        rw [hx] at hr
        cases r0 with
        | lim =>
          obtain rfl : r = .lim := by simpa using hr.symm
          have hE := HX.out.lim hx hat htl1
          clear hr hx
          go_enter Tryz.func258, Tryz.ntmps258
          go_wp2_with fail
          refine hN.mono ?_; rintro e w1 ⟨rfl, rfl⟩
          go_wp2_with fail
          refine hE.mono ?_; rintro e w2 ⟨rfl, hp⟩
          exact ⟨rfl, hp0.trans hp, rfl⟩
        | ok u t2 =>
          simp only at hr
          have hE := HX.out.ok hx hat htl1
          cases ht2 : trim t2 with
          | nil => rw [ht2] at hr; simp at hr
          | cons c3 t3 =>
            rw [ht2] at hr
            simp only at hr
            have htl2 := trim_len t2
            rw [ht2] at htl2
            simp only [List.length_cons] at htl2
            cases hx2 : exprF f t3 with
            | none => rw [hx2] at hr; simp at hr
            | some r1 =>
              rw [hx2] at hr
              go_enter Tryz.func258, Tryz.ntmps258
              go_wp2_with fail
              refine hN.mono ?_; rintro e w1 ⟨rfl, rfl⟩
              go_wp2_with fail
              refine hE.mono ?_; rintro e w2 ⟨rfl, hp, hat2, hul, htl3⟩
              have hN2 := next_any b t2 w2 hat2 c3 t3 ht2
              have hat3 := hat2.put t3
              have hp3 := (hp0.trans hp).trans (Par.put b w2 t3)
              clear hat2 hp ht2 hx hE hN
              go_wp2_with fail
              refine hN2.mono ?_; rintro e w3 ⟨rfl, rfl⟩
              cases r1 with
              | lim =>
                obtain rfl : r = .lim := by simpa using hr.symm
                have hE2 := HX.out.lim hx2 hat3 (by omega)
                clear hr hx2
                go_wp2_with fail
                refine hE2.mono ?_; rintro e w4 ⟨rfl, hp⟩
                exact ⟨rfl, hp3.trans hp, rfl⟩
              | ok v t4 =>
                simp only at hr
                have hE2 := HX.out.ok hx2 hat3 (by omega)
                cases ht4 : trim t4 with
                | nil => rw [ht4] at hr; simp at hr
                | cons c5 t5 =>
                  rw [ht4] at hr
                  simp only [Option.some.injEq] at hr
                  have htl4 := trim_len t4
                  rw [ht4] at htl4
                  simp only [List.length_cons] at htl4
                  clear hx2
                  go_wp2_with fail
                  refine hE2.mono ?_; rintro e w4 ⟨rfl, hp, hat4, hvl, htl5⟩
                  have hN3 := next_any b t4 w4 hat4 c5 t5 ht4
                  have hat5 := hat4.put t5
                  have hp5 := (hp3.trans hp).trans (Par.put b w4 t5)
                  clear hat4 hp ht4 hE2
                  go_wp2_with fail
                  refine hN3.mono ?_; rintro e w5 ⟨rfl, rfl⟩
                  by_cases hfit : 2 * (u.length + v.length) ≤ 100000
                  · have hr2 : r = .ok (commW u v) t5 := by rw [← hr]; simp only [fitF]; rw [if_pos (by omega)]
                    have hcl : (commW u v).length ≤ 100000 := by
                      have a1 := ap_len u v
                      have a2 := ap_len (ap u v) (invW u)
                      have a3 := ap_len (ap (ap u v) (invW u)) (invW v)
                      rw [invW_len] at a2 a3
                      unfold commW
                      omega
                    have hC := fun w => comm_yes u v w hfit
                    have HC := Lib.hid hC
                    subst hr2
                    clear hr hC
                    go_wp2_with fail
                    refine (HC.out _).mono ?_; rintro e w6 ⟨rfl, hb6⟩
                    go_wp2
                    go_ret
                    exact ⟨hp5.trans (Par.of hb6), rfl, hat5.on hb6, hcl, by omega⟩
                  · have hr2 : r = .lim := by rw [← hr]; simp only [fitF]; rw [if_neg (by omega)]
                    have hC := fun w => comm_no u v w (by omega) hul hvl
                    have HC := Lib.hid hC
                    subst hr2
                    clear hr hC
                    go_wp2_with fail
                    refine (HC.out _).mono ?_; rintro e w6 ⟨rfl, rfl⟩
                    exact ⟨rfl, hp5, rfl⟩
    rw [if_neg h3] at hr
    have e3 := u8_ne c 91 91 rfl h3
    by_cases h4 : c.toNat < 128
    · rw [if_pos h4] at hr
      obtain rfl : r = .ok [c] t := by simpa using hr.symm
      have henc := encode_byte c h4
      have hconv : ∀ w, (convert 5 9 (.int .u8 (c.toNat : Int))).run Tryz.prog w = .ok (.string ⟨#[c]⟩) w := fun w => by
        rw [run_convert_int_string w 5 9 .u8 _ (by rw [Tryz.underlying5]; rfl) Tryz.underlying9, henc]
      clear hr h1 h2 h3 henc
      go_enter Tryz.func258, Tryz.ntmps258
      go_wp2_with (go_at_call 240; refine hN.mono ?_; rintro e w1 ⟨rfl, rfl⟩)
      go_ret
      exact ⟨hp0, rfl, hat, by simp, htl1⟩
    · rw [if_neg h4] at hr
      cases hr
end Go.Proofs.YteephomlnbbjeaaGreatDoor

namespace Go.Proofs.YteephomlnbbjeaaGreatDoor
open Go Go.RowKit

/-- What is left is less. -/
theorem fit_ok {n : Int} {v t v' t' : List UInt8} (h : fitF n (.ok v t) = .ok v' t') : v' = v ∧ t' = t := by
  unfold fitF at h; split at h
  · cases h; exact ⟨rfl, rfl⟩
  · cases h
theorem pow_ok {w t v' t' : List UInt8} (h : powF w t = .ok v' t') : t'.length ≤ t.length := by
  obtain ⟨_, rfl⟩ := fit_ok h
  exact Nat.le_trans (exR_len _) (exRest_len _)

theorem shrinks : ∀ f, (∀ t v t2, baseF f t = some (.ok v t2) → t2.length < t.length) ∧ (∀ t v t2, factorF f t = some (.ok v t2) → t2.length < t.length) ∧
    (∀ t v t2, exprF f t = some (.ok v t2) → t2.length < t.length) ∧ (∀ p n t v t2, loopF f p n t = some (.ok v t2) → t2.length ≤ t.length) := by
  intro f
  induction f with
  | zero => refine ⟨?_, ?_, ?_, ?_⟩ <;> intros <;> simp_all [baseF, factorF, exprF, loopF]
  | succ f ih =>
    obtain ⟨iB, iF, iE, iL⟩ := ih
    refine ⟨?_, ?_, ?_, ?_⟩
    · intro t v t2 h
      unfold baseF at h
      have ht := trim_len t
      cases hc : trim t with
      | nil => rw [hc] at h; simp at h
      | cons c t1 =>
        rw [hc] at h ht
        simp only [List.length_cons] at ht h
        split at h
        · cases h; omega
        split at h
        · split at h
          · rename_i v0 t0 he
            have := iE _ _ _ he
            have h3 := trim_len t0
            split at h
            · rename_i c3 t3 h4
              cases h
              rw [h4] at h3; simp at h3; omega
            · cases h
          · have := iE _ _ _ h; omega
        split at h
        · split at h
          · rename_i v0 t0 he
            have := iE _ _ _ he
            have h3 := trim_len t0
            split at h
            · rename_i c3 t3 h4
              rw [h4] at h3; simp at h3
              split at h
              · rename_i v5 t5 he5
                have := iE _ _ _ he5
                have h6 := trim_len t5
                split at h
                · rename_i c7 t7 h7
                  rw [h7] at h6; simp at h6
                  simp only [Option.some.injEq] at h
                  obtain ⟨_, rfl⟩ := fit_ok h
                  omega
                · cases h
              · have := iE _ _ _ h; omega
            · cases h
          · have := iE _ _ _ h; omega
        split at h
        · cases h; omega
        · cases h
    · intro t v t2 h
      unfold factorF at h
      split at h
      · rename_i v0 t0 he
        have := iB _ _ _ he
        have h3 := trim_len t0
        split at h
        · rename_i c t3 h4
          rw [h4] at h3; simp at h3
          split at h
          · simp only [Option.some.injEq] at h
            have := pow_ok h
            omega
          · cases h; simp; omega
        · cases h; simp; omega
      · have := iB _ _ _ h; omega
    · intro t v t2 h
      unfold exprF at h
      split at h
      · rename_i v0 t0 he
        have := iF _ _ _ he
        have h3 := trim_len t0
        split at h
        · cases h; omega
        · have := iL _ _ _ _ _ h; omega
      · have := iF _ _ _ h; omega
    · intro p n t v t2 h
      unfold loopF at h
      have h3 := trim_len t
      split at h
      · cases h; omega
      split at h
      · rename_i v0 t0 he
        have := iF _ _ _ he
        split at h
        · have := iL _ _ _ _ _ h; omega
        · cases h
      · have := iF _ _ _ h; omega
end Go.Proofs.YteephomlnbbjeaaGreatDoor

namespace Go.Proofs.YteephomlnbbjeaaGreatDoor
open Go Go.RowKit

/-- What a factor's call owes, at fuel f. -/
def FactorAt (f b : Nat) : Prop := ∀ text r w, factorF f text = some r → AtT w b text → text.length ≤ 1000000 → Calls Tryz.prog 242 #[.pointer (some ⟨b, 0, none⟩)] w (ParPost w b r)

theorem FactorAt.lim {f b : Nat} (h : FactorAt f b) {text : List UInt8} {w : World} (hr : factorF f text = some .lim) (hat : AtT w b text) (hl : text.length ≤ 1000000) :
    Calls Tryz.prog 242 #[.pointer (some ⟨b, 0, none⟩)] w fun e w' => e = .panicked (leaves 2) ∧ Par b w w' := (h text _ w hr hat hl).mono fun _ _ h => ⟨h.2, h.1⟩
theorem FactorAt.ok {f b : Nat} (h : FactorAt f b) {text v t : List UInt8} {w : World} (hr : factorF f text = some (.ok v t)) (hat : AtT w b text) (hl : text.length ≤ 1000000) :
    Calls Tryz.prog 242 #[.pointer (some ⟨b, 0, none⟩)] w fun e w' => e = .returned (.string ⟨v.toArray⟩) ∧ Par b w w' ∧ AtT w' b t ∧ v.length ≤ 100000 ∧ t.length ≤ 1000000 := (h text _ w hr hat hl).mono fun _ _ h => ⟨h.2.1, h.1, h.2.2⟩

/-- The length of the text that is left. -/
def textN (w : World) (b : Nat) : Nat := match w.cell? ⟨b, 0, none⟩ with | some (.string s) => s.size | _ => 0
theorem AtT.textN {w : World} {b : Nat} {l : List UInt8} (h : AtT w b l) : textN w b = l.length := by
  unfold Go.Proofs.YteephomlnbbjeaaGreatDoor.textN; rw [h.1]; exact size_mk l

theorem ownT.len {w : World} {B n : Nat} {v : Value} {l : List UInt8} (h : ownT w B v n l) : n = l.length := h.1.symm

set_option maxHeartbeats 2000000 in
set_option maxRecDepth 100000 in
theorem expr_of (f b : Nat) (hF : ∀ g, g ≤ f → FactorAt g b) (text : List UInt8) (r : Res) (w : World) (hr : exprF (f + 1) text = some r) (h : AtT w b text) (hl : text.length ≤ 1000000) :
    Calls Tryz.prog 210 #[.pointer (some ⟨b, 0, none⟩)] w (ParPost w b r) := by
  have HF := Lib.hid hF
  clear hF
  unfold exprF at hr
  cases hx : factorF f text with
  | none => rw [hx] at hr; simp at hr
  | some r0 =>
    rw [hx] at hr
    cases r0 with
    | lim =>
      obtain rfl : r = .lim := by simpa using hr.symm
      have hE := (HF.out f (Nat.le_refl _)).lim hx h hl
      clear hr hx h
      go_enter Tryz.func210, Tryz.ntmps210
      go_wp2_with fail
      refine hE.mono ?_; rintro e w2 ⟨rfl, hp⟩
      exact ⟨rfl, hp, rfl⟩
    | ok v t =>
      simp only at hr
      have hE := (HF.out f (Nat.le_refl _)).ok hx h hl
      have hlt := (shrinks f).2.1 _ _ _ hx
      clear hx h
      go_enter Tryz.func210, Tryz.ntmps210
      go_wp2_with fail
      refine hE.mono ?_; rintro e w2 ⟨rfl, hp, hat, hvl, htl⟩
      have hA := atEnd_any b t w2 hat
      have hat2 := hat.put (trim t)
      have hp2 := hp.trans (Par.put b w2 (trim t))
      have htt := trim_len t
      clear hE hat hp
      generalize hw3 : putT w2 b (trim t) = w3 at *
      clear hw3
      by_cases he : endF t = true
      · rw [if_pos he] at hr
        obtain rfl : r = .ok v (trim t) := by simpa using hr.symm
        rw [he] at hA
        clear hr he
        go_wp2_with fail
        refine hA.mono ?_; rintro e w3 ⟨rfl, rfl⟩
        go_wp2
        go_ret
        exact ⟨hp2, rfl, hat2, hvl, by omega⟩
      · rw [if_neg he] at hr
        simp only [Bool.not_eq_true] at he
        rw [he] at hA
        clear he
        obtain ⟨w4, hconv, hown, hb⟩ := bytes_T w3 v
        have HOWN := Lib.hid (hown (by omega))
        have HB := Lib.hid hb
        have hat4 := hat2.on hb
        have hp4 := hp2.trans (Par.of hb)
        have HAT := Lib.hid hat4
        have HP := Lib.hid hp4
        have HR := Lib.hid hr
        have hbB := hat2.lt
        have hp2sz := hp2.size
        have HBS := Lib.hid hb.size
        clear hown hb hat4 hp4 hr hat2 hp2
        go_wp2_with fail
        refine hA.mono ?_; rintro e w3 ⟨rfl, rfl⟩
        go_wp2_with fail
        have hB3 := HB.out.size
        have hwB := hp2sz
        generalize hBB : w3.heap.size = B at *
        clear hconv hA hBB
        go_loopw [4, 5] (fun a c wr => ∃ (A : Option Addr) (n cap total g : Nat) (p t' : List UInt8), a = .slice A n cap ∧ c = .int .i64 (total : Int) ∧ ownT wr B a n p ∧ AtT wr b t' ∧ Par b w wr ∧ B ≤ wr.heap.size ∧
            loopF g p total t' = some r ∧ g ≤ f ∧ p.length ≤ total ∧ total ≤ 100000 ∧ t'.length ≤ 1000000)
          (fun _ _ wr => textN wr b)
        case atStart => exact ⟨_, _, _, _, f, v, trim t, rfl, rfl, HOWN.out, HAT.out, HP.out, HBS.out, HR.out, Nat.le_refl _, Nat.le_refl _, hvl, by omega⟩
        case round =>
          obtain ⟨A, n, cap, total, g, p, t', rfl, rfl, hown, hat, hp, hBw, hr, hg, hpt, htot, htl'⟩ := hrel
          clear HOWN HAT HP HBS HR HB
          cases g with
          | zero => simp [loopF] at hr
          | succ g =>
            unfold loopF at hr
            have htn := hat.textN
            have hA := atEnd_any b t' wr hat
            have hat2 := hat.put (trim t')
            have hp2 := hp.trans (Par.put b wr (trim t'))
            have hown2 := hown.par hbB (Par.put b wr (trim t'))
            have hB2 : B ≤ (putT wr b (trim t')).heap.size := by simp [World.setCell]; exact hBw
            have htt := trim_len t'
            clear hat hp hown
            generalize hw3 : putT wr b (trim t') = w5 at *
            clear hw3
            by_cases he : endF t' = true
            · rw [if_pos he] at hr
              obtain rfl : r = .ok p (trim t') := by simpa using hr.symm
              rw [he] at hA
              have hrun := run_string_T w5 B A n cap p hown2
              clear hr he hown2
              go_wp2_with (go_at_call 243; refine hA.mono ?_; rintro e w5 ⟨rfl, rfl⟩)
              go_ret
              exact ⟨hp2, rfl, hat2, by omega, by omega⟩
            · rw [if_neg he] at hr
              simp only [Bool.not_eq_true] at he
              rw [he] at hA
              clear he
              cases hx : factorF g (trim t') with
              | none => rw [hx] at hr; simp at hr
              | some r1 =>
                rw [hx] at hr
                cases r1 with
                | lim =>
                  obtain rfl : r = .lim := by simpa using hr.symm
                  have hE := (HF.out g (by omega)).lim hx hat2 (by omega)
                  clear hr hx
                  go_wp2_with fail
                  refine hA.mono ?_; rintro e w5 ⟨rfl, rfl⟩
                  go_wp2_with fail
                  refine hE.mono ?_; rintro e w6 ⟨rfl, hp⟩
                  exact ⟨rfl, hp2.trans hp, rfl⟩
                | ok u t2 =>
                  simp only at hr
                  have hE := (HF.out g (by omega)).ok hx hat2 (by omega)
                  have hlt2 := (shrinks g).2.1 _ _ _ hx
                  clear hx
                  go_wp2_with fail
                  refine hA.mono ?_; rintro e w5 ⟨rfl, rfl⟩
                  go_wp2_with fail
                  refine hE.mono ?_; rintro e w6 ⟨rfl, hp, hat6, hul, htl6⟩
                  have hown6 := hown2.par hbB hp
                  have hp6 := hp2.trans hp
                  have hB6 := Nat.le_trans hB2 hp.size
                  clear hp hE hA hown2 hp2 hB2 hat2
                  by_cases hfit : total + u.length ≤ 100000
                  · rw [if_pos hfit] at hr
                    have hFY := fit_yes ((total : Int) + (u.length : Int)) (by omega) w6
                    have hal := ap_len p u
                    have hR := appendReduced_any B A n cap p u w6 hown6 hB6 (by omega)
                    have htn6 : t2.length < textN wr b := by rw [htn]; omega
                    clear hown6
                    go_wp2_with fail
                    refine hFY.mono ?_; rintro e w6 ⟨rfl, rfl⟩
                    go_wp2_with fail
                    refine hR.mono ?_; rintro e w7 ⟨⟨A', n', cap', rfl, hown7⟩, hb7⟩
                    have hat7 : AtT w7 b t2 := ⟨(hb7.cell (p := ⟨b, 0, none⟩) hbB).trans hat6.1, (hb7.frozen (p := ⟨b, 0, none⟩) hbB).trans hat6.2⟩
                    have hp7 : Par b w w7 := ⟨hb7.os.trans hp6.os, hb7.tape.trans hp6.tape, hb7.output.trans hp6.output, Nat.le_trans hp6.size hb7.size, fun k hk hn => (hb7.block k (by omega)).trans (hp6.block k hk hn)⟩
                    go_wp2
                    go_roundw
                    case rel => exact ⟨A', n', cap', total + u.length, g, ap p u, t2, rfl, by simp, hown7, hat7, hp7, Nat.le_trans hB6 hb7.size, hr, by omega, by omega, hfit, htl6⟩
                    case measure => rw [hat7.textN]; exact htn6
                  · rw [if_neg hfit] at hr
                    obtain rfl : r = .lim := by simpa using hr.symm
                    have hFY := fit_no ((total : Int) + (u.length : Int)) (by omega) w6
                    go_wp2_with fail
                    refine hFY.mono ?_; rintro e w7 ⟨rfl, rfl⟩
                    exact ⟨rfl, hp6, rfl⟩

/-- All three, at every fuel. -/
theorem all_at (b : Nat) : ∀ f, (∀ g, g ≤ f → FactorAt g b) ∧ ExprAt f b ∧ (∀ text r w, baseF f text = some r → AtT w b text → text.length ≤ 1000000 → Calls Tryz.prog 258 #[.pointer (some ⟨b, 0, none⟩)] w (ParPost w b r)) := by
  intro f
  induction f with
  | zero =>
    refine ⟨fun g hg => ?_, ?_, ?_⟩
    · obtain rfl : g = 0 := by omega
      intro text r w hr; simp [factorF] at hr
    · intro text r w hr; simp [exprF] at hr
    · intro text r w hr; simp [baseF] at hr
  | succ f ih =>
    obtain ⟨iF, iE, iB⟩ := ih
    refine ⟨fun g hg => ?_, fun text r w hr h hl => expr_of f b iF text r w hr h hl, fun text r w hr h hl => base_of f b text r w hr h hl iE⟩
    by_cases e : g ≤ f
    · exact iF g e
    · obtain rfl : g = f + 1 := by omega
      intro text r w hr h hl
      exact factor_of f b text r w hr h (fun r0 h0 => iB text r0 w h0 h hl)

theorem expr_any (b f : Nat) (text : List UInt8) (r : Res) (w : World) (hr : exprF f text = some r) (h : AtT w b text) (hl : text.length ≤ 1000000) :
    Calls Tryz.prog 210 #[.pointer (some ⟨b, 0, none⟩)] w (ParPost w b r) := (all_at b f).2.1 text r w hr h hl
end Go.Proofs.YteephomlnbbjeaaGreatDoor
