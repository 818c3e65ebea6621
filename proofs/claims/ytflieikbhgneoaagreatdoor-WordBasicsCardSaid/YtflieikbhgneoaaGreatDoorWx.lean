/-
  Our own text, in the proofs of the laws of package word (cayleylaw01). Proved here: a factor of an expression, given its base. Conditions: the arguments read as the row says and the listed tables lie as the program lays them; none other.
-/
import Derived.Test.YtflieikbhgneoaaGreatDoorWw
import Derived.Laws.Runes
namespace Go.Proofs.YtflieikbhgneoaaGreatDoor
open Go Go.RowKit

/-- What the parser's functions come to: a value and the text that is left, or too many letters. -/
inductive Res where
  | ok (v t : List UInt8)
  | lim

def fitF (n : Int) (r : Res) : Res := if n ≤ 100000 then r else .lim
/-- A power of a value. -/
def powF (w t : List UInt8) : Res :=
  let n := exS (exNeg t) (exRest t)
  fitF (max n (-n) * w.length) (.ok (powW (coreW w) (conjW w) n) (exR (exRest t)))

mutual
def baseF : Nat → List UInt8 → Option Res
  | 0, _ => none
  | f + 1, text => match trim text with
    | [] => none
    | c :: t =>
      if c = 49 then some (.ok [] t)
      else if c = 40 then match exprF f t with
        | some (.ok v t2) => match trim t2 with
          | _ :: t3 => some (.ok v t3)
          | [] => none
        | r => r
      else if c = 91 then match exprF f t with
        | some (.ok u t2) => match trim t2 with
          | _ :: t3 => match exprF f t3 with
            | some (.ok v t4) => match trim t4 with
              | _ :: t5 => some (fitF (2 * ((u.length : Int) + v.length)) (.ok (commW u v) t5))
              | [] => none
            | r => r
          | [] => none
        | r => r
      else if c.toNat < 128 then some (.ok [c] t) else none
def factorF : Nat → List UInt8 → Option Res
  | 0, _ => none
  | f + 1, text => match baseF f text with
    | some (.ok w t) => match trim t with
      | c :: t2 => if c = 94 then some (powF w t2) else some (.ok w (c :: t2))
      | [] => some (.ok w [])
    | r => r
def exprF : Nat → List UInt8 → Option Res
  | 0, _ => none
  | f + 1, text => match factorF f text with
    | some (.ok v t) => if endF t = true then some (.ok v (trim t)) else loopF f v v.length (trim t)
    | r => r
def loopF : Nat → List UInt8 → Nat → List UInt8 → Option Res
  | 0, _, _, _ => none
  | f + 1, p, n, t => if endF t = true then some (.ok p (trim t)) else match factorF f (trim t) with
    | some (.ok w t2) => if n + w.length ≤ 100000 then loopF f (ap p w) (n + w.length) t2 else some .lim
    | r => r
end

/-- How they end. -/
def ParPost (w : World) (b : Nat) (r : Res) (e : Ending) (w' : World) : Prop :=
  Par b w w' ∧ match r with
    | .ok v t => e = .returned (.string ⟨v.toArray⟩) ∧ AtT w' b t ∧ v.length ≤ 100000 ∧ t.length ≤ 1000000
    | .lim => e = .panicked (leaves 2)

theorem encode_byte (c : UInt8) (h : c.toNat < 128) : Utf8.encode (c.toNat : Int) = ⟨#[c]⟩ := by
  have hv : Utf8.valid (c.toNat : Int) = true := by
    have : ∀ n : Nat, n < 128 → Utf8.valid (n : Int) = true := by decide
    exact this _ h
  unfold Utf8.encode
  simp [hv, h]

theorem powW_len (C D : List UInt8) (n : Int) (hn : n ≠ 0) : (powW C D n).length ≤ n.natAbs * (2 * D.length + C.length) := by
  unfold powW
  have h1 : 1 ≤ n.natAbs := by omega
  split
  · simp
  · simp only [List.length_append, repeatL_len, invW_len]
    have e : (if n < 0 then invW C else C).length = C.length := by split <;> simp [invW_len]
    rw [e, Nat.mul_add]
    have : 2 * D.length ≤ n.natAbs * (2 * D.length) := Nat.le_mul_of_pos_left _ h1
    omega

theorem exV_bd (m : List UInt8) : 0 ≤ exV m ∧ exV m ≤ 999999 := by
  unfold exV
  split
  · omega
  · rename_i h
    have hb := digV_bd (m.take (digN m)) (fun c hc => by
      obtain ⟨i, hi, rfl⟩ := List.mem_iff_getElem.1 hc
      rw [List.getElem_take]
      simp at hi
      exact digN_get m i (by omega) (by omega))
    have hle := digN_le m
    rw [List.length_take, Nat.min_eq_left hle] at hb
    have : ∀ j : Nat, j ≤ 6 → (10 : Int) ^ j ≤ 1000000 := by decide
    have := this (digN m) (by omega)
    omega
theorem exS_bd (b : Bool) (m : List UInt8) : -999999 ≤ exS b m ∧ exS b m ≤ 999999 := by
  have := exV_bd m; unfold exS; split <;> omega

set_option maxHeartbeats 1000000 in
/-- A factor, behind its base. -/
theorem factor_of (f b : Nat) (text : List UInt8) (r : Res) (w : World) (hr : factorF (f + 1) text = some r) (h : AtT w b text)
    (hbase : ∀ r, baseF f text = some r → Calls Tryz.prog 83 #[.pointer (some ⟨b, 0, none⟩)] w (ParPost w b r)) :
    Calls Tryz.prog 64 #[.pointer (some ⟨b, 0, none⟩)] w (ParPost w b r) := by
  unfold factorF at hr
  cases hb : baseF f text with
  | none => rw [hb] at hr; simp at hr
  | some r0 =>
    have hB := hbase r0 hb
    rw [hb] at hr
    cases r0 with
    | lim =>
      simp only at hr
      obtain rfl : r = .lim := by simpa using hr.symm
      have hB2 : Calls Tryz.prog 83 #[.pointer (some ⟨b, 0, none⟩)] w fun e w' => e = .panicked (leaves 2) ∧ Par b w w' := hB.mono fun e w' h => ⟨h.2, h.1⟩
      clear hr hb hbase hB h
      go_enter Tryz.func64, Tryz.ntmps64
      go_wp2_with (go_at_call 83; refine hB2.mono ?_; rintro e w' ⟨rfl, hp⟩)
      exact ⟨rfl, hp, rfl⟩
    | ok v t =>
      simp only at hr
      have hB2 : Calls Tryz.prog 83 #[.pointer (some ⟨b, 0, none⟩)] w fun e w' => e = .returned (.string ⟨v.toArray⟩) ∧ Par b w w' ∧ AtT w' b t ∧ v.length ≤ 100000 ∧ t.length ≤ 1000000 := hB.mono fun e w' h => ⟨h.2.1, h.1, h.2.2⟩
      have hno : (∀ t2, trim t ≠ 94 :: t2) → r = .ok v (trim t) := by
        intro hne
        cases ht : trim t with
        | nil => rw [ht] at hr; simpa using hr.symm
        | cons c t2 =>
          rw [ht] at hr
          have : c ≠ 94 := fun e => hne t2 (by rw [ht, e])
          simp [this] at hr
          exact hr.symm
      have HB := Lib.hid hB2
      clear hb hbase hB hB2 h
      by_cases hcar : ∃ t2, trim t = 94 :: t2
      · obtain ⟨t2, ht2⟩ := hcar
        rw [ht2] at hr
        simp only [if_true] at hr
        obtain rfl : powF v t2 = r := by simpa using hr
        clear hr hno
        have hes := exS_bd (exNeg t2) (exRest t2)
        have hpf : powF v t2 = fitF (max (exS (exNeg t2) (exRest t2)) (-(exS (exNeg t2) (exRest t2))) * v.length) (.ok (powW (coreW v) (conjW v) (exS (exNeg t2) (exRest t2))) (exR (exRest t2))) := rfl
        go_enter Tryz.func64, Tryz.ntmps64
        go_wp2_with fail
        refine HB.out.mono ?_
        rintro e w1 ⟨rfl, hp, hat, hvl, htl⟩
        have hsk := skip_yes b t w1 hat 94 t2 ht2
        have hat2 := hat.put t2
        have htt := trim_len t
        rw [ht2] at htt
        simp only [List.length_cons] at htt
        have hX := exponent_any b t2 (putT w1 b t2) hat2 (exNeg t2) (exRest t2) (exNeg_spec t2) (Nat.le_trans (exRest_len _) (by omega))
        have hpp : putT (putT w1 b t2) b (exR (exRest t2)) = putT w1 b (exR (exRest t2)) := by simp only [putT, putT_putT]
        rw [hpp] at hX
        have hat3 := hat.put (exR (exRest t2))
        have hp3 := hp.trans (Par.put b w1 (exR (exRest t2)))
        have hl3 := exR_len (exRest t2)
        have hl4 := exRest_len t2
        have hl5 : (exR (exRest t2)).length ≤ 1000000 := by omega
        generalize exR (exRest t2) = R at *
        generalize hev : exS (exNeg t2) (exRest t2) = ev at *
        generalize exB (exRest t2) = eb at *
        generalize hw2 : putT w1 b t2 = w2 at *
        generalize hw3 : putT w1 b R = w3 at *
        obtain ⟨M, hM⟩ : ∃ M : Int, max ev (-ev) * (v.length : Int) = M := ⟨_, rfl⟩
        have hM0 : 0 ≤ M := by rw [← hM]; exact Int.mul_nonneg (by omega) (by omega)
        have hM1 : M ≤ 999999 * 100000 := by rw [← hM]; exact Int.mul_le_mul (by omega) (by omega) (by omega) (by decide)
        have hna : max ev (-ev) = (ev.natAbs : Int) := by omega
        have hMn : ((ev.natAbs * v.length : Nat) : Int) = M := by rw [← hM, hna]; simp
        rw [hM] at hpf
        have HSP := fun w => split_any ⟨v.toArray⟩ w (by rw [size_mk]; unfold maxLen; omega)
        simp only [data_mk] at HSP
        have hcc := conj_core_len v
        clear hat hat2 hev hw2 hw3 htt ht2 hl3 hl4 hpp hp
        by_cases hfit : M ≤ 100000
        · have hF := fit_yes M hfit w3
          have hpf2 : powF v t2 = .ok (powW (coreW v) (conjW v) ev) R := by rw [hpf]; simp [fitF, hfit]
          have hP := fun w => power_any ⟨(coreW v).toArray⟩ ⟨(conjW v).toArray⟩ ev w (by rw [size_mk]; omega) (by rw [size_mk]; omega) (by omega)
          simp only [data_mk] at hP
          have hpl : (powW (coreW v) (conjW v) ev).length ≤ 100000 := by
            by_cases h0 : ev = 0
            · rw [h0]; simp [powW]
            · have := powW_len (coreW v) (conjW v) ev h0
              rw [hcc] at this
              omega
          have HP := Lib.hid hP
          have HPF := Lib.hid hpf2
          have HS2 := Lib.hid HSP
          generalize coreW v = C at *
          generalize conjW v = D at *
          generalize powW C D ev = X at *
          clear hP hpf hpf2 HSP hcc hna hMn
          go_wp2_with fail
          refine hsk.mono ?_; rintro e w2 ⟨rfl, rfl⟩
          go_wp2_with fail
          refine hX.mono ?_; rintro e w3 ⟨rfl, rfl⟩
          go_wp2_with fail
          refine hF.mono ?_; rintro e w' ⟨rfl, rfl⟩
          go_wp2_with fail
          refine (HS2.out _).mono ?_; rintro e w5 ⟨rfl, n5, hw5⟩
          have B5 := below_drawn hw5 w3.heap.size
          clear hw5
          go_wp2_with fail
          refine (HP.out _).mono ?_; rintro e w6 ⟨rfl, hb6⟩
          go_wp2
          go_ret
          have hb := B5.trans (hb6.mono B5.size)
          rw [HPF.out]
          exact ⟨hp3.trans (Par.of hb), rfl, hat3.on hb, hpl, hl5⟩
        · have hF := fit_no M (by omega) w3
          have hpf2 : powF v t2 = .lim := by rw [hpf]; simp [fitF, hfit]
          have HPF := Lib.hid hpf2
          clear hpf hpf2 HSP hcc hna hMn
          go_wp2_with fail
          refine hsk.mono ?_; rintro e w2 ⟨rfl, rfl⟩
          go_wp2_with fail
          refine hX.mono ?_; rintro e w3 ⟨rfl, rfl⟩
          go_wp2_with fail
          refine hF.mono ?_; rintro e w' ⟨rfl, rfl⟩
          rw [HPF.out]
          exact ⟨rfl, hp3, rfl⟩
      · have hr2 := hno (fun t2 e => hcar ⟨t2, e⟩)
        subst hr2
        clear hr hno
        go_enter Tryz.func64, Tryz.ntmps64
        go_wp2_with fail
        refine HB.out.mono ?_
        rintro e w1 ⟨rfl, hp, hat, hvl, htl⟩
        have hsk := skip_no b t w1 hat 94 (fun t2 e => hcar ⟨t2, e⟩)
        have hat2 := hat.put (trim t)
        have hp2 := hp.trans (Par.put b w1 (trim t))
        have htl2 := trim_len t
        clear hcar hat hp
        go_wp2_with (go_at_call 84; refine hsk.mono ?_; rintro e w' ⟨rfl, rfl⟩)
        go_ret
        exact ⟨hp2, rfl, hat2, hvl, by omega⟩
end Go.Proofs.YtflieikbhgneoaaGreatDoor
