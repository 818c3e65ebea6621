/-
  Our own text, in the proofs of the laws of package pres (cayleylaw03). Proved here: the parts of the parser that take bytes: more, next, skip, exponent, mustHold, mustFit. Conditions: the arguments lie in memory as the slices say; bounds; the listed tables lie as the program lays them.
-/
import Derived.Test.YteephomlnbbjeaaGreatDoorJo
set_option linter.unusedVariables false
set_option linter.unusedSimpArgs false
set_option linter.unusedSectionVars false
namespace Go.Proofs.YteephomlnbbjeaaGreatDoor
open Go Go.RowKit

/-- The text that is left, at the head of block b. -/
def AtT (w : World) (b : Nat) (l : List UInt8) : Prop := w.cell? ⟨b, 0, none⟩ = some (.string ⟨l.toArray⟩) ∧ w.frozen? ⟨b, 0, none⟩ = false
abbrev putT (w : World) (b : Nat) (l : List UInt8) : World := w.setCell ⟨b, 0, none⟩ (.string ⟨l.toArray⟩)
abbrev trim (l : List UInt8) : List UInt8 := Lib.trimLeftB l 32

theorem putT_putT (w : World) (b : Nat) (v v' : Value) : (w.setCell ⟨b, 0, none⟩ v).setCell ⟨b, 0, none⟩ v' = w.setCell ⟨b, 0, none⟩ v' := by
  simp only [World.setCell]
  congr 1
  apply Array.ext_getElem?
  intro i
  simp only [Array.getElem?_modify]
  split
  · cases h : w.heap[i]? with
    | none => rfl
    | some o => cases o <;> simp
  · rfl

theorem AtT.put {w : World} {b : Nat} {l : List UInt8} (h : AtT w b l) (m : List UInt8) : AtT (putT w b m) b m :=
  ⟨World.cell?_setCell_same' _ _ _ (by rw [h.1]; rfl), by rw [World.frozen?_setCell]; exact h.2⟩

set_option maxHeartbeats 400000 in
theorem more_any (b : Nat) (l : List UInt8) (w : World) (h : AtT w b l) :
    Calls Tryz.prog 238 #[.pointer (some ⟨b, 0, none⟩)] w fun e w' => e = .returned (.bool (!(trim l).isEmpty)) ∧ w' = putT w b (trim l) := by
  obtain ⟨hc, hf⟩ := h
  have hT := Tryz.strings_TrimLeft_one ⟨l.toArray⟩ 32 (by decide) w
  rw [data_mk] at hT
  obtain ⟨t, ht⟩ : ∃ t, trim l = t := ⟨_, rfl⟩
  rw [show Lib.trimLeftB l 32 = t from ht] at hT
  have HT := Lib.hid ht
  clear ht
  go_enter Tryz.func238, Tryz.ntmps238
  go_wp2_with (go_at_call 254; refine hT.mono ?_; rintro e w' ⟨rfl, rfl⟩)
  go_ret
  exact ⟨by rw [HT.out]; rfl, by rw [HT.out]⟩

set_option maxHeartbeats 400000 in
theorem next_any (b : Nat) (l : List UInt8) (w : World) (h : AtT w b l) (c : UInt8) (t : List UInt8) (ht : trim l = c :: t) :
    Calls Tryz.prog 240 #[.pointer (some ⟨b, 0, none⟩)] w fun e w' => e = .returned (.int .u8 c.toNat) ∧ w' = putT w b t := by
  have hM := more_any b l w h
  rw [ht] at hM
  have h1 := h.put (c :: t)
  obtain ⟨hc, hf⟩ := h1
  have hpp := fun v => putT_putT w b (.string ⟨(c :: t).toArray⟩) v
  have hx : (ByteArray.mk (c :: t).toArray).extract 1 (t.length + 1) = ⟨t.toArray⟩ := ba_ext (by simp [ByteArray.data_extract, List.extract_eq_take_drop])
  clear h ht
  go_enter Tryz.func240, Tryz.ntmps240
  go_wp2_with (go_at_call 238; refine hM.mono ?_; rintro e w' ⟨rfl, rfl⟩)
  go_ret
  exact ⟨rfl, rfl⟩

set_option maxHeartbeats 400000 in
theorem skip_no (b : Nat) (l : List UInt8) (w : World) (h : AtT w b l) (x : UInt8) (ht : ∀ t, trim l ≠ x :: t) :
    Calls Tryz.prog 259 #[.pointer (some ⟨b, 0, none⟩), .int .u8 x.toNat] w fun e w' => e = .returned (.bool false) ∧ w' = putT w b (trim l) := by
  have hM := more_any b l w h
  have h1 := h.put (trim l)
  obtain ⟨hc, hf⟩ := h1
  generalize trim l = m at *
  clear h
  cases m with
  | nil =>
    clear ht hc hf
    go_enter Tryz.func259, Tryz.ntmps259
    go_wp2_with (go_at_call 238; refine hM.mono ?_; rintro e w' ⟨rfl, rfl⟩)
    go_ret
    exact ⟨rfl, rfl⟩
  | cons c t =>
    have hne : c ≠ x := fun e => ht t (by rw [e])
    have hb2 : ((c.toNat : Int) == (x.toNat : Int)) = false := by
      rw [beq_eq_false_iff_ne]; intro e; exact hne (UInt8.toNat_inj.1 (by exact_mod_cast e))
    have hb : ((c.toNat : Int) != (x.toNat : Int)) = true := by rw [bne, hb2]; rfl
    have hz : ((ByteArray.mk (c :: t).toArray)[0]'(by simp [ByteArray.size])) = c := rfl
    clear ht hne
    go_enter Tryz.func259, Tryz.ntmps259
    go_wp2_with (go_at_call 238; refine hM.mono ?_; rintro e w' ⟨rfl, rfl⟩)
    go_ret
    exact ⟨rfl, rfl⟩

theorem trim_trim : ∀ l : List UInt8, trim (trim l) = trim l
  | [] => rfl
  | c :: t => by
    unfold trim Lib.trimLeftB
    rw [List.dropWhile_cons]
    split
    · exact trim_trim t
    · rename_i h; rw [List.dropWhile_cons, if_neg h]

theorem trim_of {l t : List UInt8} {x : UInt8} (h : trim l = x :: t) : trim (x :: t) = x :: t := by rw [← h]; exact trim_trim l

theorem trim_ne {x : UInt8} {t : List UInt8} (h : x ≠ 32) : trim (x :: t) = x :: t := by
  unfold trim Lib.trimLeftB
  rw [List.dropWhile_cons, if_neg (by simpa using h)]

set_option maxHeartbeats 400000 in
theorem skip_yes (b : Nat) (l : List UInt8) (w : World) (h : AtT w b l) (x : UInt8) (t : List UInt8) (ht : trim l = x :: t) :
    Calls Tryz.prog 259 #[.pointer (some ⟨b, 0, none⟩), .int .u8 x.toNat] w fun e w' => e = .returned (.bool true) ∧ w' = putT w b t := by
  have hM := more_any b l w h
  rw [ht] at hM
  have h1 := h.put (x :: t)
  have hN := next_any b (x :: t) (putT w b (x :: t)) h1 x t (trim_of ht)
  simp only [putT, putT_putT] at hN
  obtain ⟨hc, hf⟩ := h1
  have hb2 : ((x.toNat : Int) == (x.toNat : Int)) = true := by simp
  have hb : ((x.toNat : Int) != (x.toNat : Int)) = false := by rw [bne, hb2]; rfl
  have hz : ((ByteArray.mk (x :: t).toArray)[0]'(by simp [ByteArray.size])) = x := rfl
  clear h ht
  go_enter Tryz.func259, Tryz.ntmps259
  go_wp2_with (first | (go_at_call 238; refine hM.mono ?_; rintro e w' ⟨rfl, rfl⟩) | (go_at_call 240; refine hN.mono ?_; rintro e w' ⟨rfl, rfl⟩))
  go_ret
  exact ⟨rfl, rfl⟩

def isDig (c : UInt8) : Bool := decide (48 ≤ c.toNat) && decide (c.toNat ≤ 57)

set_option maxHeartbeats 400000 in
theorem isDigit_any (c : UInt8) (w : World) :
    Calls Tryz.prog 262 #[.int .u8 c.toNat] w fun e w' => e = .returned (.bool (isDig c)) ∧ w = w' := by
  by_cases h1 : 48 ≤ (c.toNat : Int)
  · have HR : Hid (isDig c = decide ((c.toNat : Int) ≤ 57)) := Lib.hid (by
      have : 48 ≤ c.toNat := by omega
      have e : (decide ((c.toNat : Int) ≤ 57)) = decide (c.toNat ≤ 57) := by congr 1; simp; omega
      rw [e]; simp [isDig, this])
    go_enter Tryz.func262, Tryz.ntmps262
    go_wp2
    go_ret
    exact ⟨by rw [HR.out]; rfl, rfl⟩
  · have HR : Hid (isDig c = false) := Lib.hid (by
      have : ¬ 48 ≤ c.toNat := by omega
      simp [isDig, this])
    go_enter Tryz.func262, Tryz.ntmps262
    go_wp2
    go_ret
    exact ⟨by rw [HR.out]; rfl, rfl⟩

/-- The panic that leaves the parser. -/
def leaves (n : Int) : List PanicEntry := [{ v := .iface 27 (.int .i64 n), recovered := false }]

set_option maxHeartbeats 400000 in
theorem hold_yes (w : World) :
    Calls Tryz.prog 241 #[.bool true] w fun e w' => e = .returned (.tuple #[]) ∧ w = w' := by
  go_enter Tryz.func241, Tryz.ntmps241
  go_wp2
  go_end0
  exact ⟨rfl, rfl⟩

set_option maxHeartbeats 400000 in
theorem hold_no (w : World) :
    Calls Tryz.prog 241 #[.bool false] w fun e w' => e = .panicked (leaves 4) ∧ w = w' := by
  go_enter Tryz.func241, Tryz.ntmps241
  go_wp2
  exact ⟨rfl, rfl, rfl⟩

set_option maxHeartbeats 400000 in
theorem fit_yes (n : Int) (h : n ≤ 100000) (w : World) :
    Calls Tryz.prog 244 #[.int .i64 n] w fun e w' => e = .returned (.tuple #[]) ∧ w = w' := by
  go_enter Tryz.func244, Tryz.ntmps244
  go_wp2
  go_end0
  exact ⟨rfl, rfl⟩

set_option maxHeartbeats 400000 in
theorem fit_no (n : Int) (h : 100000 < n) (w : World) :
    Calls Tryz.prog 244 #[.int .i64 n] w fun e w' => e = .panicked (leaves 2) ∧ w = w' := by
  go_enter Tryz.func244, Tryz.ntmps244
  go_wp2
  exact ⟨rfl, rfl, rfl⟩

/-- How many digits stand ahead. -/
def digN (l : List UInt8) : Nat := (l.takeWhile isDig).length
def digV (l : List UInt8) : Int := l.foldl (fun n c => 10 * n + ((c.toNat : Int) - 48)) 0
/-- What an exponent reads: behind the sign. -/
def exR (l : List UInt8) : List UInt8 := if digN l < 1 ∨ 6 < digN l then l else l.drop (digN l)
def exV (l : List UInt8) : Int := if digN l < 1 ∨ 6 < digN l then 0 else digV (l.take (digN l))
def exS (neg : Bool) (l : List UInt8) : Int := if neg then -(exV l) else exV l
def exB (l : List UInt8) : Bool := !decide (digN l < 1 ∨ 6 < digN l)

theorem digN_le (l : List UInt8) : digN l ≤ l.length := takeWhile_len_le _ _
theorem digN_get (l : List UInt8) (i : Nat) (h : i < l.length) (h2 : i < digN l) : isDig l[i] = true := takeWhile_get _ _ _ h h2
theorem digN_stop (l : List UInt8) (h : digN l < l.length) : isDig (l[digN l]'h) = false := takeWhile_stop _ _ h

theorem digV_snoc (l : List UInt8) (c : UInt8) : digV (l ++ [c]) = 10 * digV l + ((c.toNat : Int) - 48) := by simp [digV]
theorem digV_bd (l : List UInt8) (h : ∀ c ∈ l, isDig c = true) : 0 ≤ digV l ∧ digV l < 10 ^ l.length := by
  have key : ∀ (l : List UInt8) (a : Int), (∀ c ∈ l, isDig c = true) → 0 ≤ a →
      0 ≤ l.foldl (fun n (c : UInt8) => 10 * n + ((c.toNat : Int) - 48)) a ∧ l.foldl (fun n (c : UInt8) => 10 * n + ((c.toNat : Int) - 48)) a < (a + 1) * 10 ^ l.length := by
    intro l
    induction l with
    | nil => intro a _ ha; simp; omega
    | cons c t ih =>
      intro a hc ha
      have h2 := hc c (by simp)
      simp [isDig] at h2
      have h3 := ih (10 * a + ((c.toNat : Int) - 48)) (fun x hx => hc x (by simp [hx])) (by omega)
      simp only [List.foldl_cons, List.length_cons]
      refine ⟨h3.1, Int.lt_of_lt_of_le h3.2 ?_⟩
      rw [Int.pow_succ, ← Int.mul_assoc, Int.mul_right_comm]
      exact Int.mul_le_mul_of_nonneg_right (by omega) (Int.pow_nonneg (by decide))
  have := key l 0 h (by decide)
  simpa [digV] using this

/-- The text behind the loop over the digits: the walk. -/
theorem idx_lit (l : List UInt8) (k : Nat) (h : k < (ByteArray.mk l.toArray).size) (h2 : k < l.length) : (ByteArray.mk l.toArray)[k] = l[k] := rfl

set_option maxHeartbeats 1000000 in
theorem exponent_any (b : Nat) (l : List UInt8) (w : World) (h : AtT w b l) (neg : Bool) (m : List UInt8) (hm : if neg then trim l = 45 :: m else (trim l = m ∧ ∀ t, m ≠ 45 :: t)) (hlen : m.length ≤ 1000000000) :
    Calls Tryz.prog 257 #[.pointer (some ⟨b, 0, none⟩)] w fun e w' => e = .returned (.tuple #[.int .i64 (exS neg m), .bool (exB m)]) ∧ w' = putT w b (exR m) := by
  have hS : Calls Tryz.prog 259 #[.pointer (some ⟨b, 0, none⟩), .int .u8 45] w fun e w' => e = .returned (.bool neg) ∧ w' = putT w b m := by
    cases neg with
    | true => exact skip_yes b l w h 45 m (by simpa using hm)
    | false =>
      simp only [Bool.false_eq_true, if_false] at hm
      have := skip_no b l w h 45 (by rw [hm.1]; exact hm.2)
      rw [hm.1] at this
      exact this
  have h1 := h.put m
  clear h hm
  go_enter Tryz.func257, Tryz.ntmps257
  go_wp2_with (go_at_call 259; refine hS.mono ?_; rintro e w' ⟨rfl, rfl⟩)
  have hc := h1.1
  have hdn := digN_le m
  obtain ⟨d, hd⟩ : ∃ d, digN m = d := ⟨_, rfl⟩
  rw [hd] at hdn
  go_loop [5] (fun i => ∃ k : Nat, k ≤ d ∧ i = .int .i64 k) (fun i => d - (intOf i).toNat)
  case atStart => exact ⟨0, Nat.zero_le _, rfl⟩
  case round =>
    obtain ⟨k, hk, rfl⟩ := hrel
    by_cases hlt : k < d
    · have hkm : k < m.length := by omega
      have hg := digN_get m k hkm (by omega)
      have hI := isDigit_any m[k] (putT w b m)
      rw [hg] at hI
      have HI := Lib.hid hI
      have hz := idx_lit m k (by simpa [ByteArray.size] using hkm) hkm
      have hd1 : decide (k < m.length) = true := by simpa using hkm
      clear hI hg hS hd
      go_wp2_with (go_at_call 262; refine HI.out.mono ?_; rintro e w' ⟨rfl, rfl⟩)
      go_round
      case rel => exact ⟨k + 1, by omega, by go_num⟩
      case measure => simp [intOf]; omega
    · obtain rfl : k = d := by omega
      have HD := Lib.hid hd
      have hst := digN_stop m
      rw [hd] at hst
      have hgt := digN_get m
      rw [hd] at hgt
      have HST := Lib.hid hst
      have HGT := Lib.hid hgt
      clear hd hst hgt hS
      have fin : ∀ (P : Prop), (¬ (k < 1 ∨ 6 < k) → P) → P ∨ (k < 1 ∨ 6 < k) := fun P h => by
        by_cases hx : k < 1 ∨ 6 < k
        · exact .inr hx
        · exact .inl (h hx)
      clear fin
      by_cases hb0 : k < 1
      · have HR : Hid (exR m = m) := Lib.hid (by unfold exR; rw [HD.out, if_pos (Or.inl hb0)])
        have HV : Hid (exS neg m = 0) := Lib.hid (by unfold exS exV; rw [HD.out, if_pos (Or.inl hb0)]; cases neg <;> rfl)
        have HB : Hid (exB m = false) := Lib.hid (by simp [exB, HD.out, hb0])
        by_cases hkm : k < m.length
        · have hI := isDigit_any m[k] (putT w b m)
          rw [HST.out hkm] at hI
          have HI := Lib.hid hI
          have hz := idx_lit m k (by simpa [ByteArray.size] using hkm) hkm
          have hd1 : decide (k < m.length) = true := by simpa using hkm
          clear hI
          go_wp2_with (go_at_call 262; refine HI.out.mono ?_; rintro e w' ⟨rfl, rfl⟩)
          go_ret2
          exact ⟨by rw [HB.out, HV.out]; rfl, by rw [HR.out]⟩
        · have hd1 : decide (k < m.length) = false := by simpa using hkm
          go_wp2
          go_ret2
          exact ⟨by rw [HB.out, HV.out]; rfl, by rw [HR.out]⟩
      · by_cases hb6 : 6 < k
        · have HR : Hid (exR m = m) := Lib.hid (by unfold exR; rw [HD.out, if_pos (Or.inr hb6)])
          have HV : Hid (exS neg m = 0) := Lib.hid (by unfold exS exV; rw [HD.out, if_pos (Or.inr hb6)]; cases neg <;> rfl)
          have HB : Hid (exB m = false) := Lib.hid (by simp [exB, HD.out, hb6])
          by_cases hkm : k < m.length
          · have hI := isDigit_any m[k] (putT w b m)
            rw [HST.out hkm] at hI
            have HI := Lib.hid hI
            have hz := idx_lit m k (by simpa [ByteArray.size] using hkm) hkm
            have hd1 : decide (k < m.length) = true := by simpa using hkm
            clear hI
            go_wp2_with (go_at_call 262; refine HI.out.mono ?_; rintro e w' ⟨rfl, rfl⟩)
            go_ret2
            exact ⟨by rw [HB.out, HV.out]; rfl, by rw [HR.out]⟩
          · have hd1 : decide (k < m.length) = false := by simpa using hkm
            go_wp2
            go_ret2
            exact ⟨by rw [HB.out, HV.out]; rfl, by rw [HR.out]⟩
        · by_cases hkm : k < m.length
          · have hI := isDigit_any m[k] (putT w b m)
            rw [HST.out hkm] at hI
            have HI := Lib.hid hI
            have hz := idx_lit m k (by simpa [ByteArray.size] using hkm) hkm
            have hd1 : decide (k < m.length) = true := by simpa using hkm
            clear hI
            go_wp2_with (go_at_call 262; refine HI.out.mono ?_; rintro e w' ⟨rfl, rfl⟩)
            go_loopw [2, 33] (fun v i wr => ∃ j : Nat, j ≤ k ∧ i = .int .i64 j ∧ v = .int .i64 (digV (m.take j)) ∧ wr = putT w b (m.drop j)) (fun _ i _ => k - (intOf i).toNat)
            case atStart => exact ⟨0, Nat.zero_le _, rfl, rfl, rfl⟩
            case round =>
              obtain ⟨j, hj, rfl, rfl, hw⟩ := hrel
              have HW := Lib.hid hw
              clear hw
              by_cases hjk : j < k
              · have hjm : j < m.length := by omega
                have hg := HGT.out j hjm hjk
                have hat : AtT wr b (m.drop j) := by rw [HW.out]; have := (h1.put (m.drop j)); simpa only [putT, putT_putT] using this
                have hne : m[j] ≠ 32 := by intro e; rw [e] at hg; exact absurd hg (by decide)
                have hN := next_any b (m.drop j) wr hat m[j] (m.drop (j + 1)) (by rw [List.drop_eq_getElem_cons hjm]; exact trim_ne hne)
                have hpw : putT wr b (m.drop (j + 1)) = putT w b (m.drop (j + 1)) := by rw [HW.out]; simp only [putT, putT_putT]
                rw [hpw] at hN
                have hsn : digV (m.take (j + 1)) = 10 * digV (m.take j) + ((m[j].toNat : Int) - 48) := by rw [List.take_succ_eq_append_getElem hjm, digV_snoc]
                have HSN := Lib.hid hsn
                have hbd := digV_bd (m.take j) (fun c hc => by
                  obtain ⟨i, hi, rfl⟩ := List.mem_iff_getElem.1 hc
                  rw [List.getElem_take]
                  simp at hi
                  exact HGT.out i (by omega) (by omega))
                have hpow : (10 : Int) ^ (m.take j).length ≤ 1000000 := by
                  rw [List.length_take, Nat.min_eq_left (by omega)]
                  have : ∀ j : Nat, j ≤ 6 → (10 : Int) ^ j ≤ 1000000 := by decide
                  exact this j (by omega)
                have hv1 := hbd.1
                have hv2 : digV (m.take j) < 1000000 := by omega
                simp [isDig] at hg
                have hg1 : 48 ≤ (m[j].toNat : Int) := by omega
                have hg2 : (m[j].toNat : Int) ≤ 57 := by omega
                clear hg hat hne hpw hsn hbd hpow
                generalize digV (m.take j) = v at *
                generalize m[j] = c at *
                go_wp2_with (go_at_call 240; refine hN.mono ?_; rintro e w' ⟨rfl, rfl⟩)
                go_roundw
                case rel => exact ⟨j + 1, by omega, by go_num, by rw [HSN.out], rfl⟩
                case measure => simp [intOf]; omega
              · obtain rfl : j = k := by omega
                have hfin : exV m = digV (m.take j) := by unfold exV; rw [HD.out, if_neg (by omega)]
                have hR : exR m = m.drop j := by unfold exR; rw [HD.out, if_neg (by omega)]
                have hB : exB m = true := by unfold exB; rw [HD.out]; simp; omega
                have hbd := digV_bd (m.take j) (fun c hc => by
                  obtain ⟨i, hi, rfl⟩ := List.mem_iff_getElem.1 hc
                  rw [List.getElem_take]
                  simp at hi
                  exact HGT.out i (by omega) (by omega))
                have hpow : (10 : Int) ^ (m.take j).length ≤ 1000000 := by
                  rw [List.length_take, Nat.min_eq_left (by omega)]
                  have : ∀ j : Nat, j ≤ 6 → (10 : Int) ^ j ≤ 1000000 := by decide
                  exact this j (by omega)
                have hv1 := hbd.1
                have hv2 : digV (m.take j) < 1000000 := by omega
                have HF : Hid (exS neg m = if neg then -(digV (m.take j)) else digV (m.take j)) := Lib.hid (by unfold exS; rw [hfin])
                have HRR := Lib.hid hR
                have HBB := Lib.hid hB
                clear hfin hR hB hbd hpow
                generalize digV (m.take j) = v at *
                cases neg with
                | true =>
                  go_wp2
                  go_ret2
                  exact ⟨by rw [HF.out, HBB.out]; rfl, by rw [HRR.out, HW.out]⟩
                | false =>
                  go_wp2
                  go_ret2
                  exact ⟨by rw [HF.out, HBB.out]; rfl, by rw [HRR.out, HW.out]⟩
          · have hd1 : decide (k < m.length) = false := by simpa using hkm
            go_wp2
            go_loopw [2, 33] (fun v i wr => ∃ j : Nat, j ≤ k ∧ i = .int .i64 j ∧ v = .int .i64 (digV (m.take j)) ∧ wr = putT w b (m.drop j)) (fun _ i _ => k - (intOf i).toNat)
            case atStart => exact ⟨0, Nat.zero_le _, rfl, rfl, rfl⟩
            case round =>
              obtain ⟨j, hj, rfl, rfl, hw⟩ := hrel
              have HW := Lib.hid hw
              clear hw
              by_cases hjk : j < k
              · have hjm : j < m.length := by omega
                have hg := HGT.out j hjm hjk
                have hat : AtT wr b (m.drop j) := by rw [HW.out]; have := (h1.put (m.drop j)); simpa only [putT, putT_putT] using this
                have hne : m[j] ≠ 32 := by intro e; rw [e] at hg; exact absurd hg (by decide)
                have hN := next_any b (m.drop j) wr hat m[j] (m.drop (j + 1)) (by rw [List.drop_eq_getElem_cons hjm]; exact trim_ne hne)
                have hpw : putT wr b (m.drop (j + 1)) = putT w b (m.drop (j + 1)) := by rw [HW.out]; simp only [putT, putT_putT]
                rw [hpw] at hN
                have hsn : digV (m.take (j + 1)) = 10 * digV (m.take j) + ((m[j].toNat : Int) - 48) := by rw [List.take_succ_eq_append_getElem hjm, digV_snoc]
                have HSN := Lib.hid hsn
                have hbd := digV_bd (m.take j) (fun c hc => by
                  obtain ⟨i, hi, rfl⟩ := List.mem_iff_getElem.1 hc
                  rw [List.getElem_take]
                  simp at hi
                  exact HGT.out i (by omega) (by omega))
                have hpow : (10 : Int) ^ (m.take j).length ≤ 1000000 := by
                  rw [List.length_take, Nat.min_eq_left (by omega)]
                  have : ∀ j : Nat, j ≤ 6 → (10 : Int) ^ j ≤ 1000000 := by decide
                  exact this j (by omega)
                have hv1 := hbd.1
                have hv2 : digV (m.take j) < 1000000 := by omega
                simp [isDig] at hg
                have hg1 : 48 ≤ (m[j].toNat : Int) := by omega
                have hg2 : (m[j].toNat : Int) ≤ 57 := by omega
                clear hg hat hne hpw hsn hbd hpow
                generalize digV (m.take j) = v at *
                generalize m[j] = c at *
                go_wp2_with (go_at_call 240; refine hN.mono ?_; rintro e w' ⟨rfl, rfl⟩)
                go_roundw
                case rel => exact ⟨j + 1, by omega, by go_num, by rw [HSN.out], rfl⟩
                case measure => simp [intOf]; omega
              · obtain rfl : j = k := by omega
                have hfin : exV m = digV (m.take j) := by unfold exV; rw [HD.out, if_neg (by omega)]
                have hR : exR m = m.drop j := by unfold exR; rw [HD.out, if_neg (by omega)]
                have hB : exB m = true := by unfold exB; rw [HD.out]; simp; omega
                have hbd := digV_bd (m.take j) (fun c hc => by
                  obtain ⟨i, hi, rfl⟩ := List.mem_iff_getElem.1 hc
                  rw [List.getElem_take]
                  simp at hi
                  exact HGT.out i (by omega) (by omega))
                have hpow : (10 : Int) ^ (m.take j).length ≤ 1000000 := by
                  rw [List.length_take, Nat.min_eq_left (by omega)]
                  have : ∀ j : Nat, j ≤ 6 → (10 : Int) ^ j ≤ 1000000 := by decide
                  exact this j (by omega)
                have hv1 := hbd.1
                have hv2 : digV (m.take j) < 1000000 := by omega
                have HF : Hid (exS neg m = if neg then -(digV (m.take j)) else digV (m.take j)) := Lib.hid (by unfold exS; rw [hfin])
                have HRR := Lib.hid hR
                have HBB := Lib.hid hB
                clear hfin hR hB hbd hpow
                generalize digV (m.take j) = v at *
                cases neg with
                | true =>
                  go_wp2
                  go_ret2
                  exact ⟨by rw [HF.out, HBB.out]; rfl, by rw [HRR.out, HW.out]⟩
                | false =>
                  go_wp2
                  go_ret2
                  exact ⟨by rw [HF.out, HBB.out]; rfl, by rw [HRR.out, HW.out]⟩
end Go.Proofs.YteephomlnbbjeaaGreatDoor
