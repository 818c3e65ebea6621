/-
  Our own text, in the proofs of the laws of package word (cayleylaw01). Proved here: WordBack returns true at every string and any two numbers: powers and roots, exponents, texts and their values, and the law's walk (the texts Lo to Lu in one). Conditions: the string's length is one that a string can have; none other.
-/
import Derived.Test.YtflieikbhgneoaaDoorLk
import Derived.Test.YtflieikbhgneoaaDoorXc
import Derived.Test.YtflieikbhgneoaaDoorXg
namespace Go.Proofs.YtflieikbhgneoaaDoor
section
open Lib (repeatL repeatL_add repeatL_one repeatL_nil repeatL_take repeatL_length)

/-- A power in the group. -/
def gpow (l : List UInt8) (n : Int) : List UInt8 := repeatL (if n < 0 then invW l else l) n.natAbs
theorem red_rep_congr {a b : List UInt8} (h : red a = red b) : ∀ n, red (repeatL a n) = red (repeatL b n)
  | 0 => rfl
  | n + 1 => red_congr (b := repeatL a n) (b' := repeatL b n) h (red_rep_congr h n)

/-- What stands for a word: conjugator, core, and their letters. -/
theorem parts (l : List UInt8) (h : coreW (red l) ≠ []) : ∃ y x, Fst (coreW (red l)) y ∧ Lst (coreW (red l)) x ∧ y ≠ invc x ∧ Redd (conjW (red l)) ∧ Redd (coreW (red l)) ∧
    (∀ d, Lst (conjW (red l)) d → d ≠ invc y ∧ x ≠ d) ∧ conjW (red l) ++ coreW (red l) ++ invW (conjW (red l)) = red l := by
  have es := split_eq _ (red l) (Nat.le_refl _)
  have hR : Redd (conjW (red l) ++ coreW (red l) ++ invW (conjW (red l))) := by rw [es]; exact redd_red l
  obtain ⟨y, hy⟩ := fst_ex h
  obtain ⟨x, hx⟩ := lst_ex h
  exact ⟨y, x, hy, hx, cyc_ends (core_cyc _ (red l) (Nat.le_refl _)) hy hx, hR.prefixL.prefixL, hR.prefixL.suffix, fun d hd => wrap_ends hR hy hx hd, es⟩

theorem pow_red (l : List UInt8) (n : Int) : powW (coreW (red l)) (conjW (red l)) n = red (gpow l n) := by
  by_cases h0 : n = 0
  · subst h0; simp [powW, gpow, repeatL]; rfl
  by_cases hk : coreW (red l) = []
  · have hl := core_nil.1 hk
    have e : powW (coreW (red l)) (conjW (red l)) n = [] := by unfold powW; rw [if_pos (.inr hk)]
    rw [e]
    unfold gpow
    split
    · have hi : red (invW l) = red [] := by rw [← red_invW_red, hl]; rfl
      rw [red_rep_congr hi, repeatL_nil]; rfl
    · rw [red_rep_congr (b := []) hl, repeatL_nil]; rfl
  · obtain ⟨y, x, hy, hx, hyx, hD, hK, hd, es⟩ := parts l hk
    have hn1 : 1 ≤ n.natAbs := by omega
    have e : powW (coreW (red l)) (conjW (red l)) n = conjW (red l) ++ repeatL (if n < 0 then invW (coreW (red l)) else coreW (red l)) n.natAbs ++ invW (conjW (red l)) := by
      unfold powW; rw [if_neg (by simp [h0, hk])]
    rw [e]
    unfold gpow
    by_cases hn : n < 0
    · rw [if_pos hn, if_pos hn]
      have hyx2 : invc x ≠ invc (invc y) := by rw [invc_invc]; exact fun e => hyx e.symm
      have hR := redd_wrap hD (redd_rep (redd_inv hK) hx.inv hy.inv hyx2 n.natAbs) (hx.inv.rep _ hn1) (hy.inv.rep _ hn1) (fun d hd' => by
        have := hd d hd'
        rw [invc_invc]; exact ⟨fun e => this.2 e.symm, fun e => this.1 e.symm⟩)
      rw [← red_self hR, ← rep_conj]
      refine red_rep_congr ?_ _
      have : conjW (red l) ++ invW (coreW (red l)) ++ invW (conjW (red l)) = invW (red l) := by
        conv => rhs; rw [← es]
        rw [invW_app, invW_app, invW_invW, List.append_assoc]
      rw [this, red_invW_red]
    · rw [if_neg hn, if_neg hn]
      have hR := redd_wrap hD (redd_rep hK hy hx hyx n.natAbs) (hy.rep _ hn1) (hx.rep _ hn1) hd
      rw [← red_self hR, ← rep_conj, es]
      exact red_rep_congr (red_red l) _

theorem rep_cancel (l : List UInt8) (a b : Nat) : red (repeatL l a ++ repeatL (invW l) b) = red (gpow l ((a : Int) - b)) := by
  unfold gpow
  by_cases h : b ≤ a
  · have hn : ¬ ((a : Int) - b < 0) := by omega
    have e : ((a : Int) - b).natAbs = a - b := by omega
    rw [if_neg hn, e]
    have ha : repeatL l a = repeatL l (a - b) ++ repeatL l b := by rw [← repeatL_add, Nat.sub_add_cancel h]
    rw [ha, ← invW_rep]
    have := red_cut (repeatL l (a - b)) [] (repeatL l b)
    simpa using this
  · have hn : (a : Int) - b < 0 := by omega
    have e : ((a : Int) - b).natAbs = b - a := by omega
    rw [if_pos hn, e]
    have hb : repeatL (invW l) b = repeatL (invW l) a ++ repeatL (invW l) (b - a) := by rw [← repeatL_add]; congr 1; omega
    rw [hb, ← invW_rep l a]
    have := red_cut [] (repeatL (invW l) (b - a)) (repeatL l a)
    simpa using this
theorem gpow_neg (l : List UInt8) (n : Int) : gpow (invW l) (-n) = gpow l n := by
  unfold gpow
  rw [Int.natAbs_neg]
  by_cases h : n < 0
  · rw [if_pos h, if_neg (by omega)]
  · by_cases h0 : n = 0
    · subst h0; rfl
    · rw [if_neg h, if_pos (by omega), invW_invW]

/-- POWERS ADD UP. -/
theorem gpow_add (l : List UInt8) (m n : Int) : red (gpow l m ++ gpow l n) = red (gpow l (m + n)) := by
  have pos : ∀ l : List UInt8, ∀ m n : Int, 0 ≤ m → red (gpow l m ++ gpow l n) = red (gpow l (m + n)) := by
    intro l m n hm
    have em : gpow l m = repeatL l m.toNat := by unfold gpow; rw [if_neg (by omega)]; congr 1; omega
    by_cases hn : n < 0
    · have en : gpow l n = repeatL (invW l) (-n).toNat := by unfold gpow; rw [if_pos hn]; congr 1; omega
      rw [em, en, rep_cancel]
      congr 2; omega
    · have en : gpow l n = repeatL l n.toNat := by unfold gpow; rw [if_neg hn]; congr 1; omega
      have e : gpow l (m + n) = repeatL l (m.toNat + n.toNat) := by unfold gpow; rw [if_neg (by omega)]; congr 1; omega
      rw [em, en, e, repeatL_add]
  by_cases hm : 0 ≤ m
  · exact pos l m n hm
  · rw [← gpow_neg l m, ← gpow_neg l n, ← gpow_neg l (m + n), Int.neg_add]
    exact pos (invW l) (-m) (-n) (by omega)

theorem pow_add (l : List UInt8) (m n : Int) : red (powW (coreW (red l)) (conjW (red l)) m ++ powW (coreW (red l)) (conjW (red l)) n) = powW (coreW (red l)) (conjW (red l)) (m + n) := by
  rw [pow_red, pow_red, pow_red, red_app_red, red_red_app, gpow_add]

/-- What a root is made of. -/
theorem root_parts (l : List UInt8) (h : coreW (red l) ≠ []) : red (rootW l) = rootW l ∧ coreW (rootW l) = (coreW (red l)).take (perN (coreW (red l))) ∧ conjW (rootW l) = conjW (red l) := by
  obtain ⟨y, x, hy, hx, hyx, hD, hK, hd, es⟩ := parts l h
  obtain ⟨p1, p2, p3⟩ := prim_root h
  have hroot : rootW l = conjW (red l) ++ (coreW (red l)).take (perN (coreW (red l))) ++ invW (conjW (red l)) := by unfold rootW; rw [if_neg h]
  obtain ⟨y', hy'⟩ := fst_ex p1.1
  obtain ⟨x', hx'⟩ := lst_ex p1.1
  have f1 : Fst (coreW (red l)) y' := by rw [p2]; exact hy'.rep _ p3
  have f2 : Lst (coreW (red l)) x' := by rw [p2]; exact hx'.rep _ p3
  obtain rfl := f1.uniq hy
  obtain rfl := f2.uniq hx
  have hRp : Redd ((coreW (red l)).take (perN (coreW (red l)))) := Redd.prefixL (q := (coreW (red l)).drop (perN (coreW (red l)))) (by rw [List.take_append_drop]; exact hK)
  have hW := redd_wrap hD hRp hy' hx' hd
  have hcy := ends_cyc hy' hx' hyx
  rw [hroot]
  exact ⟨red_self hW, by rw [core_wraps, coreW_self hcy], by rw [conj_wraps, conjW_self hcy, List.append_nil]⟩

/-- THE ROOT TO ITS NUMBER IS THE WORD. -/
theorem root_powW (l : List UInt8) (h : coreW (red l) ≠ []) : powW (coreW (red (rootW l))) (conjW (red (rootW l))) (rootN l) = red l := by
  obtain ⟨e1, e2, e3⟩ := root_parts l h
  obtain ⟨p1, p2, p3⟩ := prim_root h
  have hN : rootN l = (coreW (red l)).length / perN (coreW (red l)) := by unfold rootN; rw [if_neg h]
  rw [e1, e2, e3]
  unfold powW
  have hnot : ¬ ((rootN l : Int) = 0 ∨ (coreW (red l)).take (perN (coreW (red l))) = []) := fun q => q.elim (fun q => by omega) p1.1
  rw [if_neg hnot, if_neg (by omega), Int.natAbs_natCast, hN, ← p2]
  exact split_eq _ _ (Nat.le_refl _)
/-- THE ROOT IS NO POWER. -/
theorem root_root (l : List UInt8) : rootN (rootW l) = if rootW l = [] then 0 else 1 := by
  by_cases h : coreW (red l) = []
  · have : rootW l = [] := rootW_nil.2 (core_nil.1 h)
    rw [if_pos this, this]; rfl
  · obtain ⟨e1, e2, e3⟩ := root_parts l h
    obtain ⟨p1, p2, p3⟩ := prim_root h
    have hne : rootW l ≠ [] := fun e => h (core_nil.2 (rootW_nil.1 e))
    rw [if_neg hne]
    unfold rootN
    rw [e1, e2, if_neg p1.1, p1.2]
    exact Nat.div_self (List.length_pos_iff.2 p1.1)
end
end Go.Proofs.YtflieikbhgneoaaDoor

namespace Go.Proofs.YtflieikbhgneoaaDoor
section

theorem apR_run : ∀ r v : List UInt8, Redd r → Redd v → apR r v = (run r v).reverse
  | [], v, _, hv => by
    have := run_self v [] (by rw [List.append_nil]; exact hv.rev)
    rw [this]; simp [apR]
  | x :: r, [], _, _ => by simp [apR, run]
  | x :: r, c :: v, hr, hv => by
    unfold apR
    rw [can_iff]
    by_cases h : x = invc c
    · simp only [h, decide_true, if_true]
      rw [apR_run r v hr.tail hv.tail]
      show (run r v).reverse = (run (stp (invc c :: r) c) v).reverse
      rw [stp_cons, if_pos rfl]
    · rw [if_neg (by simpa using h)]
      show (x :: r).reverse ++ c :: v = (run (stp (x :: r) c) v).reverse
      rw [stp_cons, if_neg h]
      have hj : Redd (v.reverse ++ (c :: x :: r)) := by
        have e : v.reverse ++ (c :: x :: r) = (v.reverse ++ [c]) ++ (x :: r) := by simp
        rw [e]
        have h1 : Redd (v.reverse ++ [c]) := by have := hv.rev; rwa [List.reverse_cons] at this
        exact red_join h1 hr (ne_invc h)
      rw [run_self v _ hj]; simp
theorem ap_red {u v : List UInt8} (hu : Redd u) (hv : Redd v) : ap u v = red (u ++ v) := by
  unfold ap
  rw [apR_run _ _ hu.rev hv]
  show _ = (run [] (u ++ v)).reverse
  rw [run_app, run_self u [] (by rw [List.append_nil]; exact hu.rev), List.append_nil]

/-- What a letter is not. -/
theorem letter_not {c : UInt8} (h : letterB 8 c = true) : c ≠ 49 ∧ c ≠ 40 ∧ c ≠ 91 ∧ c ≠ 32 ∧ c ≠ 41 ∧ c ≠ 44 ∧ c ≠ 93 ∧ c ≠ 94 ∧ c.toNat < 128 := by
  have key : ∀ n : Nat, n < 256 → letterB 8 (UInt8.ofNat n) = true → UInt8.ofNat n ≠ 49 ∧ UInt8.ofNat n ≠ 40 ∧ UInt8.ofNat n ≠ 91 ∧ UInt8.ofNat n ≠ 32 ∧ UInt8.ofNat n ≠ 41 ∧ UInt8.ofNat n ≠ 44 ∧ UInt8.ofNat n ≠ 93 ∧ UInt8.ofNat n ≠ 94 ∧ (UInt8.ofNat n).toNat < 128 := by decide +kernel
  have := key c.toNat c.toNat_lt
  simp only [UInt8.ofNat_toNat] at this
  exact this h
theorem trim_letter {c : UInt8} (h : letterB 8 c = true) (t : List UInt8) : trim (c :: t) = c :: t := by
  unfold trim Lib.trimLeftB
  rw [List.dropWhile_cons, if_neg]
  have := (letter_not h).2.2.2.1
  simpa using this
theorem trim_blank (t : List UInt8) : trim (32 :: t) = trim t := by
  unfold trim Lib.trimLeftB
  rw [List.dropWhile_cons, if_pos (by decide)]
theorem base_letter {c : UInt8} (h : letterB 8 c = true) (f : Nat) (t : List UInt8) : baseF (f + 1) (c :: t) = some (.ok [c] t) := by
  obtain ⟨h1, h2, h3, _, _, _, _, _, h4⟩ := letter_not h
  unfold baseF
  rw [trim_letter h]
  simp only
  rw [if_neg h1, if_neg h2, if_neg h3, if_pos h4]
end
end Go.Proofs.YtflieikbhgneoaaDoor

namespace Go.Proofs.YtflieikbhgneoaaDoor
section
open Lib (repeatL repeatL_add repeatL_one repeatL_nil repeatL_length)

theorem dig_of (d : Nat) (h : d < 10) : isDig (UInt8.ofNat (48 + d)) = true ∧ ((UInt8.ofNat (48 + d)).toNat : Int) - 48 = d := by
  have : ∀ d : Nat, d < 10 → isDig (UInt8.ofNat (48 + d)) = true ∧ ((UInt8.ofNat (48 + d)).toNat : Int) - 48 = d := by decide +kernel
  exact this d h
theorem dec_facts : ∀ u : Nat, (∀ c ∈ Lib.decDigits u, isDig c = true) ∧ digV (Lib.decDigits u) = u := by
  intro u
  induction u using Nat.strongRecOn with
  | ind u ih =>
    by_cases h : u < 10
    · rw [Lib.decDigits, dif_pos h]
      have := dig_of u h
      refine ⟨fun c hc => ?_, ?_⟩
      · rw [List.mem_singleton] at hc; subst hc; exact this.1
      · simp only [digV, List.foldl_cons, List.foldl_nil]; rw [this.2]; simp
    · rw [Lib.decDigits, dif_neg h]
      obtain ⟨i1, i2⟩ := ih (u / 10) (Nat.div_lt_self (by omega) (by omega))
      have := dig_of (u % 10) (Nat.mod_lt _ (by omega))
      refine ⟨fun c hc => ?_, ?_⟩
      · rw [List.mem_append] at hc
        rcases hc with hc | hc
        · exact i1 c hc
        · rw [List.mem_singleton] at hc; subst hc; exact this.1
      · rw [digV_snoc, i2, this.2]; omega
theorem dec_len {u : Nat} (h : u < 10000) : 1 ≤ (Lib.decDigits u).length ∧ (Lib.decDigits u).length ≤ 4 := by
  rw [Lib.decDigits_length]
  refine ⟨Lib.nDigits_pos u, ?_⟩
  have step : ∀ u, Lib.nDigits u ≤ Lib.nDigits (u / 10) + 1 := by
    intro u
    by_cases h : u < 10
    · rw [Lib.nDigits_small h]; omega
    · rw [Lib.nDigits_big h]; exact Nat.le_refl _
  have h1 := step u
  have h2 := step (u / 10)
  have h3 := step (u / 10 / 10)
  have h4 : Lib.nDigits (u / 10 / 10 / 10) = 1 := Lib.nDigits_small (by omega)
  omega

/-- What may stand behind a factor of a text. -/
def Gap (t : List UInt8) : Prop := t = [] ∨ ∃ s, t = 32 :: s
theorem takeWhile_app {p : UInt8 → Bool} : ∀ (a b : List UInt8), (∀ c ∈ a, p c = true) → (b = [] ∨ ∃ x s, b = x :: s ∧ p x = false) → (a ++ b).takeWhile p = a
  | [], b, _, hb => by
    rcases hb with rfl | ⟨x, s, rfl, hx⟩
    · rfl
    · simp [List.takeWhile_cons, hx]
  | x :: a, b, ha, hb => by
    rw [List.cons_append, List.takeWhile_cons, if_pos (ha x (List.mem_cons_self ..)), takeWhile_app a b (fun c hc => ha c (List.mem_cons_of_mem _ hc)) hb]
theorem digN_dec (u : Nat) {t : List UInt8} (ht : Gap t) : digN (Lib.decDigits u ++ t) = (Lib.decDigits u).length := by
  unfold digN
  rw [takeWhile_app _ _ (dec_facts u).1]
  rcases ht with rfl | ⟨s, rfl⟩
  · exact .inl rfl
  · exact .inr ⟨32, s, rfl, by decide⟩
theorem ex_dec {u : Nat} (hu : u < 10000) {t : List UInt8} (ht : Gap t) : exR (Lib.decDigits u ++ t) = t ∧ exV (Lib.decDigits u ++ t) = u ∧ exB (Lib.decDigits u ++ t) = true := by
  have hl := dec_len hu
  have hn := digN_dec u ht
  have hc : ¬ (digN (Lib.decDigits u ++ t) < 1 ∨ 6 < digN (Lib.decDigits u ++ t)) := by rw [hn]; omega
  refine ⟨?_, ?_, ?_⟩
  · unfold exR; rw [if_neg hc, hn]; simp
  · unfold exV; rw [if_neg hc, hn]; simp [(dec_facts u).2]
  · unfold exB; rw [decide_eq_false hc]; rfl
theorem dec_head (u : Nat) (t : List UInt8) : ∃ c s, Lib.decDigits u ++ t = c :: s ∧ isDig c = true := by
  have hl := Lib.nDigits_pos u
  rw [← Lib.decDigits_length] at hl
  cases h : Lib.decDigits u with
  | nil => rw [h] at hl; simp at hl
  | cons c s => exact ⟨c, s ++ t, rfl, (dec_facts u).1 c (by rw [h]; exact List.mem_cons_self ..)⟩
theorem ex_plain (u : Nat) (t : List UInt8) : exNeg (Lib.decDigits u ++ t) = false ∧ exRest (Lib.decDigits u ++ t) = Lib.decDigits u ++ t := by
  obtain ⟨c, s, e, hc⟩ := dec_head u t
  have h1 : ∀ n : Nat, n < 256 → isDig (UInt8.ofNat n) = true → UInt8.ofNat n ≠ 32 ∧ UInt8.ofNat n ≠ 45 := by decide +kernel
  have h2 := h1 c.toNat c.toNat_lt
  simp only [UInt8.ofNat_toNat] at h2
  obtain ⟨h3, h4⟩ := h2 hc
  have ht : trim (c :: s) = c :: s := by
    unfold trim Lib.trimLeftB
    rw [List.dropWhile_cons, if_neg (by simpa using h3)]
  rw [e]
  unfold exNeg exRest
  rw [ht]
  simp [h4]
theorem pow_letter (c : UInt8) {u : Nat} (hu : u < 10000) (h1 : 1 ≤ u) {t : List UInt8} (ht : Gap t) : powF [c] (Lib.decDigits u ++ t) = .ok (repeatL [c] u) t := by
  obtain ⟨e1, e2, _⟩ := ex_dec hu ht
  obtain ⟨e3, e4⟩ := ex_plain u t
  unfold powF
  rw [e3, e4, e1]
  have e5 : exS false (Lib.decDigits u ++ t) = u := by unfold exS; rw [e2]; rfl
  simp only [e5]
  have hcy : ∀ a m b, [c] = a :: (m ++ [b]) → a ≠ invc b := by intro a m b e; simp at e
  have hp : powW (coreW [c]) (conjW [c]) (u : Int) = repeatL [c] u := by
    rw [coreW_self hcy, conjW_self hcy]
    unfold powW
    rw [if_neg (by simp; omega), if_neg (by omega)]
    simp [invW]
  rw [hp]
  unfold fitF
  rw [if_pos (by simp; omega)]
end
end Go.Proofs.YtflieikbhgneoaaDoor

namespace Go.Proofs.YtflieikbhgneoaaDoor
section
open Lib (repeatL repeatL_add repeatL_one repeatL_nil repeatL_length)

theorem run_split (c : UInt8) (t : List UInt8) : c :: t = repeatL [c] (runN (c :: t)) ++ (c :: t).drop (runN (c :: t)) := by
  have h : ∀ l : List UInt8, (l.takeWhile (· == c)) = repeatL [c] (l.takeWhile (· == c)).length := by
    intro l
    induction l with
    | nil => rfl
    | cons a l ih =>
      rw [List.takeWhile_cons]
      split
      · rename_i e
        have : a = c := by simpa using e
        subst this
        rw [List.length_cons]
        show a :: _ = [a] ++ repeatL [a] _
        rw [← ih]; rfl
      · rfl
  have e : runN (c :: t) = ((c :: t).takeWhile (· == c)).length := rfl
  rw [e, ← h]
  have hd : ∀ l : List UInt8, l = l.takeWhile (· == c) ++ l.drop (l.takeWhile (· == c)).length := by
    intro l
    induction l with
    | nil => rfl
    | cons a l ih =>
      rw [List.takeWhile_cons]
      split
      · rw [List.length_cons, List.drop_succ_cons, List.cons_append, ← ih]
      · rfl
  exact hd _

theorem text_cons (f : Nat) (first : Bool) (c : UInt8) (t : List UInt8) : textF (f + 1) first (c :: t) =
    (if first then [] else [32]) ++ [c] ++ (if 1 < runN (c :: t) then 94 :: Lib.itoa (runN (c :: t)) else []) ++ textF f false ((c :: t).drop (runN (c :: t))) := rfl
theorem text_gap (f : Nat) (l : List UInt8) : Gap (textF f false l) := by
  cases f with
  | zero => exact .inl rfl
  | succ f => cases l with
    | nil => exact .inl rfl
    | cons c t => rw [text_cons]; exact .inr ⟨_, rfl⟩
theorem text_trim (f : Nat) {l : List UInt8} (hl : l.all (letterB 8) = true) : trim (textF f false l) = textF f true l ∧ trim (textF f true l) = textF f true l := by
  cases f with
  | zero => exact ⟨rfl, rfl⟩
  | succ f => cases l with
    | nil => exact ⟨rfl, rfl⟩
    | cons c t =>
      rw [List.all_cons, Bool.and_eq_true] at hl
      rw [text_cons, text_cons]
      simp only [Bool.false_eq_true, if_false, if_true, List.nil_append, List.append_assoc, List.cons_append]
      exact ⟨by rw [trim_blank, trim_letter hl.1], trim_letter hl.1 _⟩
theorem itoa_nat (n : Nat) : Lib.itoa (n : Int) = Lib.decDigits n := by
  unfold Lib.itoa; rw [if_neg (by omega)]; simp

/-- What stands at the head of a text: a run, and the rest behind a gap. -/
theorem text_head (f : Nat) (c : UInt8) (t : List UInt8) : textF (f + 1) true (c :: t) = c :: ((if 1 < runN (c :: t) then 94 :: Lib.decDigits (runN (c :: t)) else []) ++ textF f false ((c :: t).drop (runN (c :: t)))) := by
  rw [text_cons, itoa_nat]; simp
theorem run_bd (c : UInt8) (t : List UInt8) : 1 ≤ runN (c :: t) ∧ runN (c :: t) ≤ t.length + 1 := ⟨runN_pos c t, by simpa using runN_le (c :: t)⟩

theorem factor_run (g f : Nat) (c : UInt8) (t : List UInt8) (hl : (c :: t).all (letterB 8) = true) (hn : t.length < 9999) :
    ∃ t2, factorF (g + 2) (textF (f + 1) true (c :: t)) = some (.ok (repeatL [c] (runN (c :: t))) t2) ∧ trim t2 = textF f true ((c :: t).drop (runN (c :: t))) := by
  have hc := hl
  rw [List.all_cons, Bool.and_eq_true] at hc
  have hrest : ((c :: t).drop (runN (c :: t))).all (letterB 8) = true := by
    rw [List.all_eq_true] at hl ⊢; exact fun x hx => hl x (List.mem_of_mem_drop hx)
  obtain ⟨t1, t2⟩ := text_trim f hrest
  have hb := run_bd c t
  have hgap := text_gap f ((c :: t).drop (runN (c :: t)))
  rw [text_head]
  generalize hN : runN (c :: t) = N at *
  unfold factorF
  rw [base_letter hc.1]
  simp only
  by_cases h : 1 < N
  · rw [if_pos h]
    rw [show trim (94 :: Lib.decDigits N ++ textF f false ((c :: t).drop N)) = 94 :: (Lib.decDigits N ++ textF f false ((c :: t).drop N)) by
      unfold trim Lib.trimLeftB; rw [List.cons_append, List.dropWhile_cons, if_neg (by decide)]]
    simp only [if_true]
    rw [pow_letter c (by omega) (by omega) hgap]
    exact ⟨_, rfl, t1⟩
  · obtain rfl : N = 1 := by omega
    rw [if_neg h, List.nil_append, t1]
    cases f with
    | zero => exact ⟨[], rfl, rfl⟩
    | succ f =>
      cases hd : (c :: t).drop 1 with
      | nil => exact ⟨[], rfl, rfl⟩
      | cons d s =>
        rw [hd] at hrest t2
        rw [text_head] at t2 ⊢
        rw [List.all_cons, Bool.and_eq_true] at hrest
        have h94 := (letter_not hrest.1).2.2.2.2.2.2.2.1
        simp only
        rw [if_neg h94]
        exact ⟨_, rfl, t2⟩

theorem endF_text (f : Nat) {l : List UInt8} (hl : l.all (letterB 8) = true) (hf : l.length ≤ f) {t : List UInt8} (ht : trim t = textF f true l) : endF t = decide (l = []) := by
  unfold endF
  rw [ht]
  cases l with
  | nil => cases f <;> rfl
  | cons c s =>
    obtain ⟨f, rfl⟩ : ∃ g, f = g + 1 := ⟨f - 1, by simp at hf; omega⟩
    rw [text_head]
    rw [List.all_cons, Bool.and_eq_true] at hl
    have := letter_not hl.1
    simp [this.2.2.2.2.1, this.2.2.2.2.2.1, this.2.2.2.2.2.2.1]

theorem trim_trimL (l : List UInt8) : trim (trim l) = trim l := by
  unfold trim Lib.trimLeftB
  induction l with
  | nil => rfl
  | cons a l ih =>
    rw [List.dropWhile_cons]
    split
    · exact ih
    · rename_i h; rw [List.dropWhile_cons, if_neg h]

theorem redd_run (c : UInt8) (n : Nat) : Redd (repeatL [c] n) := redd_rep (p := [c]) trivial ⟨[], rfl⟩ ⟨[], rfl⟩ (ne_self c) n

theorem loop_text : ∀ (k : Nat) (l : List UInt8) (f g n : Nat) (p t : List UInt8), l.length ≤ k → l.all (letterB 8) = true → l.length ≤ f → l.length + 3 ≤ g → Redd p → n + l.length ≤ 9999 → trim t = textF f true l → loopF g p n t = some (.ok (red (p ++ l)) []) := by
  intro k
  induction k with
  | zero =>
    intro l f g n p t hk hl hf hg hp hn ht
    have : l = [] := List.eq_nil_of_length_eq_zero (by omega)
    subst this
    obtain ⟨g, rfl⟩ : ∃ h, g = h + 1 := ⟨g - 1, by simp at hg; omega⟩
    unfold loopF
    rw [endF_text f hl hf ht, if_pos (by simp), ht, List.append_nil, red_self hp]
    cases f <;> rfl
  | succ k ih =>
    intro l f g n p t hk hl hf hg hp hn ht
    obtain ⟨g, rfl⟩ : ∃ h, g = h + 1 := ⟨g - 1, by omega⟩
    unfold loopF
    cases l with
    | nil =>
      rw [endF_text f hl hf ht, if_pos (by simp), ht, List.append_nil, red_self hp]
      cases f <;> rfl
    | cons c s =>
      rw [endF_text f hl hf ht, if_neg (by simp), ht]
      obtain ⟨f, rfl⟩ : ∃ h, f = h + 1 := ⟨f - 1, by simp at hf; omega⟩
      simp only [List.length_cons] at *
      obtain ⟨g, rfl⟩ : ∃ h, g = h + 2 := ⟨g - 2, by omega⟩
      have hb := run_bd c s
      obtain ⟨t2, e1, e2⟩ := factor_run g f c s hl (by omega)
      rw [e1]
      have hrest : ((c :: s).drop (runN (c :: s))).all (letterB 8) = true := by
        rw [List.all_eq_true] at hl ⊢; exact fun x hx => hl x (List.mem_of_mem_drop hx)
      have hlen : ((c :: s).drop (runN (c :: s))).length = s.length + 1 - runN (c :: s) := by simp
      have hrl : (repeatL [c] (runN (c :: s))).length = runN (c :: s) := by rw [repeatL_length]; simp
      simp only
      rw [if_pos (by rw [hrl]; omega), hrl, ap_red hp (redd_run _ _)]
      rw [ih _ f (g + 2) _ _ t2 (by omega) hrest (by omega) (by omega) (redd_red _) (by omega) e2]
      rw [red_red_app, List.append_assoc, ← run_split]

/-- PARSE OF TEXT: the value. -/
theorem expr_text (l : List UInt8) (hl : l.all (letterB 8) = true) (hn : l.length ≤ 9999) : ∃ g, exprF g (textW l) = some (.ok (red l) []) := by
  cases l with
  | nil => exact ⟨10, by decide +kernel⟩
  | cons c s =>
    refine ⟨s.length + 20, ?_⟩
    have et : textW (c :: s) = textF (s.length + 1) true (c :: s) := by unfold textW; rw [if_neg (by simp)]; rfl
    rw [et]
    unfold exprF
    simp only [List.length_cons] at hn
    have hb := run_bd c s
    obtain ⟨t2, e1, e2⟩ := factor_run (s.length + 17) s.length c s hl (by omega)
    rw [e1]
    have hrest : ((c :: s).drop (runN (c :: s))).all (letterB 8) = true := by
      rw [List.all_eq_true] at hl ⊢; exact fun x hx => hl x (List.mem_of_mem_drop hx)
    have hlen : ((c :: s).drop (runN (c :: s))).length = s.length + 1 - runN (c :: s) := by simp
    have hrl : (repeatL [c] (runN (c :: s))).length = runN (c :: s) := by rw [repeatL_length]; simp
    simp only
    have hend := endF_text s.length hrest (by omega) e2
    rw [hend]
    have hred : red (repeatL [c] (runN (c :: s)) ++ (c :: s).drop (runN (c :: s))) = red (c :: s) := by rw [← run_split]
    by_cases h0 : (c :: s).drop (runN (c :: s)) = []
    · rw [if_pos (by simpa using h0), e2]
      rw [h0, List.append_nil, red_self (redd_run _ _)] at hred
      rw [hred, h0]
      cases s.length <;> rfl
    · rw [if_neg (by simpa using h0)]
      rw [loop_text _ _ s.length _ _ _ (trim t2) (Nat.le_refl _) hrest (by omega) (by omega) (redd_run _ _) (by omega) (by rw [trim_trimL]; exact e2)]
      rw [hred]
end
end Go.Proofs.YtflieikbhgneoaaDoor

namespace Go.Proofs.YtflieikbhgneoaaDoor
section
open Lib (repeatL repeatL_add repeatL_one repeatL_nil repeatL_length)

theorem tok_letter {c : UInt8} (h : letterB 8 c = true) (t : List UInt8) (a : Int) (op : List UInt8) (m : Int) : tokF 8 ⟨t, a, op, m⟩ c = some ⟨t, 1, op, m⟩ := by
  obtain ⟨h1, h2, h3, h4, h5, h6, h7, h8, _⟩ := letter_not h
  unfold tokF
  rw [if_neg h2, if_neg h3, if_neg (by rintro (q | q | q) <;> contradiction), if_neg h8, if_pos (.inr h)]
theorem tok_pow {N : Nat} (hN : N < 10000) {t : List UInt8} (ht : Gap t) (op : List UInt8) (m : Int) : tokF 8 ⟨Lib.decDigits N ++ t, 1, op, m⟩ 94 = some ⟨t, 2, op, m⟩ := by
  obtain ⟨e1, e2, e3⟩ := ex_dec hN ht
  obtain ⟨e4, e5⟩ := ex_plain N t
  unfold tokF
  simp only [e5, e1, e3]
  rfl

theorem out_text : ∀ (k : Nat) (l : List UInt8) (f g : Nat) (a : Int) (t : List UInt8), l.length ≤ k → l.all (letterB 8) = true → l.length ≤ f → 2 * l.length + 1 ≤ g → l.length ≤ 9999 → (l = [] → a ≠ 0) → trim t = textF f true l → outF g 8 ⟨t, a, [], 0⟩ = some (some 0) := by
  intro k
  induction k with
  | zero =>
    intro l f g a t hk hl hf hg hn ha ht
    have : l = [] := List.eq_nil_of_length_eq_zero (by omega)
    subst this
    obtain ⟨g, rfl⟩ : ∃ h, g = h + 1 := ⟨g - 1, by simp at hg; omega⟩
    have ht' : trim t = [] := by rw [ht]; cases f <;> rfl
    unfold outF
    simp only [ht']
    rw [if_pos ⟨trivial, ha rfl⟩]
  | succ k ih =>
    intro l f g a t hk hl hf hg hn ha ht
    cases l with
    | nil =>
      obtain ⟨g, rfl⟩ : ∃ h, g = h + 1 := ⟨g - 1, by simp at hg; omega⟩
      have ht' : trim t = [] := by rw [ht]; cases f <;> rfl
      unfold outF
      simp only [ht']
      rw [if_pos ⟨trivial, ha rfl⟩]
    | cons c s =>
      obtain ⟨f, rfl⟩ : ∃ h, f = h + 1 := ⟨f - 1, by simp at hf; omega⟩
      simp only [List.length_cons] at *
      obtain ⟨g, rfl⟩ : ∃ h, g = h + 1 + 1 := ⟨g - 2, by omega⟩
      have hc := hl
      rw [List.all_cons, Bool.and_eq_true] at hc
      have hb := run_bd c s
      have hrest : ((c :: s).drop (runN (c :: s))).all (letterB 8) = true := by
        rw [List.all_eq_true] at hl ⊢; exact fun x hx => hl x (List.mem_of_mem_drop hx)
      have hlen : ((c :: s).drop (runN (c :: s))).length = s.length + 1 - runN (c :: s) := by simp
      have hgap := text_gap f ((c :: s).drop (runN (c :: s)))
      have htr := (text_trim f hrest).1
      rw [text_head] at ht
      generalize runN (c :: s) = N at *
      unfold outF
      simp only [ht]
      rw [tok_letter hc.1]
      simp only
      by_cases h : 1 < N
      · rw [if_pos h]
        unfold outF
        have e : trim (94 :: Lib.decDigits N ++ textF f false ((c :: s).drop N)) = 94 :: (Lib.decDigits N ++ textF f false ((c :: s).drop N)) := by
          unfold trim Lib.trimLeftB; rw [List.cons_append, List.dropWhile_cons, if_neg (by decide)]
        simp only [e]
        rw [tok_pow (by omega) hgap]
        simp only
        exact ih _ f g 2 _ (by omega) hrest (by omega) (by omega) (by omega) (fun _ => by decide) htr
      · rw [if_neg h, List.nil_append]
        exact ih _ f (g + 1) 1 _ (by omega) hrest (by omega) (by omega) (by omega) (fun _ => by decide) htr

/-- PARSE OF TEXT: the form. -/
theorem outline_text (l : List UInt8) (hl : l.all (letterB 8) = true) (hn : l.length ≤ 9999) : ∃ g, outF g 8 ⟨textW l, 0, [], 0⟩ = some (some 0) := by
  cases l with
  | nil => exact ⟨10, by decide +kernel⟩
  | cons c s =>
    have et : textW (c :: s) = textF (s.length + 1) true (c :: s) := by unfold textW; rw [if_neg (by simp)]; rfl
    exact ⟨2 * (s.length + 1) + 1, out_text _ (c :: s) (s.length + 1) _ 0 _ (Nat.le_refl _) hl (by simp) (by simp) hn (fun h => by simp at h) (by rw [et]; exact (text_trim _ hl).2)⟩

theorem text_len : ∀ (f : Nat) (b : Bool) (l : List UInt8), l.length ≤ 9999 → (textF f b l).length ≤ 7 * l.length
  | 0, _, _, _ => by simp [textF]
  | _ + 1, _, [], _ => by simp [textF]
  | f + 1, b, c :: t, hn => by
    have hb := run_bd c t
    simp only [List.length_cons] at hn
    have hd := dec_len (u := runN (c :: t)) (by omega)
    have ih := text_len f false ((c :: t).drop (runN (c :: t))) (by simp; omega)
    rw [text_cons, itoa_nat]
    have hlen : ((c :: t).drop (runN (c :: t))).length = t.length + 1 - runN (c :: t) := by simp
    rw [hlen] at ih
    simp only [List.length_append, List.length_cons, List.length_nil]
    have h1 : (if b = true then ([] : List UInt8) else [32]).length ≤ 1 := by split <;> simp
    have h2 : (if 1 < runN (c :: t) then 94 :: Lib.decDigits (runN (c :: t)) else []).length ≤ 5 := by split <;> simp; omega
    omega
theorem textW_len (l : List UInt8) (hn : l.length ≤ 9999) : (textW l).length ≤ 7 * l.length + 1 := by
  unfold textW
  split
  · simp
  · have := text_len l.length true l hn; omega
end
end Go.Proofs.YtflieikbhgneoaaDoor

namespace Go.Proofs.YtflieikbhgneoaaDoor
section
open Go Go.RowKit

theorem b_text (w0 w : World) (h : St w0 w) (u v : List UInt8) (hu : isW u = true) (hn : textW u = v) :
    Calls Tryd.prog 20 #[.string ⟨u.toArray⟩] w fun e w' => e = .returned (.string ⟨v.toArray⟩) ∧ St w0 w' := by
  refine (Text_yes ⟨u.toArray⟩ w h.tabs hu).mono ?_
  rintro e w' ⟨rfl, k⟩
  exact ⟨by rw [← hn], h.on k⟩
theorem s_parse (w0 w : World) (h : St w0 w) (u : List UInt8) (hu : isW u = true) (hl : u.length ≤ 1000) (t v : List UInt8) (ht : textW u = t) (hv : red u = v) :
    Calls Tryd.prog 19 #[.int .i64 8, .string ⟨t.toArray⟩] w fun e w' => e = .returned (.tuple #[.string ⟨v.toArray⟩, .int .i64 0]) ∧ St w0 w' := by
  obtain ⟨g, hg⟩ := expr_text u (isW_all hu) (by omega)
  obtain ⟨f, hf⟩ := outline_text u (isW_all hu) (by omega)
  have hlen := textW_len u (by omega)
  rw [ht] at hg hf hlen
  rw [hv] at hg
  refine (parse_ok 8 t w h.tabs (by omega) (by omega) (by omega) f g 0 hf (by omega) v [] hg).mono ?_
  rintro e w' ⟨rfl, k⟩
  exact ⟨rfl, h.on k⟩
theorem s_rootN (w0 w : World) (h : St w0 w) (u v : List UInt8) (n : Int) (hu : isW u = true) (hv : rootW u = v) (hn : (rootN u : Int) = n) :
    Calls Tryd.prog 15 #[.string ⟨u.toArray⟩] w fun e w' => e = .returned (.tuple #[.string ⟨v.toArray⟩, .int .i64 n]) ∧ St w0 w' := by
  refine (Root_yes ⟨u.toArray⟩ w h.tabs hu).mono ?_
  rintro e w' ⟨rfl, k⟩
  exact ⟨by rw [← hv, ← hn], h.on k⟩
/-- Power, where it fits. -/
theorem s_power (w0 w : World) (h : St w0 w) (u v : List UInt8) (n : Int) (hu : isW u = true) (hv : powW (coreW (red u)) (conjW (red u)) n = v) (hn : coreW (red u) ≠ [] → n.natAbs ≤ mostN u) :
    Calls Tryd.prog 21 #[.string ⟨u.toArray⟩, .int .i64 n] w fun e w' => e = .returned (.tuple #[.string ⟨v.toArray⟩, .int .i64 0]) ∧ St w0 w' := by
  have hl := isW_len hu
  by_cases hc : coreW (red u) = []
  · refine (Power_triv ⟨u.toArray⟩ n w h.tabs hu (by rw [size_mk]; omega) hc).mono ?_
    rintro e w' ⟨rfl, k⟩
    have : v = [] := by rw [← hv]; unfold powW; rw [if_pos (.inr hc)]
    exact ⟨by rw [this], h.on k⟩
  · refine (Power_rest ⟨u.toArray⟩ n w h.tabs hu (by rw [size_mk]; omega) hc).mono ?_
    rintro e w' ⟨rfl, k⟩
    refine ⟨?_, h.on k⟩
    have h1 : powL u n = v := by unfold powL; rw [if_pos (hn hc)]; exact hv
    have h2 : powE u n = 0 := by unfold powE; rw [if_pos (hn hc)]
    show Ending.returned (.tuple #[.string ⟨(powL u n).toArray⟩, .int .i64 (powE u n)]) = _
    rw [h1, h2]
theorem subB {a l : List UInt8} (hl : l.all (letterB 8) = true) (h : ∀ c ∈ a, c ∈ l) : a.all (letterB 8) = true := by
  rw [List.all_eq_true] at hl ⊢; exact fun c hc => hl c (h c hc)
theorem isW_rootB {u : List UInt8} (h : isW u = true) : isW (rootW u) = true ∧ (rootW u).length ≤ u.length := by
  have hr := isW_red h
  have hl := isW_len hr
  have hs := conj_core_len (red u)
  have ha := isW_all hr
  have hlu := red_len u
  unfold rootW
  split
  · exact ⟨rfl, by simp⟩
  · refine ⟨isW_of ?_ ?_, ?_⟩
    · rw [List.length_append, List.length_append, invW_len, List.length_take]; omega
    · rw [List.all_append, List.all_append, Bool.and_eq_true, Bool.and_eq_true]
      have hi : (invW (conjW (red u))).all (letterB 8) = true := by
        unfold invW
        rw [List.all_reverse, List.all_map, List.all_eq_true]
        intro c hc
        exact letterB_invc (List.all_eq_true.1 (subB ha fun c hc => List.mem_of_mem_take hc) c hc)
      exact ⟨⟨subB ha fun c hc => List.mem_of_mem_take hc, subB ha fun c hc => List.mem_of_mem_drop (List.mem_of_mem_take (List.mem_of_mem_take hc))⟩, hi⟩
    · rw [List.length_append, List.length_append, invW_len, List.length_take]; omega
theorem most_ge (u : List UInt8) (hu : u.length ≤ 1000) (hc : coreW (red u) ≠ []) (n : Nat) (hn : n ≤ 40) : n ≤ mostN u := by
  have hs := conj_core_len (red u)
  have hl := red_len u
  have hp := List.length_pos_iff.2 hc
  unfold mostN
  rw [Nat.le_div_iff_mul_le hp]
  have : n * (coreW (red u)).length ≤ 40 * 1000 := Nat.mul_le_mul hn (by omega)
  omega
theorem most_root (u : List UInt8) (hu : u.length ≤ 1000) (hc : coreW (red u) ≠ []) : rootN u ≤ mostN (rootW u) := by
  obtain ⟨e1, e2, e3⟩ := root_parts u hc
  obtain ⟨p1, p2, p3⟩ := prim_root hc
  have hs := conj_core_len (red u)
  have hl := red_len u
  unfold mostN
  rw [e1, e2, e3, Nat.le_div_iff_mul_le (List.length_pos_iff.2 p1.1)]
  have hN : rootN u = (coreW (red u)).length / perN (coreW (red u)) := by unfold rootN; rw [if_neg hc]
  have : rootN u * ((coreW (red u)).take (perN (coreW (red u)))).length = (coreW (red u)).length := by
    rw [hN, ← Lib.repeatL_length, ← p2]
  omega
theorem pow_rootW (u : List UInt8) : powW (coreW (red (rootW u))) (conjW (red (rootW u))) (rootN u) = red u := by
  by_cases h : coreW (red u) = []
  · have h1 := core_nil.1 h
    have h2 : rootW u = [] := rootW_nil.2 h1
    rw [h2, h1]; unfold powW
    rw [if_pos (.inr rfl)]
  · exact root_powW u h
end
end Go.Proofs.YtflieikbhgneoaaDoor

namespace Go.Proofs.YtflieikbhgneoaaDoor
section
open Go Go.RowKit

theorem pow_isW {u : List UInt8} (hu : isW u = true) (hl : u.length ≤ 1000) (n : Int) (hn : n.natAbs ≤ 40) : isW (powW (coreW (red u)) (conjW (red u)) n) = true ∧ (powW (coreW (red u)) (conjW (red u)) n).length ≤ 40000 := by
  rw [pow_red]
  have hr := red_len (gpow u n)
  have hg : (gpow u n).length ≤ 40000 := by
    unfold gpow
    rw [Lib.repeatL_length]
    have : (if n < 0 then invW u else u).length = u.length := by split <;> simp [invW_len]
    rw [this]
    exact Nat.le_trans (Nat.mul_le_mul hn hl) (by omega)
  have hrep : ∀ (l : List UInt8) (k : Nat), l.all (letterB 8) = true → (Lib.repeatL l k).all (letterB 8) = true := by
    intro l k h
    induction k with
    | zero => rfl
    | succ k ih => show (l ++ Lib.repeatL l k).all (letterB 8) = true; rw [List.all_append, h, ih]; rfl
  have hall : (gpow u n).all (letterB 8) = true := by
    unfold gpow
    refine hrep _ _ ?_
    split
    · unfold invW
      rw [List.all_reverse, List.all_map, List.all_eq_true]
      intro c hc
      exact letterB_invc (List.all_eq_true.1 (isW_all hu) c hc)
    · exact isW_all hu
  refine ⟨isW_of (by omega) ?_, by omega⟩
  have h1 := run_mem (p := letterB 8) (gpow u n) [] rfl hall
  unfold red; rw [List.all_reverse]; exact h1

set_option maxHeartbeats 8000000 in
theorem back_any (s : ByteArray) (m n : Int) (w : World) (ht : Tabs w) (hs : s.size ≤ maxLen) :
    Calls Tryd.prog 8 #[.string s, .int .i64 m, .int .i64 n] w fun e w' => e = .returned (.bool true) ∧ Below w.heap.size w w' := by
  have h0 : St w w := ⟨ht, Below.refl _ w⟩
  obtain ⟨u, hu⟩ : ∃ u : List UInt8, s = ⟨u.toArray⟩ := ⟨s.data.toList, by apply ba_ext; rfl⟩
  subst hu
  have HS : Hid (∀ l ∈ [u], l.length ≤ maxLen) := Lib.hid (by intro l hl; simp at hl; subst hl; rw [size_mk] at hs; exact hs)
  clear ht hs
  by_cases hok : [u].all okW = true
  · have HOK := Lib.hid hok
    have hok2 := hok
    simp only [List.all_cons, List.all_nil, Bool.and_true] at hok2
    have lu := okW_len hok2
    have IU := Lib.hid (okW_isW hok2)
    clear hok hok2
    by_cases hA : m < -20
    · go_enter Tryd.func8, Tryd.ntmps8
      go_wp2_with fail
      refine (s_sane w _ h0).mono ?_; rintro e w1 ⟨rfl, h1⟩; clear h0
      go_wp2_with fail
      refine (words_at w w1 h1 [u] _ rfl 1 rfl (by simp) HS.out).mono ?_; rintro e w2 ⟨rfl, h2⟩; clear h1
      rw [HOK.out]
      go_wp2
      go_ret
      exact ⟨rfl, h2.below⟩
    by_cases hB : 20 < m
    · go_enter Tryd.func8, Tryd.ntmps8
      go_wp2_with fail
      refine (s_sane w _ h0).mono ?_; rintro e w1 ⟨rfl, h1⟩; clear h0
      go_wp2_with fail
      refine (words_at w w1 h1 [u] _ rfl 1 rfl (by simp) HS.out).mono ?_; rintro e w2 ⟨rfl, h2⟩; clear h1
      rw [HOK.out]
      go_wp2
      go_ret
      exact ⟨rfl, h2.below⟩
    by_cases hC : n < -20
    · go_enter Tryd.func8, Tryd.ntmps8
      go_wp2_with fail
      refine (s_sane w _ h0).mono ?_; rintro e w1 ⟨rfl, h1⟩; clear h0
      go_wp2_with fail
      refine (words_at w w1 h1 [u] _ rfl 1 rfl (by simp) HS.out).mono ?_; rintro e w2 ⟨rfl, h2⟩; clear h1
      rw [HOK.out]
      go_wp2
      go_ret
      exact ⟨rfl, h2.below⟩
    by_cases hD : 20 < n
    · go_enter Tryd.func8, Tryd.ntmps8
      go_wp2_with fail
      refine (s_sane w _ h0).mono ?_; rintro e w1 ⟨rfl, h1⟩; clear h0
      go_wp2_with fail
      refine (words_at w w1 h1 [u] _ rfl 1 rfl (by simp) HS.out).mono ?_; rintro e w2 ⟨rfl, h2⟩; clear h1
      rw [HOK.out]
      go_wp2
      go_ret
      exact ⟨rfl, h2.below⟩
    have b1 := isW_rootB IU.out
    have IR := Lib.hid b1.1
    have hc : coreW (red u) ≠ [] → (rootN u : Int).natAbs ≤ mostN (rootW u) := fun h => by rw [Int.natAbs_natCast]; exact most_root u lu h
    have hcr : coreW (red (rootW u)) ≠ [] → coreW (red u) ≠ [] := fun h e => h (by
      have h1 := core_nil.1 e
      have h2 : rootW u = [] := rootW_nil.2 h1
      rw [h2]; rfl)
    have HM : Hid (coreW (red (rootW u)) ≠ [] → (rootN u : Int).natAbs ≤ mostN (rootW u)) := Lib.hid (fun h => hc (hcr h))
    have M1 : Hid (coreW (red u) ≠ [] → m.natAbs ≤ mostN u) := Lib.hid (fun h => most_ge u lu h _ (by omega))
    have M2 : Hid (coreW (red u) ≠ [] → n.natAbs ≤ mostN u) := Lib.hid (fun h => most_ge u lu h _ (by omega))
    have M3 : Hid (coreW (red u) ≠ [] → (m + n).natAbs ≤ mostN u) := Lib.hid (fun h => most_ge u lu h _ (by omega))
    have P1 := pow_isW IU.out lu m (by omega)
    have P2 := pow_isW IU.out lu n (by omega)
    have HAB := Lib.hid (isW_app P1.1 P2.1 (by omega))
    have HADD := Lib.hid (pow_add u m n)
    have HQ := Lib.hid (pow_rootW u)
    have HRR := Lib.hid (root_root u)
    have l1 := P1.2
    have l2 := P2.2
    have cAB := catB (powW (coreW (red u)) (conjW (red u)) m) (powW (coreW (red u)) (conjW (red u)) n) _ rfl
    clear hc hcr b1 P1 P2
    obtain ⟨t, hT⟩ : ∃ t, textW u = t := ⟨_, rfl⟩
    obtain ⟨R, hR⟩ : ∃ R, red u = R := ⟨_, rfl⟩
    obtain ⟨k, hk⟩ : ∃ k : Int, (rootN u : Int) = k := ⟨_, rfl⟩
    have KT := Lib.hid hT
    have KR := Lib.hid hR
    have KK := Lib.hid hk
    have HQ2 : Hid (powW (coreW (red (rootW u))) (conjW (red (rootW u))) k = R) := Lib.hid (by rw [← hk, ← hR]; exact HQ.out)
    have HM2 : Hid (coreW (red (rootW u)) ≠ [] → k.natAbs ≤ mostN (rootW u)) := Lib.hid (by rw [← hk]; exact HM.out)
    clear hT hR hk
    generalize powW (coreW (red u)) (conjW (red u)) m ++ powW (coreW (red u)) (conjW (red u)) n = ab at *
    generalize hpa : powW (coreW (red u)) (conjW (red u)) m = pa at *
    generalize hpb : powW (coreW (red u)) (conjW (red u)) n = pb at *
    generalize hpc : powW (coreW (red u)) (conjW (red u)) (m + n) = pc at *
    generalize hr : rootW u = r at *
    have A1 := Lib.hid hpa
    have A2 := Lib.hid hpb
    have A3 := Lib.hid hpc
    have A4 := Lib.hid hr
    clear hpa hpb hpc hr
    by_cases hr0 : r = []
    · have hone : Hid ((rootN r : Int) = 0) := Lib.hid (by rw [HRR.out, if_pos hr0]; rfl)
      subst hr0
      go_enter Tryd.func8, Tryd.ntmps8
      go_wp2_with fail
      refine (s_sane w _ h0).mono ?_; rintro e w1 ⟨rfl, h1⟩; clear h0
      go_wp2_with fail
      refine (words_at w w1 h1 [u] _ rfl 1 rfl (by simp) HS.out).mono ?_; rintro e w2 ⟨rfl, h2⟩; clear h1
      rw [HOK.out]
      go_wp2_with fail
      refine (b_text w _ h2 u t IU.out KT.out).mono ?_; rintro e w3 ⟨rfl, h3⟩; clear h2
      go_wp2_with fail
      refine (s_parse w _ h3 u IU.out lu t R KT.out KR.out).mono ?_; rintro e w4 ⟨rfl, h4⟩; clear h3
      go_wp2_with fail
      refine (s_rootN w _ h4 u [] k IU.out A4.out KK.out).mono ?_; rintro e w5 ⟨rfl, h5⟩; clear h4
      go_wp2_with fail
      refine (s_power w _ h5 [] R k IR.out HQ2.out HM2.out).mono ?_; rintro e w6 ⟨rfl, h6⟩; clear h5
      go_wp2_with fail
      refine (s_rootN w _ h6 [] _ 0 IR.out rfl hone.out).mono ?_; rintro e w7 ⟨rfl, h7⟩; clear h6
      go_wp2_with fail
      refine (s_red w _ h7 u R IU.out KR.out).mono ?_; rintro e w8 ⟨rfl, h8⟩; clear h7
      go_wp2_with fail
      refine (s_red w _ h8 u R IU.out KR.out).mono ?_; rintro e w9 ⟨rfl, h9⟩; clear h8
      go_wp2_with fail
      refine (s_power w _ h9 u pa m IU.out A1.out M1.out).mono ?_; rintro e w10 ⟨rfl, h10⟩; clear h9
      go_wp2_with fail
      refine (s_power w _ h10 u pb n IU.out A2.out M2.out).mono ?_; rintro e w11 ⟨rfl, h11⟩; clear h10
      go_wp2_with fail
      refine (s_power w _ h11 u pc (m + n) IU.out A3.out M3.out).mono ?_; rintro e w12 ⟨rfl, h12⟩; clear h11
      go_wp2_with fail
      refine (s_red w _ h12 ab pc HAB.out HADD.out).mono ?_; rintro e w13 ⟨rfl, h13⟩; clear h12
      go_wp2
      go_ret
      exact ⟨rfl, h13.below⟩
    · have hone : Hid ((rootN r : Int) = 1) := Lib.hid (by rw [HRR.out, if_neg hr0]; rfl)
      have hrb : (r == []) = false := by simpa using hr0
      have hrc : r.isEmpty = false := by cases r with | nil => exact absurd rfl hr0 | cons a t => rfl
      clear hr0
      go_enter Tryd.func8, Tryd.ntmps8
      go_wp2_with fail
      refine (s_sane w _ h0).mono ?_; rintro e w1 ⟨rfl, h1⟩; clear h0
      go_wp2_with fail
      refine (words_at w w1 h1 [u] _ rfl 1 rfl (by simp) HS.out).mono ?_; rintro e w2 ⟨rfl, h2⟩; clear h1
      rw [HOK.out]
      go_wp2_with fail
      refine (b_text w _ h2 u t IU.out KT.out).mono ?_; rintro e w3 ⟨rfl, h3⟩; clear h2
      go_wp2_with fail
      refine (s_parse w _ h3 u IU.out lu t R KT.out KR.out).mono ?_; rintro e w4 ⟨rfl, h4⟩; clear h3
      go_wp2_with fail
      refine (s_rootN w _ h4 u r k IU.out A4.out KK.out).mono ?_; rintro e w5 ⟨rfl, h5⟩; clear h4
      go_wp2_with fail
      refine (s_power w _ h5 r R k IR.out HQ2.out HM2.out).mono ?_; rintro e w6 ⟨rfl, h6⟩; clear h5
      go_wp2_with fail
      refine (s_rootN w _ h6 r _ 1 IR.out rfl hone.out).mono ?_; rintro e w7 ⟨rfl, h7⟩; clear h6
      go_wp2_with fail
      refine (s_red w _ h7 u R IU.out KR.out).mono ?_; rintro e w8 ⟨rfl, h8⟩; clear h7
      go_wp2_with fail
      refine (s_red w _ h8 u R IU.out KR.out).mono ?_; rintro e w9 ⟨rfl, h9⟩; clear h8
      go_wp2_with fail
      refine (s_power w _ h9 u pa m IU.out A1.out M1.out).mono ?_; rintro e w10 ⟨rfl, h10⟩; clear h9
      go_wp2_with fail
      refine (s_power w _ h10 u pb n IU.out A2.out M2.out).mono ?_; rintro e w11 ⟨rfl, h11⟩; clear h10
      go_wp2_with fail
      refine (s_power w _ h11 u pc (m + n) IU.out A3.out M3.out).mono ?_; rintro e w12 ⟨rfl, h12⟩; clear h11
      go_wp2_with fail
      refine (s_red w _ h12 ab pc HAB.out HADD.out).mono ?_; rintro e w13 ⟨rfl, h13⟩; clear h12
      go_wp2
      go_ret
      exact ⟨rfl, h13.below⟩
  · have HOK : Hid ([u].all okW = false) := Lib.hid (by simpa using hok)
    clear hok
    go_enter Tryd.func8, Tryd.ntmps8
    go_wp2_with fail
    refine (s_sane w _ h0).mono ?_; rintro e w1 ⟨rfl, h1⟩; clear h0
    go_wp2_with fail
    refine (words_at w w1 h1 [u] _ rfl 1 rfl (by simp) HS.out).mono ?_; rintro e w2 ⟨rfl, h2⟩; clear h1
    rw [HOK.out]
    go_wp2
    go_ret
    exact ⟨rfl, h2.below⟩
end
end Go.Proofs.YtflieikbhgneoaaDoor

