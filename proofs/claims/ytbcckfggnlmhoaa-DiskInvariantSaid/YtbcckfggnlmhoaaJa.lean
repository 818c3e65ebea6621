/-
  Our own text, in the proof of the law DiskInvariant of package disk (cayleylaw04). Proved here (pure): a homomorphism to the integers is kept by free reduction, by moves, and maps boundaries to 0. No condition but valid words and presentations.
-/
import Derived.Test.YtbcckfggnlmhoaaIm
import Derived.Test.YtbcckfggnlmhoaaBa
namespace Go.Proofs.Ytbcckfggnlmhoaa
open Go Go.RowKit

/-- The image of a letter, of a word. -/
def valC (f : Int → Int) (c : UInt8) : Int := if idxI 8 c % 2 = 0 then f (idxI 8 c / 2) else - f (idxI 8 c / 2)
def sumW (f : Int → Int) (l : List UInt8) : Int := (l.map (valC f)).sum
theorem sumW_nil (f : Int → Int) : sumW f [] = 0 := rfl
theorem sumW_cons (f : Int → Int) (c : UInt8) (l : List UInt8) : sumW f (c :: l) = valC f c + sumW f l := by simp [sumW]
theorem sumW_app (f : Int → Int) (a b : List UInt8) : sumW f (a ++ b) = sumW f a + sumW f b := by simp [sumW]
theorem sumW_rev (f : Int → Int) : ∀ l : List UInt8, sumW f l.reverse = sumW f l
  | [] => rfl
  | c :: l => by rw [List.reverse_cons, sumW_app, sumW_rev f l, sumW_cons, sumW_cons, sumW_nil]; omega
theorem idx_inv_table : ∀ n : Nat, n < 256 → letB 8 (UInt8.ofNat n) = true → idxI 8 (invc (UInt8.ofNat n)) / 2 = idxI 8 (UInt8.ofNat n) / 2 ∧ (idxI 8 (invc (UInt8.ofNat n)) % 2 = 0 ↔ ¬ idxI 8 (UInt8.ofNat n) % 2 = 0) := by decide +kernel
theorem valC_inv (f : Int → Int) {c : UInt8} (h : letB 8 c = true) : valC f (invc c) = - valC f c := by
  have := all_u8 (fun c => letB 8 c = true → idxI 8 (invc c) / 2 = idxI 8 c / 2 ∧ (idxI 8 (invc c) % 2 = 0 ↔ ¬ idxI 8 c % 2 = 0)) idx_inv_table c h
  unfold valC
  rw [this.1]
  by_cases h2 : idxI 8 c % 2 = 0
  · rw [if_pos h2, if_neg (fun h3 => (this.2.1 h3) h2)]
  · rw [if_neg h2, if_pos (this.2.2 h2)]; omega
theorem all8_cons {c : UInt8} {l : List UInt8} (h : (c :: l).all (letB 8) = true) : letB 8 c = true ∧ l.all (letB 8) = true := by
  simpa [List.all_cons] using h
theorem sumW_inv (f : Int → Int) : ∀ {l : List UInt8}, l.all (letB 8) = true → sumW f (invW l) = - sumW f l
  | [], _ => rfl
  | c :: l, h => by
    obtain ⟨h1, h2⟩ := all8_cons h
    show sumW f (ginv invc (c :: l)) = _
    rw [ginv_cons, sumW_app, sumW_cons, sumW_cons, sumW_nil, valC_inv f h1]
    have : sumW f (ginv invc l) = - sumW f l := sumW_inv f h2
    rw [this]; omega
theorem sumW_stp (f : Int → Int) {r : List UInt8} {c : UInt8} (hc : letB 8 c = true) : sumW f (gstp invc r c) = sumW f r + valC f c := by
  cases r with
  | nil => show sumW f [c] = _; rw [sumW_cons, sumW_nil]; omega
  | cons x t =>
    rw [gstp_cons]
    by_cases h : x = invc c
    · rw [if_pos h, sumW_cons, h, valC_inv f hc]; omega
    · rw [if_neg h, sumW_cons]; omega
theorem sumW_run (f : Int → Int) : ∀ {l r : List UInt8}, l.all (letB 8) = true → sumW f (run r l) = sumW f r + sumW f l
  | [], r, _ => by show sumW f r = _; rw [sumW_nil]; omega
  | c :: l, r, h => by
    obtain ⟨h1, h2⟩ := all8_cons h
    show sumW f (run (gstp invc r c) l) = _
    rw [sumW_run f h2, sumW_stp f h1, sumW_cons]; omega

theorem sumW_rel (f : Int → Int) {p : Pr} (hp : presB p = true) (h0 : ∀ r ∈ p.rels, sumW f r = 0) {i : Int} (hi : isRelB p i = true) (inv : Bool) : sumW f (relOf p i inv) = 0 := by
  have hr := presB_k hp
  have ha := relOf_all hp hi false
  simp only [isRelB, Bool.and_eq_true, decide_eq_true_eq] at hi
  have hn : i.toNat < p.rels.length := by omega
  have e : p.rels.getD i.toNat [] = p.rels[i.toNat] := by simp [List.getD, hn]
  have hz := h0 _ (List.getElem_mem hn)
  unfold relOf at ha ⊢
  rw [e] at ha ⊢
  cases inv with
  | false => exact hz
  | true =>
    show sumW f (invW p.rels[i.toNat]) = 0
    rw [sumW_inv f (all_mono hr.2.1 (by simpa using ha)), hz]; rfl
theorem sumW_rot (f : Int → Int) {p : Pr} (hp : presB p = true) (h0 : ∀ r ∈ p.rels, sumW f r = 0) {m : Mv} {v : List UInt8} (h : rotOf p m = some v) : sumW f v = 0 ∧ v.all (letB 8) = true := by
  unfold rotOf at h
  split at h
  case isTrue hr =>
    split at h
    case isTrue hs =>
      cases h
      have hz := sumW_rel f hp h0 hr m.inv
      have ha := all_mono (presB_k hp).2.1 (relOf_all hp hr m.inv)
      have e : relOf p m.rel m.inv = (relOf p m.rel m.inv).take m.shift.toNat ++ (relOf p m.rel m.inv).drop m.shift.toNat := (List.take_append_drop _ _).symm
      generalize relOf p m.rel m.inv = t at *
      rw [e, sumW_app] at hz
      rw [e, List.all_append, Bool.and_eq_true] at ha
      refine ⟨by rw [sumW_app]; omega, by rw [List.all_append, Bool.and_eq_true]; exact ⟨ha.2, ha.1⟩⟩
    case isFalse => cases h
  case isFalse => cases h
theorem keep_ins (f : Int → Int) {l v x : List UInt8} {i : Int} (ha : l.all (letB 8) = true) (hv : v.all (letB 8) = true) (h : insAt l i v = some x) : sumW f x = sumW f l + sumW f v ∧ x.all (letB 8) = true := by
  unfold insAt at h
  split at h
  case isTrue hh =>
    cases h
    have e : l = l.take i.toNat ++ l.drop i.toNat := (List.take_append_drop _ _).symm
    have hs : sumW f l = sumW f (l.take i.toNat) + sumW f (l.drop i.toNat) := by rw [← sumW_app, ← e]
    have hb : (l.take i.toNat).all (letB 8) = true ∧ (l.drop i.toNat).all (letB 8) = true := by rw [e, List.all_append, Bool.and_eq_true] at ha; exact ha
    exact ⟨by rw [sumW_app, sumW_app]; omega, by rw [List.all_append, List.all_append, hb.1, hv, hb.2]; rfl⟩
  case isFalse => cases h
theorem keep_cut (f : Int → Int) {l v : List UInt8} {i : Nat} (ha : l.all (letB 8) = true) (hv : (l.drop i).take v.length = v) (h0 : sumW f v = 0) : sumW f (l.take i ++ l.drop (i + v.length)) = sumW f l ∧ (l.take i ++ l.drop (i + v.length)).all (letB 8) = true := by
  have e : l = l.take i ++ (v ++ l.drop (i + v.length)) := by
    have e1 : l.drop i = v ++ l.drop (i + v.length) := by
      rw [← List.drop_drop]
      conv => lhs; rw [← List.take_append_drop v.length (l.drop i)]
      rw [hv]
    rw [← e1, List.take_append_drop]
  have hs : sumW f l = sumW f (l.take i) + (sumW f v + sumW f (l.drop (i + v.length))) := by
    conv => lhs; rw [e]
    rw [sumW_app, sumW_app]
  have hb : (l.take i ++ (v ++ l.drop (i + v.length))).all (letB 8) = true := by rw [← e]; exact ha
  rw [List.all_append, List.all_append, Bool.and_eq_true, Bool.and_eq_true] at hb
  exact ⟨by rw [sumW_app]; omega, by rw [List.all_append, hb.1, hb.2.2]; rfl⟩

theorem stepM_keep (f : Int → Int) {p : Pr} (hp : presB p = true) (h0 : ∀ r ∈ p.rels, sumW f r = 0) {l x : List UInt8} {m : Mv} (ha : l.all (letB 8) = true) (h : stepM p l m = some x) : sumW f x = sumW f l ∧ x.all (letB 8) = true := by
  unfold stepM at h
  split at h
  · unfold insPair at h
    split at h
    case isTrue hh =>
      have hn : m.letter.toNat < 16 := by have := (presB_k hp).2.1; omega
      have hl := ltr_let _ hn
      have h2 : letB 8 (invc (ltr m.letter.toNat)) = true := by rw [letB_invc]; exact hl
      have := keep_ins f ha (by simp [hl, h2]) h
      rw [sumW_cons, sumW_cons, sumW_nil, valC_inv f hl] at this
      exact ⟨by omega, this.2⟩
    case isFalse => cases h
  split at h
  · unfold delPair at h
    split at h
    case isTrue hh =>
      cases h
      obtain ⟨h1, h2, h3⟩ := hh
      have hk : m.pos.toNat + 2 ≤ l.length := by omega
      have g0 : l.getD m.pos.toNat 0 = l[m.pos.toNat] := by simp [List.getD, show m.pos.toNat < l.length by omega]
      have g1 : l.getD (m.pos.toNat + 1) 0 = l[m.pos.toNat + 1] := by simp [List.getD, show m.pos.toNat + 1 < l.length by omega]
      have hv : (l.drop m.pos.toNat).take 2 = [l[m.pos.toNat], l[m.pos.toNat + 1]] := by
        rw [List.drop_eq_getElem_cons (by omega), List.drop_eq_getElem_cons (by omega)]; rfl
      have hc : letB 8 l[m.pos.toNat] = true := List.all_eq_true.1 ha _ (List.getElem_mem _)
      refine keep_cut f (v := [l[m.pos.toNat], l[m.pos.toNat + 1]]) ha hv ?_
      rw [sumW_cons, sumW_cons, sumW_nil, ← g1, h3, g0, valC_inv f hc]; omega
    case isFalse => cases h
  split at h
  · unfold insRel at h
    split at h
    case h_1 v hv =>
      have h1 := sumW_rot f hp h0 hv
      have := keep_ins f ha h1.2 h
      rw [h1.1] at this
      exact ⟨by omega, this.2⟩
    case h_2 => cases h
  split at h
  · unfold delRel at h
    split at h
    case h_1 v hv =>
      have h1 := sumW_rot f hp h0 hv
      unfold cutAt at h
      split at h
      case isTrue hh => cases h; exact keep_cut f ha hh.2.2 h1.1
      case isFalse => cases h
    case h_2 => cases h
  · cases h

theorem runM_keep (f : Int → Int) {p : Pr} (hp : presB p = true) (h0 : ∀ r ∈ p.rels, sumW f r = 0) : ∀ (ms : List Mv) {l x : List UInt8}, l.all (letB 8) = true → runM p l ms = some x → sumW f x = sumW f l ∧ x.all (letB 8) = true
  | [], l, x, ha, h => by cases h; exact ⟨rfl, ha⟩
  | m :: ms, l, x, ha, h => by
    cases hs : stepM p l m with
    | none =>
      have e : runM p l (m :: ms) = ms.foldl (fun o m => o.bind fun x => stepM p x m) none := by show ms.foldl _ ((some l).bind fun x => stepM p x m) = _; rw [Option.bind_some, hs]
      rw [e, foldl_none] at h; cases h
    | some y =>
      have e : runM p l (m :: ms) = runM p y ms := by show ms.foldl _ ((some l).bind fun x => stepM p x m) = _; rw [Option.bind_some, hs]; rfl
      rw [e] at h
      have h1 := stepM_keep f hp h0 ha hs
      have h2 := runM_keep f hp h0 ms h1.2 h
      exact ⟨h2.1.trans h1.1, h2.2⟩

theorem bnd_zero (f : Int → Int) {p : Pr} (hp : presB p = true) (h0 : ∀ r ∈ p.rels, sumW f r = 0) : ∀ (d : List Cel) (r : List UInt8), (∀ c ∈ d, isRelB p c.rel = true ∧ isWd p.k c.conj = true) → sumW f (d.foldl (cellR p) r) = sumW f r
  | [], _, _ => rfl
  | c :: d, r, h => by
    have hc := h c (List.mem_cons_self ..)
    have h8 := (presB_k hp).2.1
    have ha := all_mono h8 (isWd_all hc.2)
    rw [List.foldl_cons, bnd_zero f hp h0 d _ (fun x hx => h x (List.mem_cons_of_mem _ hx))]
    unfold cellR
    rw [sumW_run f (all_invW ha), sumW_run f (all_mono h8 (relOf_all hp hc.1 c.inv)), sumW_run f ha, sumW_rel f hp h0 hc.1, sumW_inv f ha]
    omega
theorem bdS_zero (f : Int → Int) {p : Pr} (h0 : ∀ r ∈ p.rels, sumW f r = 0) {d : List Cel} (hk : chk p [] [d] = 0) : sumW f (bdS p d) = 0 := by
  have h1 := chk_one' hk
  rw [bdS_yes hk]
  unfold bnd
  rw [sumW_rev]
  show sumW f (d.foldl (cellR p) []) = 0
  rw [bnd_zero f h1.1 h0 d [] (diskB_facts h1.2).2.2]; rfl

/-- The law's word: what Apply returns keeps the image. -/
theorem apV_keep (f : Int → Int) {p : Pr} (hp : presB p = true) (h0 : ∀ r ∈ p.rels, sumW f r = 0) {l : List UInt8} {ms : List Mv} (h : apE p l ms = 0) : isWd p.k l = true ∧ sumW f (apV p l ms) = sumW f l ∧ (apV p l ms).all (letB 8) = true := by
  unfold apE at h
  split at h
  case isTrue hk =>
    have hchk : chk p [l] [] = 0 := by
      unfold appI at hk; split at hk; assumption; exact absurd hk ‹_›
    have hw := (chk_ok hchk).2.1
    simp only [List.all_cons, List.all_nil, Bool.and_true] at hw
    split at h
    case isTrue hs =>
      obtain ⟨x, hx⟩ := Option.isSome_iff_exists.1 hs
      have e : apV p l ms = x := by unfold apV; rw [if_pos hk, hx]; rfl
      rw [e]
      exact ⟨hw, runM_keep f hp h0 ms (all_mono (presB_k hp).2.1 (isWd_all hw)) hx⟩
    case isFalse => cases h
  case isFalse hk => exact absurd h hk
theorem apV_len {p : Pr} {l : List UInt8} {ms : List Mv} : (apV p l ms).length ≤ 100000 := by
  unfold apV
  split
  case isFalse => simp
  case isTrue hk =>
    have hchk : chk p [l] [] = 0 := by
      unfold appI at hk; split at hk; assumption; exact absurd hk ‹_›
    have hw := (chk_ok hchk).2.1
    simp only [List.all_cons, List.all_nil, Bool.and_true] at hw
    have gen : ∀ (ms : List Mv) (l x : List UInt8), l.length ≤ 100000 → runM p l ms = some x → x.length ≤ 100000 := by
      intro ms
      induction ms with
      | nil => intro l x hl h; cases h; exact hl
      | cons m ms ih =>
        intro l x hl h
        cases hs : stepM p l m with
        | none =>
          have e : runM p l (m :: ms) = ms.foldl (fun o m => o.bind fun x => stepM p x m) none := by show ms.foldl _ ((some l).bind fun x => stepM p x m) = _; rw [Option.bind_some, hs]
          rw [e, foldl_none] at h; cases h
        | some y =>
          have e : runM p l (m :: ms) = runM p y ms := by show ms.foldl _ ((some l).bind fun x => stepM p x m) = _; rw [Option.bind_some, hs]; rfl
          rw [e] at h
          exact ih y x (stepM_len hl hs) h
    cases hx : runM p l ms with
    | none => simp
    | some x => exact gen ms l x (isWd_len hw) hx
end Go.Proofs.Ytbcckfggnlmhoaa
