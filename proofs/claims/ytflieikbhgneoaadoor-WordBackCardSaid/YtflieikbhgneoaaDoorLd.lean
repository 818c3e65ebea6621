/-
  Our own text, in the proofs of the laws of package word (cayleylaw01). Proved here: the conjugator that Conjugate returns conjugates, on lists of bytes. Conditions: the two words have one cyclic form.
-/
import Derived.Test.YtflieikbhgneoaaDoorLc
namespace Go.Proofs.YtflieikbhgneoaaDoor

theorem coreN_self {l : List UInt8} (h : ∀ a m b, l = a :: (m ++ [b]) → a ≠ invc b) : coreN l = 0 := by
  unfold coreN
  cases hl : l.length with
  | zero => rfl
  | succ f =>
    unfold coreF
    rw [if_neg]
    rintro ⟨h1, h2⟩
    rw [can_iff, decide_eq_true_eq] at h2
    obtain ⟨a, t, rfl⟩ : ∃ a t, l = a :: t := by cases l with | nil => simp at hl | cons a t => exact ⟨a, t, rfl⟩
    have ht : t ≠ [] := by intro e; subst e; simp at h1
    have e2 : t = t.dropLast ++ [t.getLast ht] := (List.dropLast_concat_getLast ht).symm
    refine h a t.dropLast (t.getLast ht) (by rw [← e2]) ?_
    have e3 : (a :: t).getD ((a :: t).length - 1 - 0) 0 = t.getLast ht := by
      have hp := List.length_pos_iff.2 ht
      simp only [List.getD, List.length_cons]
      rw [show t.length + 1 - 1 - 0 = (t.length - 1) + 1 by omega, List.getElem?_cons_succ, ← List.getLast?_eq_getElem?, List.getLast?_eq_some_getLast ht]
      rfl
    rw [e3] at h2
    simpa [List.getD] using h2

theorem conjW_wrap (c : UInt8) (m : List UInt8) : conjW (c :: (m ++ [invc c])) = c :: conjW m := by
  have hle := coreN_le m
  unfold conjW
  rw [coreN_wrap, List.take_succ_cons, List.take_append_of_le_length (by omega)]

theorem split_eq : ∀ (n : Nat) (l : List UInt8), l.length ≤ n → conjW l ++ coreW l ++ invW (conjW l) = l := by
  intro n
  induction n with
  | zero => intro l h; have : l = [] := List.eq_nil_of_length_eq_zero (by omega); subst this; rfl
  | succ n ih =>
    intro l h
    by_cases hw : ∀ a m b, l = a :: (m ++ [b]) → a ≠ invc b
    · rw [coreW_self hw]
      have : conjW l = [] := by unfold conjW; rw [coreN_self hw]; rfl
      rw [this]; simp [invW]
    · have : ∃ a m b, l = a :: (m ++ [b]) ∧ a = invc b := by
        refine Classical.byContradiction fun hn => hw fun a m b e1 e2 => hn ⟨a, m, b, e1, e2⟩
      obtain ⟨a, m, b, rfl, rfl⟩ := this
      have e : invc b :: (m ++ [b]) = invc b :: (m ++ [invc (invc b)]) := by rw [invc_invc]
      rw [e, coreW_wrap, conjW_wrap, invW_cons]
      have := ih m (by simp at h; omega)
      conv => rhs; rw [← this]
      simp

theorem rot_back {A B : List UInt8} {a b sh : Nat} (hl : A.length = B.length) (ha : a ≤ A.length) (hb : b ≤ B.length) (h : rotK A a = rotK B b) (hs : sh ≤ B.length)
    (hsh : sh + a = b ∨ sh + a = b + B.length) : rotK B sh = A := by
  apply ext_getD (by rw [rotK_len, hl])
  intro t ht
  rw [rotK_len] at ht
  rw [rotK_getD B sh t hs ht]
  have hn : 0 < B.length := by omega
  have hp := Nat.mod_lt (t + (B.length - a)) hn
  have e1 := rotK_getD A a ((t + (B.length - a)) % B.length) ha (by omega)
  have e2 := rotK_getD B b ((t + (B.length - a)) % B.length) hb hp
  rw [h, e2, hl] at e1
  rw [Nat.add_mod_mod, Nat.add_mod_mod] at e1
  have g1 : (a + (t + (B.length - a))) % B.length = t := by
    rw [show a + (t + (B.length - a)) = t + B.length by omega, Nat.add_mod_right, Nat.mod_eq_of_lt ht]
  rw [g1] at e1
  rw [← e1]
  congr 1
  rcases hsh with q | q
  · rw [show b + (t + (B.length - a)) = sh + t + B.length by omega, Nat.add_mod_right]
  · rw [show b + (t + (B.length - a)) = sh + t by omega]

theorem red3 (a b c : List UInt8) : red (red a ++ red b ++ red c) = red (a ++ b ++ c) := by
  rw [red_app_red, List.append_assoc, red_red_app, ← red_app_red, red_red_app, red_app_red, List.append_assoc]

/-- THE CONJUGATOR CONJUGATES. -/
theorem conjX_conj (s t : List UInt8) (hf : formW s = formW t) : red (conjX s t ++ t ++ invW (conjX s t)) = red s := by
  obtain ⟨Ds, hDs⟩ : ∃ D, D = conjW (red s) := ⟨_, rfl⟩
  obtain ⟨Dt, hDt⟩ : ∃ D, D = conjW (red t) := ⟨_, rfl⟩
  obtain ⟨Ks, hKs⟩ : ∃ K, K = coreW (red s) := ⟨_, rfl⟩
  obtain ⟨Kt, hKt⟩ : ∃ K, K = coreW (red t) := ⟨_, rfl⟩
  have es := split_eq _ (red s) (Nat.le_refl _)
  have et := split_eq _ (red t) (Nat.le_refl _)
  rw [← hDs, ← hKs] at es
  rw [← hDt, ← hKt] at et
  rw [formW_K, formW_K, ← hKs, ← hKt] at hf
  have hl : Ks.length = Kt.length := by
    have := congrArg List.length hf
    unfold formK at this
    rwa [rotK_len, rotK_len] at this
  have b1 := lrN_le Ks
  have b2 := lrN_le Kt
  obtain ⟨sh, hsh⟩ : ∃ sh, sh = shiftN s t := ⟨_, rfl⟩
  have hsd : shiftN s t = if (lrN Kt : Int) - lrN Ks < 0 then ((lrN Kt : Int) - lrN Ks + Kt.length).toNat else ((lrN Kt : Int) - lrN Ks).toNat := by rw [hKs, hKt]; rfl
  have hle : sh ≤ Kt.length := by rw [hsh, hsd]; split <;> omega
  have hor : sh + lrN Ks = lrN Kt ∨ sh + lrN Ks = lrN Kt + Kt.length := by rw [hsh, hsd]; split <;> omega
  have hrot := rot_back hl b1 b2 hf hle hor
  have hX : conjX s t = red (Ds ++ invW (Kt.take sh) ++ invW Dt) := by rw [hDs, hDt, hKt, hsh]; rfl
  obtain ⟨P, hP⟩ : ∃ P, P = Kt.take sh := ⟨_, rfl⟩
  obtain ⟨Q, hQ⟩ : ∃ Q, Q = Kt.drop sh := ⟨_, rfl⟩
  have hPQ : P ++ Q = Kt := by rw [hP, hQ]; exact List.take_append_drop _ _
  have hQP : Q ++ P = Ks := by rw [← hrot, hP, hQ]; rfl
  rw [← hP] at hX
  -- all of it up to reduction
  have k1 : red (conjX s t ++ t ++ invW (conjX s t)) = red ((Ds ++ invW P ++ invW Dt) ++ (Dt ++ (P ++ Q) ++ invW Dt) ++ invW (Ds ++ invW P ++ invW Dt)) := by
    rw [hX, hPQ, et, ← red3 (red (Ds ++ invW P ++ invW Dt)) t, ← red3 (Ds ++ invW P ++ invW Dt) (red t), red_red, red_red, red_invW_red]
  rw [k1, invW_app, invW_app, invW_invW, invW_invW]
  have cut : ∀ a b w : List UInt8, red (a ++ (w ++ (invW w ++ b))) = red (a ++ b) := by
    intro a b w
    rw [← List.append_assoc w, ← List.append_assoc a, ← red3, red_inv]
    have := red3 a [] b
    rw [List.append_nil] at this
    exact this
  have cut' : ∀ a b w : List UInt8, red (a ++ (invW w ++ (w ++ b))) = red (a ++ b) := by
    intro a b w
    have := cut a b (invW w)
    rwa [invW_invW] at this
  have c1 : (Ds ++ invW P ++ invW Dt) ++ (Dt ++ (P ++ Q) ++ invW Dt) ++ (Dt ++ (P ++ invW Ds)) = (Ds ++ invW P) ++ (invW Dt ++ (Dt ++ ((P ++ Q) ++ (invW Dt ++ (Dt ++ (P ++ invW Ds)))))) := by simp
  rw [c1, cut']
  have c2 : (Ds ++ invW P) ++ ((P ++ Q) ++ (invW Dt ++ (Dt ++ (P ++ invW Ds)))) = (Ds ++ invW P ++ P ++ Q) ++ (invW Dt ++ (Dt ++ (P ++ invW Ds))) := by simp
  rw [c2, cut']
  have c3 : (Ds ++ invW P ++ P ++ Q) ++ (P ++ invW Ds) = Ds ++ (invW P ++ (P ++ (Q ++ (P ++ invW Ds)))) := by simp
  rw [c3, cut']
  have c4 : Ds ++ (Q ++ (P ++ invW Ds)) = Ds ++ (Q ++ P) ++ invW Ds := by simp
  rw [c4, hQP, es, red_red]
end Go.Proofs.YtflieikbhgneoaaDoor
