/-
  Our own text, in the proofs of the laws of package word (cayleylaw01). Proved here: a conjugate of a word has the same cyclic form, on lists of bytes. Conditions: the lists are letters.
-/
import Derived.Test.YtflieikbhgneoaaDoorLb
import Derived.Test.YtflieikbhgneoaaDoorNa
namespace Go.Proofs.YtflieikbhgneoaaDoor

/-! Reduced words from both ends. -/
theorem Redd.suffix : ∀ {p q : List UInt8}, Redd (p ++ q) → Redd q
  | [], _, h => h
  | _ :: p, _, h => Redd.suffix (p := p) (Redd.tail h)
theorem Redd.prefixL : ∀ {p q : List UInt8}, Redd (p ++ q) → Redd p
  | [], _, _ => trivial
  | [_], _, _ => trivial
  | a :: b :: p, q, h => ⟨h.1, Redd.prefixL (p := b :: p) (q := q) h.2⟩
theorem Redd.snoc : ∀ {l : List UInt8} {x : UInt8}, Redd l → (∀ m b, l = m ++ [b] → b ≠ invc x) → Redd (l ++ [x])
  | [], _, _, _ => trivial
  | [a], x, _, h => ⟨h [] a rfl, trivial⟩
  | a :: b :: l, x, hr, h => ⟨hr.1, Redd.snoc (l := b :: l) hr.2 (fun m d e => h (a :: m) d (by rw [e]; rfl))⟩
theorem Redd.last : ∀ {l : List UInt8} {b x : UInt8}, Redd (l ++ [b] ++ [x]) → b ≠ invc x
  | [], _, _, h => h.1
  | _ :: l, _, _, h => Redd.last (l := l) (Redd.tail h)
theorem Redd.rev : ∀ {l : List UInt8}, Redd l → Redd l.reverse
  | [], _ => trivial
  | a :: l, h => by
    rw [List.reverse_cons]
    refine Redd.snoc (Redd.rev h.tail) ?_
    intro m b e
    have : l = b :: m.reverse := by
      have := congrArg List.reverse e
      simpa using this
    subst this
    exact ne_invc h.1
theorem run_self : ∀ (l r : List UInt8), Redd (l.reverse ++ r) → run r l = l.reverse ++ r
  | [], _, _ => rfl
  | c :: l, r, h => by
    rw [List.reverse_cons, List.append_assoc] at h
    have h2 : Redd (c :: r) := Redd.suffix h
    have e : stp r c = c :: r := by
      cases r with
      | nil => rfl
      | cons x t => rw [stp_cons, if_neg (ne_invc h2.1)]
    show run (stp r c) l = _
    rw [e, run_self l (c :: r) h, List.reverse_cons, List.append_assoc]; rfl
theorem red_self {l : List UInt8} (h : Redd l) : red l = l := by
  have h1 := run_self l [] (by rw [List.append_nil]; exact h.rev)
  show (run [] l).reverse = l
  rw [h1]; simp
theorem redd_red (l : List UInt8) : Redd (red l) := (redd_redR l).rev

/-! The core. -/
theorem coreF_wrap (c d : UInt8) (m : List UInt8) : ∀ f k, 2 * k ≤ m.length → coreF f (c :: (m ++ [d])) (k + 1) = coreF f m k + 1 := by
  intro f
  induction f with
  | zero => intro k _; rfl
  | succ f ih =>
    intro k hk
    unfold coreF
    have hl : (c :: (m ++ [d])).length = m.length + 2 := by simp
    by_cases h : 2 * k + 1 < m.length
    · have e1 : (c :: (m ++ [d])).getD (k + 1) 0 = m.getD k 0 := by
        simp [List.getD, List.getElem?_append_left (show k < m.length by omega)]
      have e2 : (c :: (m ++ [d])).getD ((c :: (m ++ [d])).length - 1 - (k + 1)) 0 = m.getD (m.length - 1 - k) 0 := by
        rw [hl, show m.length + 2 - 1 - (k + 1) = (m.length - 1 - k) + 1 by omega]
        simp [List.getD, List.getElem?_append_left (show m.length - 1 - k < m.length by omega)]
      rw [e1, e2, hl]
      by_cases g : (m.getD k 0 ^^^ m.getD (m.length - 1 - k) 0 == 32) = true
      · rw [if_pos ⟨by omega, g⟩, if_pos ⟨h, g⟩]
        exact ih (k + 1) (by omega)
      · rw [if_neg (fun q => g q.2), if_neg (fun q => g q.2)]
    · rw [if_neg (by rw [hl]; omega), if_neg (by omega)]
theorem coreN_wrap (c : UInt8) (m : List UInt8) : coreN (c :: (m ++ [invc c])) = coreN m + 1 := by
  have hstop : ∀ f k, m.length < 2 * k + 2 → coreF f m k = k := by
    intro f k h
    cases f with
    | zero => rfl
    | succ f => unfold coreF; rw [if_neg (by omega)]
  have hmore : ∀ f k, m.length ≤ f + 2 * k → coreF (f + 1) m k = coreF f m k := by
    intro f
    induction f with
    | zero => intro k h; rw [hstop 1 k (by omega)]; rfl
    | succ f ih =>
      intro k h
      by_cases g : 2 * k + 1 < m.length ∧ (m.getD k 0 ^^^ m.getD (m.length - 1 - k) 0 == 32) = true
      · conv => lhs; unfold coreF
        conv => rhs; unfold coreF
        rw [if_pos g, if_pos g]
        exact ih (k + 1) (by omega)
      · conv => lhs; unfold coreF
        conv => rhs; unfold coreF
        rw [if_neg g, if_neg g]
  unfold coreN
  have hl : (c :: (m ++ [invc c])).length = m.length + 1 + 1 := by simp
  rw [hl]
  have e : coreF (m.length + 1 + 1) (c :: (m ++ [invc c])) 0 = coreF (m.length + 1) (c :: (m ++ [invc c])) (0 + 1) := by
    conv => lhs; unfold coreF
    rw [if_pos]
    refine ⟨by rw [hl]; omega, ?_⟩
    rw [can_iff]
    simp [List.getD, invc_invc]
  rw [e, coreF_wrap c (invc c) m _ 0 (by omega), hmore m.length 0 (by omega)]
theorem coreW_wrap (c : UInt8) (m : List UInt8) : coreW (c :: (m ++ [invc c])) = coreW m := by
  have hle := coreN_le m
  unfold coreW
  rw [coreN_wrap]
  have hl : (c :: (m ++ [invc c])).length = m.length + 2 := by simp
  rw [hl, List.drop_succ_cons, List.drop_append_of_le_length (by omega), List.take_append_of_le_length (by simp; omega)]
  congr 1; omega
theorem coreW_self {l : List UInt8} (h : ∀ a m b, l = a :: (m ++ [b]) → a ≠ invc b) : coreW l = l := by
  have e : coreN l = 0 := by
    unfold coreN
    cases hl : l.length with
    | zero => rfl
    | succ f =>
      unfold coreF
      rw [if_neg]
      rintro ⟨h1, h2⟩
      rw [can_iff, decide_eq_true_eq] at h2
      obtain ⟨a, t, rfl⟩ : ∃ a t, l = a :: t := by cases l with | nil => simp at hl | cons a t => exact ⟨a, t, rfl⟩
      have ht : t ≠ [] := by intro e; subst e; simp at h1
      have e2 : t = t.dropLast ++ [t.getLast ht] := (List.dropLast_concat_getLast ht).symm
      refine h a t.dropLast (t.getLast ht) (by rw [← e2]) ?_
      have e3 : (a :: t).getD ((a :: t).length - 1 - 0) 0 = t.getLast ht := by
        have hp := List.length_pos_iff.2 ht
        simp only [List.getD, List.length_cons]
        rw [show t.length + 1 - 1 - 0 = (t.length - 1) + 1 by omega, List.getElem?_cons_succ, ← List.getLast?_eq_getElem?, List.getLast?_eq_some_getLast ht]
        rfl
      rw [e3] at h2
      simpa [List.getD] using h2
  unfold coreW
  rw [e]; simp

def formK (K : List UInt8) : List UInt8 := rotK K (lrN K)
theorem formW_K (l : List UInt8) : formW l = formK (coreW (red l)) := rfl
theorem formK_swap (p q : List UInt8) (h : Ltr (p ++ q)) : formK (q ++ p) = formK (p ++ q) := by
  have := form_rot (p ++ q) h p.length (by simp)
  have e : rotK (p ++ q) p.length = q ++ p := by simp [rotK]
  rw [e] at this
  exact this

theorem ends (l : List UInt8) : l = [] ∨ (∃ a, l = [a]) ∨ ∃ a m b, l = a :: (m ++ [b]) := by
  cases l with
  | nil => exact .inl rfl
  | cons a t =>
    by_cases ht : t = []
    · subst ht; exact .inr (.inl ⟨a, rfl⟩)
    · exact .inr (.inr ⟨a, t.dropLast, t.getLast ht, by rw [List.dropLast_concat_getLast]⟩)

theorem red_front (c : UInt8) (l : List UInt8) : red (c :: invc c :: l) = red l := red_pair [] l c
theorem red_back (l : List UInt8) (c : UInt8) : red (l ++ [c, invc c]) = red l := by have := red_pair l [] c; simpa using this

/-- One letter at both ends of a reduced word. -/
theorem form_step (r : List UInt8) (hr : Redd r) (hL : Ltr r) (c : UInt8) : formK (coreW (red (c :: (r ++ [invc c])))) = formK (coreW r) := by
  rcases ends r with rfl | ⟨a, rfl⟩ | ⟨a, m, b, rfl⟩
  · rw [show (c :: ([] ++ [invc c])) = c :: invc c :: [] from rfl, red_front]; rfl
  · by_cases h1 : a = invc c
    · subst h1
      rw [show c :: ([invc c] ++ [invc c]) = c :: invc c :: [invc c] from rfl, red_front, red_self (by trivial)]
    · by_cases h2 : a = c
      · subst h2
        rw [show a :: ([a] ++ [invc a]) = [a] ++ [a, invc a] from rfl, red_back, red_self (by trivial)]
      · have hR : Redd (c :: ([a] ++ [invc c])) := ⟨fun e => h1 (by rw [e, invc_invc]), by rw [invc_invc]; exact h2, trivial⟩
        rw [red_self hR, coreW_wrap]
  · have hm : Redd m := (Redd.tail hr).prefixL
    by_cases h1 : a = invc c
    · subst h1
      by_cases h2 : b = c
      · subst h2
        have e : b :: ((invc b :: (m ++ [b])) ++ [invc b]) = b :: invc b :: (m ++ [b, invc b]) := by simp
        have e2 : invc b :: (m ++ [b]) = invc b :: (m ++ [invc (invc b)]) := by rw [invc_invc]
        rw [e, red_front, red_back, red_self hm, e2, coreW_wrap]
      · have e : c :: ((invc c :: (m ++ [b])) ++ [invc c]) = c :: invc c :: (m ++ [b] ++ [invc c]) := by simp
        have hR : Redd (m ++ [b] ++ [invc c]) := Redd.snoc (Redd.tail hr) (fun p d q => by
          have := List.append_inj' q rfl
          simp at this
          rw [invc_invc, ← this.2]; exact h2)
        have hc1 : coreW (invc c :: (m ++ [b])) = invc c :: (m ++ [b]) := coreW_self (fun x n y q => by
          simp only [List.cons.injEq] at q
          obtain ⟨q1, q2⟩ := q
          have := List.append_inj' q2 rfl
          simp at this
          rw [← q1, ← this.2]
          exact fun e => h2 (by rw [← invc_invc b, ← e, invc_invc]))
        have hc2 : coreW (m ++ [b] ++ [invc c]) = m ++ [b] ++ [invc c] := coreW_self (fun x n y q => by
          rw [← List.cons_append] at q
          have := List.append_inj' q rfl
          simp at this
          rw [← this.2, invc_invc]
          rintro rfl
          have hh : Redd (invc x :: (m ++ [b])) := hr
          rw [this.1] at hh
          exact hh.1 rfl)
        rw [e, red_front, red_self hR, hc1, hc2]
        exact formK_swap [invc c] (m ++ [b]) hL
    · by_cases h2 : b = c
      · subst h2
        have e : b :: ((a :: (m ++ [b])) ++ [invc b]) = (b :: a :: m) ++ [b, invc b] := by simp
        have hR : Redd (b :: a :: m) := ⟨fun e => h1 (by rw [e, invc_invc]), Redd.prefixL (p := a :: m) (q := [b]) hr⟩
        have hc1 : coreW (a :: (m ++ [b])) = a :: (m ++ [b]) := coreW_self (fun x n y q => by
          simp only [List.cons.injEq] at q
          obtain ⟨q1, q2⟩ := q
          have := List.append_inj' q2 rfl
          simp at this
          rw [← q1, ← this.2]; exact h1)
        have hc2 : coreW (b :: a :: m) = b :: a :: m := coreW_self (fun x n y q => by
          simp only [List.cons.injEq] at q
          obtain ⟨q1, q2⟩ := q
          rw [← q1]
          have hh : Redd ((a :: m) ++ [b]) := hr
          rw [q2] at hh
          exact ne_invc hh.last)
        rw [e, red_back, red_self hR, hc1, hc2]
        exact formK_swap (a :: m) [b] hL
      · have hR : Redd (c :: ((a :: (m ++ [b])) ++ [invc c])) := by
          refine ⟨fun e => h1 (by rw [e, invc_invc]), ?_⟩
          refine Redd.snoc hr (fun p d q => ?_)
          have q' : (a :: m) ++ [b] = p ++ [d] := q
          have := List.append_inj' q' rfl
          simp at this
          rw [invc_invc, ← this.2]; exact h2
        rw [red_self hR, coreW_wrap]

theorem red_ltr {l : List UInt8} (h : Ltr l) : Ltr (red l) := by
  have h1 := run_mem (p := fun c => decide (0 ≤ idx c)) l [] rfl (by rw [List.all_eq_true]; intro c hc; simpa using h c hc)
  intro c hc
  have : c ∈ run [] l := by
    have : c ∈ (run [] l).reverse := hc
    simpa using this
  simpa using List.all_eq_true.1 h1 c this

/-- A CONJUGATE HAS THE SAME FORM. -/
theorem form_conj (x u : List UInt8) (hu : Ltr u) (hx : Ltr x) : formW (x ++ u ++ invW x) = formW u := by
  induction x with
  | nil => simp [invW]
  | cons c x ih =>
    have hx' : Ltr x := fun d hd => hx d (List.mem_cons_of_mem _ hd)
    have ih' := ih hx'
    have e : c :: x ++ u ++ invW (c :: x) = c :: ((x ++ u ++ invW x) ++ [invc c]) := by rw [invW_cons]; simp
    have hl : Ltr (x ++ u ++ invW x) := by
      intro d hd
      simp only [List.mem_append] at hd
      rcases hd with (hd | hd) | hd
      · exact hx' d hd
      · exact hu d hd
      · unfold invW at hd
        simp only [List.mem_reverse, List.mem_map] at hd
        obtain ⟨y, hy, rfl⟩ := hd
        have h0 := hx' y hy
        have hi := invc_idx y h0
        have hb := idx_bound y
        rw [hi]; split <;> omega
    rw [e, ← ih', formW_K, formW_K]
    have hs := form_step (red (x ++ u ++ invW x)) (redd_red _) (red_ltr hl) c
    have er : red (c :: (red (x ++ u ++ invW x) ++ [invc c])) = red (c :: ((x ++ u ++ invW x) ++ [invc c])) := by
      show red ([c] ++ (red (x ++ u ++ invW x) ++ [invc c])) = red ([c] ++ ((x ++ u ++ invW x) ++ [invc c]))
      rw [← red_app_red [c] (red (x ++ u ++ invW x) ++ [invc c]), red_red_app, red_app_red]
    rw [← er]
    exact hs
end Go.Proofs.YtflieikbhgneoaaDoor
