/-
  Our own text, in the proofs of the laws of package word (cayleylaw01). Proved here: two words commute up to free reduction exactly if one root is empty, or the roots are alike or inverse. Conditions: none.
-/
import Derived.Test.YtflieikbhgneoaaDoorLj
namespace Go.Proofs.YtflieikbhgneoaaDoor
open Lib (repeatL repeatL_add repeatL_one repeatL_nil repeatL_take repeatL_length)

theorem isPer_rep {t : List UInt8} (ht : t ≠ []) (m : Nat) (hm : 1 ≤ m) : IsPer (repeatL t m) t.length := by
  have hl := List.length_pos_iff.2 ht
  have hlen := repeatL_length t m
  exact ⟨hl, by rw [hlen]; exact Nat.le_mul_of_pos_left _ hm, by rw [hlen]; exact Nat.mul_mod_left _ _, fun q => by rw [cyc_rep t ht m hm, cyc_rep t ht m hm]; exact per_len t q⟩
theorem invW_ne {l : List UInt8} (h : l ≠ []) : invW l ≠ [] := fun e => h (by have := congrArg invW e; rwa [invW_invW] at this)
theorem perN_inv_le {l : List UInt8} (h : l ≠ []) : perN (invW l) ≤ perN l := by
  obtain ⟨p1, p2, p3⟩ := prim_root h
  have hp := invW_ne p1.1
  have := isPer_rep hp (l.length / perN l) p3
  rw [← invW_rep, ← p2, invW_len] at this
  have h2 := (perN_is (invW_ne h)).2 _ this
  have h1 := (perN_is h).1.le
  rw [List.length_take] at h2
  omega
theorem prim_inv {p : List UInt8} (h : Prim p) : Prim (invW p) := by
  have h1 := perN_inv_le h.1
  have h2 := perN_inv_le (invW_ne h.1)
  rw [invW_invW] at h2
  exact ⟨invW_ne h.1, by rw [invW_len, ← h.2]; omega⟩

theorem conjW_self {l : List UInt8} (h : ∀ a m b, l = a :: (m ++ [b]) → a ≠ invc b) : conjW l = [] := by unfold conjW; rw [coreN_self h]; rfl
theorem wrap_eq (c : UInt8) (D X : List UInt8) : (c :: D) ++ X ++ invW (c :: D) = c :: ((D ++ X ++ invW D) ++ [invc c]) := by rw [invW_cons]; simp
theorem core_wraps (D X : List UInt8) : coreW (D ++ X ++ invW D) = coreW X := by
  induction D with
  | nil => simp [invW]
  | cons c D ih => rw [wrap_eq, coreW_wrap, ih]
theorem conj_wraps (D X : List UInt8) : conjW (D ++ X ++ invW D) = D ++ conjW X := by
  induction D with
  | nil => simp [invW]
  | cons c D ih => rw [wrap_eq, conjW_wrap, ih]; rfl

/-- The core is cyclically reduced. -/
theorem core_cyc : ∀ (n : Nat) (l : List UInt8), l.length ≤ n → ∀ a m b, coreW l = a :: (m ++ [b]) → a ≠ invc b := by
  intro n
  induction n with
  | zero =>
    intro l h
    have : l = [] := List.eq_nil_of_length_eq_zero (by omega)
    subst this
    intro a m b e
    have : coreW ([] : List UInt8) = [] := rfl
    rw [this] at e; simp at e
  | succ n ih =>
    intro l h
    by_cases hw : ∀ a m b, l = a :: (m ++ [b]) → a ≠ invc b
    · rw [coreW_self hw]; exact hw
    · have : ∃ a m b, l = a :: (m ++ [b]) ∧ a = invc b := by
        refine Classical.byContradiction fun hn => hw fun a m b e1 e2 => hn ⟨a, m, b, e1, e2⟩
      obtain ⟨a, m, b, rfl, rfl⟩ := this
      have e : invc b :: (m ++ [b]) = invc b :: (m ++ [invc (invc b)]) := by rw [invc_invc]
      rw [e, coreW_wrap]
      exact ih m (by simp at h; omega)

/-- First and last letters. -/
def Fst (l : List UInt8) (y : UInt8) : Prop := ∃ n, l = y :: n
def Lst (l : List UInt8) (x : UInt8) : Prop := ∃ m, l = m ++ [x]
theorem fst_ex {l : List UInt8} (h : l ≠ []) : ∃ y, Fst l y := by cases l with | nil => exact absurd rfl h | cons a n => exact ⟨a, n, rfl⟩
theorem lst_ex {l : List UInt8} (h : l ≠ []) : ∃ x, Lst l x := ⟨l.getLast h, l.dropLast, (List.dropLast_concat_getLast h).symm⟩
theorem Lst.uniq {l : List UInt8} {x y : UInt8} (h : Lst l x) (k : Lst l y) : x = y := by
  obtain ⟨m, rfl⟩ := h
  obtain ⟨n, e⟩ := k
  have := List.append_inj' e rfl
  simpa using this.2
theorem Fst.uniq {l : List UInt8} {x y : UInt8} (h : Fst l x) (k : Fst l y) : x = y := by
  obtain ⟨m, rfl⟩ := h
  obtain ⟨n, e⟩ := k
  simp at e; exact e.1
theorem Lst.inv {l : List UInt8} {x : UInt8} (h : Lst l x) : Fst (invW l) (invc x) := by obtain ⟨m, e⟩ := h; exact ⟨invW m, inv_ends e⟩
theorem Fst.inv {l : List UInt8} {y : UInt8} (h : Fst l y) : Lst (invW l) (invc y) := by obtain ⟨n, rfl⟩ := h; exact ⟨invW n, invW_cons y n⟩
theorem Lst.app {a b : List UInt8} {x : UInt8} (h : Lst b x) : Lst (a ++ b) x := by obtain ⟨m, rfl⟩ := h; exact ⟨a ++ m, by simp⟩
theorem Fst.app {a b : List UInt8} {y : UInt8} (h : Fst a y) : Fst (a ++ b) y := by obtain ⟨n, rfl⟩ := h; exact ⟨n ++ b, by simp⟩
theorem Fst.rep {p : List UInt8} {y : UInt8} (h : Fst p y) (j : Nat) (hj : 1 ≤ j) : Fst (repeatL p j) y := by
  obtain ⟨i, rfl⟩ : ∃ i, j = i + 1 := ⟨j - 1, by omega⟩
  exact h.app
theorem Lst.rep {p : List UInt8} {x : UInt8} (h : Lst p x) (j : Nat) (hj : 1 ≤ j) : Lst (repeatL p j) x := by
  obtain ⟨i, rfl⟩ : ∃ i, j = i + 1 := ⟨j - 1, by omega⟩
  rw [repeatL_add, repeatL_one]; exact h.app
theorem redd_app {a b : List UInt8} (ha : Redd a) (hb : Redd b) (h : ∀ x y, Lst a x → Fst b y → x ≠ invc y) : Redd (a ++ b) := by
  by_cases ea : a = []
  · subst ea; exact hb
  by_cases eb : b = []
  · subst eb; simpa using ha
  obtain ⟨x, hx⟩ := lst_ex ea
  obtain ⟨y, hy⟩ := fst_ex eb
  have := h x y hx hy
  obtain ⟨m, rfl⟩ := hx
  obtain ⟨n, rfl⟩ := hy
  exact red_join ha hb this
theorem redd_at {a b : List UInt8} (h : Redd (a ++ b)) {x y : UInt8} (hx : Lst a x) (hy : Fst b y) : x ≠ invc y := by
  obtain ⟨m, rfl⟩ := hx
  obtain ⟨n, rfl⟩ := hy
  have e : m ++ [x] ++ y :: n = (m ++ [x] ++ [y]) ++ n := by simp
  rw [e] at h
  exact h.prefixL.last
theorem cyc_ends {k : List UInt8} (hcyc : ∀ a m b, k = a :: (m ++ [b]) → a ≠ invc b) {y x : UInt8} (hy : Fst k y) (hx : Lst k x) : y ≠ invc x := by
  rcases ends k with e | ⟨z, e⟩ | ⟨a, m, b, e⟩
  · obtain ⟨n, e'⟩ := hy; rw [e] at e'; simp at e'
  · have h1 := hy.uniq (show Fst k z from ⟨[], e⟩)
    have h2 := hx.uniq (show Lst k z from ⟨[], e⟩)
    rw [h1, h2]; exact ne_self z
  · have h1 := hy.uniq (show Fst k a from ⟨m ++ [b], e⟩)
    have h2 := hx.uniq (show Lst k b from ⟨a :: m, e⟩)
    rw [h1, h2]; exact hcyc a m b e
theorem ends_cyc {k : List UInt8} {y x : UInt8} (hy : Fst k y) (hx : Lst k x) (h : y ≠ invc x) : ∀ a m b, k = a :: (m ++ [b]) → a ≠ invc b := by
  intro a m b e
  rw [(show Fst k a from ⟨m ++ [b], e⟩).uniq hy, (show Lst k b from ⟨a :: m, e⟩).uniq hx]
  exact h

theorem redd_rep {p : List UInt8} (hp : Redd p) {y x : UInt8} (hy : Fst p y) (hx : Lst p x) (h : y ≠ invc x) : ∀ j, Redd (repeatL p j)
  | 0 => trivial
  | j + 1 => by
    refine redd_app hp (redd_rep hp hy hx h j) (fun x' y' h1 h2 => ?_)
    have e1 := h1.uniq hx
    subst e1
    cases j with
    | zero => obtain ⟨n, e⟩ := h2; simp [repeatL] at e
    | succ j =>
      have e2 := h2.uniq (hy.rep (j + 1) (by omega))
      subst e2
      exact ne_invc h
/-- A wrapped word is reduced. -/
theorem redd_wrap {D X : List UInt8} (hD : Redd D) (hX : Redd X) {y x : UInt8} (hy : Fst X y) (hx : Lst X x) (h : ∀ d, Lst D d → d ≠ invc y ∧ x ≠ d) : Redd (D ++ X ++ invW D) := by
  refine redd_app (redd_app hD hX fun d y' h1 h2 => ?_) (redd_inv hD) (fun x' d' h1 h2 => ?_)
  · rw [h2.uniq hy]; exact (h d h1).1
  · rw [h1.uniq hx.app]
    by_cases e : D = []
    · subst e; obtain ⟨n, e⟩ := h2; simp [invW] at e
    · obtain ⟨d, hd⟩ := lst_ex e
      rw [h2.uniq hd.inv, invc_invc]; exact (h d hd).2
theorem wrap_ends {D X : List UInt8} (h : Redd (D ++ X ++ invW D)) {y x : UInt8} (hy : Fst X y) (hx : Lst X x) {d : UInt8} (hd : Lst D d) : d ≠ invc y ∧ x ≠ d := by
  refine ⟨redd_at h.prefixL hd hy, ?_⟩
  have := redd_at h (x := x) hx.app hd.inv
  rwa [invc_invc] at this

/-- THE HARD HALF. -/
theorem roots_of_comm {u v : List UInt8} (hc : red (u ++ v) = red (v ++ u)) : rootW u = [] ∨ rootW v = [] ∨ rootW u = rootW v ∨ rootW u = invW (rootW v) := by
  by_cases hu : rootW u = []
  · exact .inl hu
  by_cases hv : rootW v = []
  · exact .inr (.inl hv)
  right; right
  have hru : red u ≠ [] := fun e => hu (rootW_nil.2 e)
  have hrv : red v ≠ [] := fun e => hv (rootW_nil.2 e)
  have hK : coreW (red u) ≠ [] := fun e => hru (core_nil.1 e)
  have es := split_eq _ (red u) (Nat.le_refl _)
  have hcyc := core_cyc _ (red u) (Nat.le_refl _)
  obtain ⟨p1, p2, p3⟩ := prim_root hK
  have hroot : rootW u = conjW (red u) ++ (coreW (red u)).take (perN (coreW (red u))) ++ invW (conjW (red u)) := by unfold rootW; rw [if_neg hK]
  obtain ⟨D, hD⟩ : ∃ D, D = conjW (red u) := ⟨_, rfl⟩
  obtain ⟨K, hKe⟩ : ∃ K, K = coreW (red u) := ⟨_, rfl⟩
  rw [← hD, ← hKe] at es hroot
  rw [← hKe] at p1 p2 p3 hK hcyc
  obtain ⟨p, hp⟩ : ∃ p, p = K.take (perN K) := ⟨_, rfl⟩
  rw [← hp] at p1 p2 hroot
  have hRu : Redd (D ++ K ++ invW D) := by rw [es]; exact redd_red u
  have hRD : Redd D := hRu.prefixL.prefixL
  have hRK : Redd K := hRu.prefixL.suffix
  obtain ⟨y, hy⟩ := fst_ex p1.1
  obtain ⟨x, hx⟩ := lst_ex p1.1
  have hyK : Fst K y := by rw [p2]; exact hy.rep _ p3
  have hxK : Lst K x := by rw [p2]; exact hx.rep _ p3
  have hyx := cyc_ends hcyc hyK hxK
  have hRp : Redd p := by rw [hp]; exact Redd.prefixL (q := K.drop (perN K)) (by rw [List.take_append_drop]; exact hRK)
  -- the other word, seen from the core
  obtain ⟨V, hV⟩ : ∃ V, V = red (invW D ++ v ++ D) := ⟨_, rfl⟩
  have hRV : Redd V := by rw [hV]; exact redd_red _
  have hDV : red (D ++ V ++ invW D) = red v := by
    rw [hV]
    have e : red (D ++ red (invW D ++ v ++ D) ++ invW D) = red (D ++ (invW D ++ v ++ D) ++ invW D) := by rw [← red_red_app, red_app_red, red_red_app]
    rw [e]
    have e1 : D ++ (invW D ++ v ++ D) ++ invW D = [] ++ (D ++ (invW D ++ (v ++ (D ++ (invW D ++ []))))) := by simp
    rw [e1, red_cut]
    have := red_cut v [] D
    simpa using this
  have hVn : V ≠ [] := by
    intro e
    rw [e, List.append_nil, red_inv] at hDV
    exact hrv hDV.symm
  have hcK : red (K ++ V) = red (V ++ K) := by
    have k1 : red K = red (invW D ++ u ++ D) := by
      have e : red (invW D ++ u ++ D) = red (invW D ++ red u ++ D) := by rw [← red_red_app (invW D ++ red u), red_app_red, red_red_app]
      rw [e, ← es]
      have e1 : invW D ++ (D ++ K ++ invW D) ++ D = [] ++ (invW D ++ (D ++ (K ++ (invW D ++ (D ++ []))))) := by simp
      rw [e1, red_cut']
      have := red_cut' K [] D
      simpa using this.symm
    have k2 : red V = red (invW D ++ v ++ D) := by rw [hV, red_red]
    rw [red_congr k1 k2, red_congr k2 k1]
    have e1 : ∀ a b : List UInt8, red ((invW D ++ a ++ D) ++ (invW D ++ b ++ D)) = red (invW D ++ (a ++ b) ++ D) := by
      intro a b
      have e : (invW D ++ a ++ D) ++ (invW D ++ b ++ D) = (invW D ++ a) ++ (D ++ (invW D ++ (b ++ D))) := by simp
      rw [e, red_cut]; simp
    rw [e1, e1]
    exact red_congr (red_congr rfl hc) rfl
  have fin : ∀ X : List UInt8, Redd X → V = X → ∀ {y' x' : UInt8}, Fst X y' → Lst X x' → y' ≠ invc x' → (∀ d, Lst D d → d ≠ invc y' ∧ x' ≠ d) → rootW v = D ++ X.take (perN X) ++ invW D := by
    intro X hX hVX y' x' hy' hx' hyx' hd
    have hW := redd_wrap hRD hX hy' hx' hd
    have hv' : red v = D ++ X ++ invW D := by rw [← hDV, hVX, red_self hW]
    have hcy := ends_cyc hy' hx' hyx'
    have hXn : X ≠ [] := by rw [← hVX]; exact hVn
    unfold rootW
    rw [hv', core_wraps, conj_wraps, coreW_self hcy, conjW_self hcy, if_neg hXn, List.append_nil]
  rcases comm_lists hRK hRV hK hVn hcyc hcK with h | h
  · left
    obtain ⟨j, hj⟩ := comm_rep hK h
    rw [← hp] at hj
    have hj1 : 1 ≤ j := by
      refine Nat.pos_of_ne_zero fun e => hVn ?_
      rw [hj, e]; rfl
    have := fin (repeatL p j) (redd_rep hRp hy hx hyx j) hj (hy.rep j hj1) (hx.rep j hj1) hyx (fun d hd => wrap_ends hRu hyK hxK hd)
    rw [this, prim_rep p1 j hj1, hroot]
    have ht := repeatL_take p j 1 hj1
    rw [Nat.one_mul, repeatL_one] at ht
    rw [ht]
  · right
    have h' : K ++ invW V = invW V ++ K := by
      have := congrArg invW h
      rw [invW_app, invW_app, invW_invW] at this
      exact this.symm
    obtain ⟨j, hj⟩ := comm_rep hK h'
    rw [← hp] at hj
    have hVe : V = repeatL (invW p) j := by rw [← invW_rep, ← hj, invW_invW]
    have hj1 : 1 ≤ j := by
      refine Nat.pos_of_ne_zero fun e => hVn ?_
      rw [hVe, e]; rfl
    have hpi := prim_inv p1
    have hyx2 : invc x ≠ invc (invc y) := by rw [invc_invc]; exact (fun e => hyx e.symm)
    have := fin (repeatL (invW p) j) (redd_rep (redd_inv hRp) hx.inv hy.inv hyx2 j) hVe (hx.inv.rep j hj1) (hy.inv.rep j hj1) hyx2 (fun d hd => by
      have := wrap_ends hRu hyK hxK hd
      rw [invc_invc]
      exact ⟨fun e => this.2 e.symm, fun e => this.1 e.symm⟩)
    rw [this, prim_rep hpi j hj1, hroot]
    have ht := repeatL_take (invW p) j 1 hj1
    rw [Nat.one_mul, repeatL_one] at ht
    rw [ht, invW_app, invW_app, invW_invW, invW_invW, List.append_assoc]

theorem comm_iff (u v : List UInt8) : red (u ++ v) = red (v ++ u) ↔ (rootW u = [] ∨ rootW v = [] ∨ rootW u = rootW v ∨ rootW u = invW (rootW v)) := ⟨roots_of_comm, comm_of_roots⟩
end Go.Proofs.YtflieikbhgneoaaDoor
