/-
  Our own text, in the proofs of the laws of package word (cayleylaw01). Proved here: words whose roots are alike or inverse commute, and a cyclically reduced word commutes, as a list, with whatever commutes with it, or with its inverse. Conditions: as each says.
-/
import Derived.Test.YtflieikbhgneoaaDoorLi
import Derived.Test.YtflieikbhgneoaaDoorLd
namespace Go.Proofs.YtflieikbhgneoaaDoor
open Lib (repeatL repeatL_add repeatL_one repeatL_nil repeatL_take repeatL_length)

theorem red_cut (a b w : List UInt8) : red (a ++ (w ++ (invW w ++ b))) = red (a ++ b) := by
  rw [← List.append_assoc w, ← List.append_assoc a, ← red3, red_inv]
  have := red3 a [] b
  rw [List.append_nil] at this
  exact this
theorem red_cut' (a b w : List UInt8) : red (a ++ (invW w ++ (w ++ b))) = red (a ++ b) := by
  have := red_cut a b (invW w)
  rwa [invW_invW] at this

/-- No core: trivial. -/
theorem core_nil {l : List UInt8} : coreW (red l) = [] ↔ red l = [] := by
  constructor
  · intro h
    have e := split_eq _ (red l) (Nat.le_refl _)
    rw [h, List.append_nil] at e
    have := red_inv (conjW (red l))
    rw [e, red_red] at this
    exact this
  · intro h; rw [h]; rfl

theorem rep_conj (D p : List UInt8) : ∀ n, red (repeatL (D ++ p ++ invW D) n) = red (D ++ repeatL p n ++ invW D)
  | 0 => by
    show red [] = red (D ++ [] ++ invW D)
    rw [List.append_nil, red_inv]; rfl
  | n + 1 => by
    show red ((D ++ p ++ invW D) ++ repeatL (D ++ p ++ invW D) n) = red (D ++ (p ++ repeatL p n) ++ invW D)
    rw [← red_app_red, rep_conj D p n, red_app_red]
    have e : (D ++ p ++ invW D) ++ (D ++ repeatL p n ++ invW D) = (D ++ p) ++ (invW D ++ (D ++ (repeatL p n ++ invW D))) := by simp
    rw [e, red_cut']
    simp

/-- A word is the power of its root. -/
theorem root_pow (l : List UInt8) : red (repeatL (rootW l) (rootN l)) = red l := by
  unfold rootW rootN
  by_cases h : coreW (red l) = []
  · rw [if_pos h, if_pos h, core_nil.1 h]; rfl
  · rw [if_neg h, if_neg h, rep_conj, ← (prim_root h).2.1, split_eq _ _ (Nat.le_refl _), red_red]

theorem red_rep_comm (r : List UInt8) (m n : Nat) : red (repeatL r m ++ repeatL r n) = red (repeatL r n ++ repeatL r m) := by
  rw [← repeatL_add, ← repeatL_add, Nat.add_comm]
theorem red_congr {a a' b b' : List UInt8} (h : red a = red a') (g : red b = red b') : red (a ++ b) = red (a' ++ b') := by
  rw [← red_red_app, ← red_app_red, h, g, red_app_red, red_red_app]
theorem red_inv_comm {a b : List UInt8} (h : red (a ++ b) = red (b ++ a)) : red (invW a ++ b) = red (b ++ invW a) := by
  have e1 : red (invW a ++ b) = red (invW a ++ (b ++ (a ++ invW a))) := by
    have := red_cut (invW a ++ b) [] a
    rw [List.append_nil, List.append_nil] at this
    rw [← this]; simp
  have e2 : red (invW a ++ (b ++ (a ++ invW a))) = red (invW a ++ ((a ++ b) ++ invW a)) := by
    rw [← List.append_assoc b]
    exact red_congr rfl (red_congr h.symm rfl)
  rw [e1, e2, List.append_assoc]
  exact red_cut' [] (b ++ invW a) a

theorem invW_rep (r : List UInt8) : ∀ n, invW (repeatL r n) = repeatL (invW r) n
  | 0 => rfl
  | n + 1 => by
    have h : repeatL r (n + 1) = repeatL r n ++ r := by rw [repeatL_add, repeatL_one]
    rw [h, invW_app, invW_rep r n]; rfl

theorem rootW_nil {l : List UInt8} : rootW l = [] ↔ red l = [] := by
  unfold rootW
  by_cases h : coreW (red l) = []
  · rw [if_pos h]; exact ⟨fun _ => core_nil.1 h, fun _ => rfl⟩
  · rw [if_neg h]
    constructor
    · intro e
      have hp := (prim_root h).1.1
      simp only [List.append_eq_nil_iff] at e
      exact absurd e.1.2 hp
    · intro e; exact absurd (core_nil.2 e) h

/-- THE EASY HALF: alike or inverse roots. -/
theorem comm_of_roots {u v : List UInt8} (h : rootW u = [] ∨ rootW v = [] ∨ rootW u = rootW v ∨ rootW u = invW (rootW v)) : red (u ++ v) = red (v ++ u) := by
  have hu := root_pow u
  have hv := root_pow v
  rcases h with h | h | h | h
  · have e := rootW_nil.1 h
    have e' : red u = red [] := e
    rw [red_congr e' rfl, red_congr (b := u) rfl e']; simp
  · have e := rootW_nil.1 h
    have e' : red v = red [] := e
    rw [red_congr e' rfl, red_congr (b := v) rfl e']; simp
  · rw [h] at hu
    rw [red_congr hu.symm hv.symm, red_congr hv.symm hu.symm]
    exact red_rep_comm _ _ _
  · rw [h, ← invW_rep] at hu
    rw [red_congr hu.symm hv.symm, red_congr hv.symm hu.symm]
    exact red_inv_comm (red_rep_comm _ _ _)

/-- THE HARD HALF's HEART. -/
theorem red_join {m n : List UInt8} {x y : UInt8} (hm : Redd (m ++ [x])) (hn : Redd (y :: n)) (h : x ≠ invc y) : Redd (m ++ [x] ++ (y :: n)) := by
  induction m with
  | nil => exact ⟨h, hn⟩
  | cons a m ih =>
    cases m with
    | nil => exact ⟨hm.1, ih hm.2⟩
    | cons b m => exact ⟨hm.1, ih hm.2⟩
theorem red_short (m n : List UInt8) (x y : UInt8) (h : x = invc y) : (red (m ++ [x] ++ (y :: n))).length ≤ m.length + n.length := by
  have e : m ++ [x] ++ (y :: n) = m ++ x :: invc x :: n := by rw [h, invc_invc]; simp
  rw [e, red_pair]
  have := red_len (m ++ n)
  simpa using this
theorem join_of_comm {k v : List UInt8} (hk : Redd k) (hv : Redd v) (hc : red (k ++ v) = red (v ++ k)) (hj : Redd (k ++ v)) (hkn : k ≠ []) (hvn : v ≠ []) : k ++ v = v ++ k := by
  have hl : (red (v ++ k)).length = (v ++ k).length := by rw [← hc, red_self hj]; simp; omega
  have := red_same hl
  rw [← red_self hj, hc, this]
theorem inv_ends {k m : List UInt8} {b : UInt8} (h : k = m ++ [b]) : invW k = invc b :: invW m := by rw [h, invW_app]; rfl
theorem redd_inv {l : List UInt8} (h : Redd l) : Redd (invW l) := by
  have : ∀ l : List UInt8, Redd l → Redd (l.map invc) := by
    intro l
    induction l with
    | nil => intro _; trivial
    | cons a l ih =>
      intro h
      cases l with
      | nil => trivial
      | cons b l => exact ⟨fun e => h.1 (by have := congrArg invc e; rwa [invc_invc, invc_invc] at this), ih h.2⟩
  exact (this l h).rev

theorem ne_self (x : UInt8) : x ≠ invc x := by
  have h : ∀ n : Nat, n < 256 → UInt8.ofNat n ≠ invc (UInt8.ofNat n) := by decide +kernel
  have := h x.toNat x.toNat_lt
  simpa using this

/-- What commutes with a cyclically reduced word commutes with it, or with its inverse, as a list. -/
theorem comm_lists {k v : List UInt8} (hk : Redd k) (hv : Redd v) (hkn : k ≠ []) (hvn : v ≠ []) (hcyc : ∀ a m b, k = a :: (m ++ [b]) → a ≠ invc b) (hc : red (k ++ v) = red (v ++ k)) :
    k ++ v = v ++ k ∨ invW k ++ v = v ++ invW k := by
  obtain ⟨mk, b, hkb⟩ : ∃ m b, k = m ++ [b] := ⟨k.dropLast, k.getLast hkn, (List.dropLast_concat_getLast hkn).symm⟩
  obtain ⟨a, nk, hka⟩ : ∃ a n, k = a :: n := by cases k with | nil => exact absurd rfl hkn | cons a n => exact ⟨a, n, rfl⟩
  obtain ⟨f, nv, hvf⟩ : ∃ f n, v = f :: n := by cases v with | nil => exact absurd rfl hvn | cons a n => exact ⟨a, n, rfl⟩
  have hab : a ≠ invc b := by
    rcases ends k with e | ⟨x, e⟩ | ⟨x, m, y, e⟩
    · exact absurd e hkn
    · rw [e] at hka hkb
      simp at hka
      have := List.append_inj' (show [] ++ [x] = mk ++ [b] from hkb) rfl
      simp at this
      rw [← hka.1, ← this.2]
      exact ne_self x
    · have := hcyc x m y e
      rw [e] at hka hkb
      simp only [List.cons.injEq] at hka
      have q := List.append_inj' (show (x :: m) ++ [y] = mk ++ [b] from hkb) rfl
      simp at q
      rw [← hka.1, ← q.2]; exact this
  by_cases h : b = invc f
  · right
    have hi := inv_ends hkb
    have hfa : invc a ≠ invc f := fun e => hab (by
      have := congrArg invc e
      rw [invc_invc, invc_invc] at this
      rw [this, h, invc_invc])
    have hia : invW k = invW nk ++ [invc a] := by rw [hka, invW_cons]
    have hj : Redd (invW k ++ v) := by
      rw [hia, hvf]
      exact red_join (by rw [← hia]; exact redd_inv hk) (by rw [← hvf]; exact hv) hfa
    exact join_of_comm (redd_inv hk) hv (red_inv_comm hc) hj (by rw [hi]; simp) hvn
  · left
    have hj : Redd (k ++ v) := by
      rw [hkb, hvf]
      exact red_join (by rw [← hkb]; exact hk) (by rw [← hvf]; exact hv) h
    exact join_of_comm hk hv hc hj hkn hvn
end Go.Proofs.YtflieikbhgneoaaDoor
