/-
  Our own text, in the proofs of the laws of package word (cayleylaw01). Proved here: primitive roots of lists, and that a list that commutes with another, as lists, is a power of its primitive root. Conditions: the other list is not empty.
-/
import Derived.Test.YtflieikbhgneoaaDoorLh
namespace Go.Proofs.YtflieikbhgneoaaDoor
open Lib (repeatL repeatL_add repeatL_one repeatL_nil repeatL_take repeatL_length)

theorem rep_getD (p : List UInt8) : ∀ m i, i < m * p.length → (repeatL p m).getD i 0 = cyc p i
  | 0, i, h => by simp at h
  | m + 1, i, h => by
    show (p ++ repeatL p m).getD i 0 = _
    rw [Nat.succ_mul] at h
    by_cases hi : i < p.length
    · rw [cyc_lt hi]; simp [List.getD, List.getElem?_append_left hi]
    · have := rep_getD p m (i - p.length) (by omega)
      have e : (p ++ repeatL p m).getD i 0 = (repeatL p m).getD (i - p.length) 0 := by
        simp [List.getD, List.getElem?_append_right (show p.length ≤ i by omega)]
      rw [e, this]
      have := per_len p (i - p.length)
      rw [show i - p.length + p.length = i by omega] at this
      exact this.symm
theorem cyc_mod (p : List UInt8) (q n : Nat) (hn : n % p.length = 0) : cyc p (q % n) = cyc p q := by
  have h1 := Nat.mod_add_div q n
  have h2 : n * (q / n) = (n / p.length * (q / n)) * p.length := by
    have := Nat.div_add_mod n p.length
    rw [hn, Nat.add_zero] at this
    generalize q / n = c
    generalize n / p.length = m at *
    rw [← this, Nat.mul_assoc, Nat.mul_comm]
  have h3 := (per_len p).mul (n / p.length * (q / n)) (q % n)
  rw [← h3, ← h2, h1]
theorem cyc_rep (p : List UInt8) (hp : p ≠ []) (j : Nat) (hj : 1 ≤ j) (q : Nat) : cyc (repeatL p j) q = cyc p q := by
  have hl := List.length_pos_iff.2 hp
  have hpos : 0 < j * p.length := Nat.mul_pos hj hl
  show (repeatL p j).getD (q % (repeatL p j).length) 0 = _
  rw [repeatL_length, rep_getD p j _ (Nat.mod_lt _ hpos), cyc_mod p q _ (Nat.mul_mod_left _ _)]
theorem rep_of_per {l : List UInt8} {k : Nat} (h : IsPer l k) : l = repeatL (l.take k) (l.length / k) := by
  have hk := h.pos
  have hle := h.le
  have htk : (l.take k).length = k := by rw [List.length_take]; omega
  have hd : l.length / k * k = l.length := by
    have := Nat.div_add_mod l.length k
    rw [h.dvd, Nat.add_zero, Nat.mul_comm] at this
    exact this
  apply ext_getD (by rw [repeatL_length, htk, hd])
  intro i hi
  rw [rep_getD _ _ _ (by rw [htk, hd]; exact hi)]
  have hm := Nat.mod_lt i (show 0 < k by omega)
  have e1 : cyc (l.take k) i = l.getD (i % k) 0 := by
    unfold cyc
    rw [htk]
    simp [List.getD, List.getElem?_take, hm]
  have e2 := h.per.mul (i / k) (i % k)
  have h1 := Nat.mod_add_div i k
  have h2 : k * (i / k) = i / k * k := Nat.mul_comm _ _
  rw [show i % k + i / k * k = i by omega, cyc_lt hi, cyc_lt (by omega)] at e2
  rw [e1, e2]

/-- A list without a smaller period. -/
def Prim (p : List UInt8) : Prop := p ≠ [] ∧ perN p = p.length
theorem prim_rep {p : List UInt8} (h : Prim p) (j : Nat) (hj : 1 ≤ j) : perN (repeatL p j) = p.length := by
  have hl := List.length_pos_iff.2 h.1
  have hlen := repeatL_length p j
  have hne : repeatL p j ≠ [] := by
    intro e
    rw [e] at hlen
    have : 0 < j * p.length := Nat.mul_pos hj hl
    simp at hlen; omega
  obtain ⟨h1, h2⟩ := perN_is hne
  have hP : Per p (perN (repeatL p j)) := fun q => by rw [← cyc_rep p h.1 j hj, ← cyc_rep p h.1 j hj]; exact h1.per q
  have hg := hP.gcd (per_len p)
  have hgd : Nat.gcd (perN (repeatL p j)) p.length ∣ p.length := Nat.gcd_dvd_right _ _
  have hgp : 0 < Nat.gcd (perN (repeatL p j)) p.length := Nat.gcd_pos_of_pos_right _ hl
  have hge := (perN_is h.1).2 _ ⟨hgp, Nat.le_of_dvd hl hgd, Nat.mod_eq_zero_of_dvd hgd, hg⟩
  rw [h.2] at hge
  have hgl : Nat.gcd (perN (repeatL p j)) p.length ≤ perN (repeatL p j) := Nat.le_of_dvd (by have := h1.pos; omega) (Nat.gcd_dvd_left _ _)
  have hle := h2 p.length ⟨hl, by rw [hlen]; exact Nat.le_mul_of_pos_left _ hj, by rw [hlen]; exact Nat.mul_mod_left _ _, fun q => by rw [cyc_rep p h.1 j hj, cyc_rep p h.1 j hj]; exact per_len p q⟩
  omega
theorem prim_root {l : List UInt8} (hl : l ≠ []) : Prim (l.take (perN l)) ∧ l = repeatL (l.take (perN l)) (l.length / perN l) ∧ 1 ≤ l.length / perN l := by
  obtain ⟨h1, h2⟩ := perN_is hl
  have hp := h1.pos
  have hle := h1.le
  have htk : (l.take (perN l)).length = perN l := by rw [List.length_take]; omega
  have hr := rep_of_per h1
  have hd : 1 ≤ l.length / perN l := Nat.div_pos hle (by omega)
  have hne : l.take (perN l) ≠ [] := by intro e; rw [e] at htk; simp at htk; omega
  refine ⟨⟨hne, ?_⟩, hr, hd⟩
  rw [htk]
  obtain ⟨g1, g2⟩ := perN_is hne
  have gle := g1.le
  rw [htk] at gle
  have gdv := g1.dvd
  rw [htk] at gdv
  have hP : Per l (perN (l.take (perN l))) := fun q => by
    have e := cyc_rep _ hne _ hd
    rw [← hr] at e
    rw [e, e]; exact g1.per q
  have hdv : perN (l.take (perN l)) ∣ l.length := Nat.dvd_trans (Nat.dvd_of_mod_eq_zero gdv) (Nat.dvd_of_mod_eq_zero h1.dvd)
  have := h2 _ ⟨g1.pos, by omega, Nat.mod_eq_zero_of_dvd hdv, hP⟩
  omega

theorem rep_rep (p : List UInt8) (r : Nat) : ∀ s, repeatL (repeatL p r) s = repeatL p (s * r)
  | 0 => by simp [repeatL]
  | s + 1 => by
    show repeatL p r ++ repeatL (repeatL p r) s = _
    rw [rep_rep p r s, ← repeatL_add]
    congr 1; rw [Nat.succ_mul]; omega

/-- Lists that commute. -/
theorem comm_rep {a b : List UInt8} (ha : a ≠ []) (h : a ++ b = b ++ a) : ∃ j, b = repeatL (a.take (perN a)) j := by
  have hal := List.length_pos_iff.2 ha
  obtain ⟨w, hw⟩ : ∃ w, w = a ++ b := ⟨_, rfl⟩
  have hwl : w.length = a.length + b.length := by rw [hw, List.length_append]
  have hrot : rotK w a.length = w := by
    unfold rotK
    rw [hw]; simp; exact h.symm
  have hPa : Per w (w.length - a.length) := (rot_per (k := w.length - a.length) (by omega)).1 (by rw [rotL_K, show w.length - (w.length - a.length) = a.length by omega]; exact hrot)
  have hg := hPa.gcd (per_len w)
  rw [hwl, show a.length + b.length - a.length = b.length by omega, ← hwl] at hg
  obtain ⟨g, hgdef⟩ : ∃ g, g = Nat.gcd b.length w.length := ⟨_, rfl⟩
  rw [← hgdef] at hg
  have gb : g ∣ b.length := hgdef ▸ Nat.gcd_dvd_left _ _
  have gw : g ∣ w.length := hgdef ▸ Nat.gcd_dvd_right _ _
  have ga : g ∣ a.length := by
    have := Nat.dvd_sub gw gb
    rwa [hwl, Nat.add_sub_cancel] at this
  have gpos : 0 < g := by rw [hgdef]; exact Nat.gcd_pos_of_pos_right _ (by omega)
  have gle : g ≤ a.length := Nat.le_of_dvd hal ga
  have hrep := rep_of_per (l := w) (k := g) ⟨gpos, by omega, Nat.mod_eq_zero_of_dvd gw, hg⟩
  obtain ⟨t, ht⟩ : ∃ t, t = w.take g := ⟨_, rfl⟩
  rw [← ht] at hrep
  have htl : t.length = g := by rw [ht, List.length_take]; omega
  have htn : t ≠ [] := by intro e; rw [e] at htl; simp at htl; omega
  obtain ⟨sa, hsa⟩ := ga
  obtain ⟨sb, hsb⟩ := gb
  have hdiv : w.length / g = sa + sb := by rw [hwl, hsa, hsb, ← Nat.mul_add, Nat.mul_div_cancel_left _ gpos]
  rw [hdiv] at hrep
  have e1 : a = repeatL t sa := by
    have := repeatL_take t (sa + sb) sa (by omega)
    rw [← hrep, htl, Nat.mul_comm, ← hsa, hw] at this
    simpa using this
  have e2 : b = repeatL t sb := by
    have : a ++ b = repeatL t sa ++ repeatL t sb := by rw [← repeatL_add, ← hrep, hw]
    rw [← e1] at this
    exact List.append_cancel_left this
  obtain ⟨p1, p2, p3⟩ := prim_root htn
  obtain ⟨p, hp⟩ : ∃ p, p = t.take (perN t) := ⟨_, rfl⟩
  rw [← hp] at p1 p2
  have hsa1 : 1 ≤ sa := by
    refine Nat.pos_of_ne_zero fun e => ?_
    rw [e, Nat.mul_zero] at hsa; omega
  have ea : a = repeatL p (sa * (t.length / perN t)) := by rw [e1]; conv => lhs; rw [p2]; rw [rep_rep]
  have hper : perN a = p.length := by rw [ea]; exact prim_rep p1 _ (Nat.mul_pos hsa1 p3)
  have htake : a.take (perN a) = p := by
    rw [hper]
    conv => lhs; rw [ea]
    have := repeatL_take p (sa * (t.length / perN t)) 1 (Nat.mul_pos hsa1 p3)
    rwa [Nat.one_mul, repeatL_one] at this
  refine ⟨sb * (t.length / perN t), ?_⟩
  rw [htake, e2]
  conv => lhs; rw [p2]
  rw [rep_rep]
end Go.Proofs.YtflieikbhgneoaaDoor
