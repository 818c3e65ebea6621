/-
  Our own text, in the proofs of the laws of package disk (cayleylaw04). Proved here: boundaries of products, inverses, conjugates and simplified disks, on lists. Conditions: none.
-/
import Derived.Test.YtbcckfggnlmhoaaAa
namespace Go.Proofs.Ytbcckfggnlmhoaa

/-- The word of a cell, and of a disk, not reduced. -/
def cellW (p : Pr) (c : Cel) : List UInt8 := c.conj ++ relOf p c.rel c.inv ++ invW c.conj
def flat (p : Pr) (d : List Cel) : List UInt8 := d.flatMap (cellW p)
theorem cellR_eq (p : Pr) (r : List UInt8) (c : Cel) : cellR p r c = run r (cellW p c) := by
  unfold cellR cellW run; rw [grun_app, grun_app]
theorem bndR_eq (p : Pr) (d : List Cel) : bndR p d = run [] (flat p d) := by
  have : ∀ (d : List Cel) (r : List UInt8), d.foldl (cellR p) r = run r (flat p d) := by
    intro d
    induction d with
    | nil => intro r; rfl
    | cons c d ih => intro r; rw [List.foldl_cons, ih, cellR_eq]; unfold flat run; rw [List.flatMap_cons, grun_app]
  exact this d []
theorem bnd_eq (p : Pr) (d : List Cel) : bnd p d = red (flat p d) := by unfold bnd; rw [bndR_eq]; rfl
theorem flat_app (p : Pr) (d e : List Cel) : flat p (d ++ e) = flat p d ++ flat p e := List.flatMap_append
theorem bnd_app (p : Pr) (d e : List Cel) : bnd p (d ++ e) = red (bnd p d ++ bnd p e) := by
  rw [bnd_eq, bnd_eq, bnd_eq, flat_app]
  show gred invc _ = gred invc (gred invc _ ++ gred invc _)
  rw [gred_gred_app invc_invc, gred_app_gred invc_invc]

def invC (c : Cel) : Cel := ⟨c.conj, c.rel, !c.inv⟩
theorem invC_invC (c : Cel) : invC (invC c) = c := by cases c; simp [invC]
theorem relOf_not (p : Pr) (i : Int) (b : Bool) : relOf p i (!b) = invW (relOf p i b) := by
  cases b
  · rfl
  · show p.rels.getD i.toNat [] = ginv invc (ginv invc _); rw [ginv_ginv invc_invc]
theorem cellW_inv (p : Pr) (c : Cel) : cellW p (invC c) = invW (cellW p c) := by
  show c.conj ++ relOf p c.rel (!c.inv) ++ invW c.conj = ginv invc (c.conj ++ relOf p c.rel c.inv ++ invW c.conj)
  rw [ginv_app, ginv_app, ginv_ginv invc_invc, relOf_not, List.append_assoc]
theorem flat_inv (p : Pr) (d : List Cel) : flat p (ginv invC d) = invW (flat p d) := by
  induction d with
  | nil => rfl
  | cons c d ih =>
    rw [ginv_cons, flat_app, ih]
    show invW (flat p d) ++ flat p [invC c] = ginv invc (flat p (c :: d))
    have e : flat p (c :: d) = cellW p c ++ flat p d := List.flatMap_cons
    have e2 : flat p [invC c] = cellW p (invC c) := by simp [flat]
    rw [e, e2, ginv_app, cellW_inv]
theorem bnd_inv (p : Pr) (d : List Cel) : bnd p (ginv invC d) = invW (bnd p d) := by
  rw [bnd_eq, bnd_eq, flat_inv]
  show gred invc (ginv invc _) = ginv invc (gred invc _)
  rw [ginv_gred invc_invc]

/-- u in front of each conjugator, reduced. -/
def conC (u : List UInt8) (c : Cel) : Cel := ⟨red (u ++ c.conj), c.rel, c.inv⟩
theorem red_cell (p : Pr) (u : List UInt8) (c : Cel) (a b : List UInt8) : red (a ++ cellW p (conC u c) ++ b) = red (a ++ (u ++ cellW p c ++ invW u) ++ b) := by
  have e1 : cellW p (conC u c) = red (u ++ c.conj) ++ relOf p c.rel c.inv ++ red (invW (u ++ c.conj)) := by
    show red (u ++ c.conj) ++ relOf p c.rel c.inv ++ ginv invc (gred invc (u ++ c.conj)) = _
    rw [ginv_gred invc_invc]
  have h1 : ∀ x y z : List UInt8, gred invc (x ++ gred invc y ++ z) = gred invc (x ++ y ++ z) := gred_mid invc_invc
  rw [e1]
  show gred invc (a ++ (gred invc (u ++ c.conj) ++ relOf p c.rel c.inv ++ gred invc (ginv invc (u ++ c.conj))) ++ b) = gred invc (a ++ (u ++ (c.conj ++ relOf p c.rel c.inv ++ ginv invc c.conj) ++ ginv invc u) ++ b)
  have s1 := h1 a (u ++ c.conj) (relOf p c.rel c.inv ++ gred invc (ginv invc (u ++ c.conj)) ++ b)
  have s2 := h1 (a ++ (u ++ c.conj) ++ relOf p c.rel c.inv) (ginv invc (u ++ c.conj)) b
  simp only [List.append_assoc] at s1 s2 ⊢
  rw [s1, s2, ginv_app]
  simp only [List.append_assoc]
theorem red_flat_con (p : Pr) (u : List UInt8) (d : List Cel) : ∀ a b : List UInt8, red (a ++ flat p (d.map (conC u)) ++ b) = red (a ++ (u ++ flat p d ++ invW u) ++ b) := by
  induction d with
  | nil =>
    intro a b
    show gred invc (a ++ [] ++ b) = gred invc (a ++ (u ++ [] ++ ginv invc u) ++ b)
    rw [List.append_nil, List.append_nil, gred_cut invc_invc]
  | cons c d ih =>
    intro a b
    have e : flat p ((c :: d).map (conC u)) = cellW p (conC u c) ++ flat p (d.map (conC u)) := List.flatMap_cons
    have e2 : flat p (c :: d) = cellW p c ++ flat p d := List.flatMap_cons
    rw [e, e2]
    have h1 := red_cell p u c a (flat p (d.map (conC u)) ++ b)
    have h2 := ih (a ++ (u ++ cellW p c ++ invW u)) b
    have h3 := gred_cut invc_invc (a ++ (u ++ cellW p c)) (ginv invc u) (flat p d ++ invW u ++ b)
    rw [ginv_ginv invc_invc] at h3
    have h3' : red (a ++ (u ++ cellW p c) ++ (invW u ++ u) ++ (flat p d ++ invW u ++ b)) = red (a ++ (u ++ cellW p c) ++ (flat p d ++ invW u ++ b)) := h3
    simp only [List.append_assoc] at h1 h2 h3' ⊢
    rw [h1, h2, h3']
theorem bnd_con (p : Pr) (u : List UInt8) (d : List Cel) : bnd p (d.map (conC u)) = red (u ++ bnd p d ++ invW u) := by
  have := red_flat_con p u d [] []
  simp only [List.nil_append, List.append_nil] at this
  rw [bnd_eq, bnd_eq, this]
  show gred invc _ = gred invc (u ++ gred invc _ ++ ginv invc u)
  rw [gred_mid invc_invc]

/-- Simplify: conjugators reduced, then pairs removed. -/
def redC (c : Cel) : Cel := ⟨red c.conj, c.rel, c.inv⟩
def simp4 (d : List Cel) : List Cel := gred invC (d.map redC)
theorem conC_nil (c : Cel) : conC [] c = redC c := rfl
theorem bnd_redC (p : Pr) (d : List Cel) : bnd p (d.map redC) = bnd p d := by
  have := bnd_con p [] d
  have e : d.map (conC []) = d.map redC := List.map_congr_left fun c _ => conC_nil c
  rw [e] at this
  rw [this]
  show gred invc ([] ++ bnd p d ++ []) = _
  rw [List.nil_append, List.append_nil, bnd_eq]; exact gred_of_red invc_invc _
theorem run_flat_gstp (p : Pr) (r : List Cel) (c : Cel) : red (flat p (gstp invC r c).reverse) = red (flat p (r.reverse ++ [c])) := by
  cases r with
  | nil => rfl
  | cons x t =>
    rw [gstp_cons]; split
    · rename_i hx
      subst hx
      rw [List.reverse_cons, List.append_assoc, flat_app]
      have e : flat p ([invC c] ++ [c]) = invW (cellW p c) ++ cellW p c := by simp [flat, cellW_inv]
      rw [e]
      have h := gred_cut invc_invc (flat p t.reverse) (ginv invc (cellW p c)) []
      rw [ginv_ginv invc_invc] at h
      simpa using h.symm
    · rw [List.reverse_cons, List.reverse_cons]
theorem red_app_left {a b : List UInt8} (c : List UInt8) (h : red a = red b) : red (a ++ c) = red (b ++ c) := by
  have h1 := gred_gred_app invc_invc a c
  have h2 := gred_gred_app invc_invc b c
  show gred invc _ = gred invc _
  rw [← h1, ← h2]
  show gred invc (red a ++ c) = gred invc (red b ++ c)
  rw [h]
theorem red_flat_grun (p : Pr) : ∀ (d r : List Cel), red (flat p (grun invC r d).reverse) = red (flat p (r.reverse ++ d))
  | [], r => by simp [grun]
  | c :: d, r => by
    show red (flat p (grun invC (gstp invC r c) d).reverse) = _
    rw [red_flat_grun p d (gstp invC r c), flat_app, red_app_left (flat p d) (run_flat_gstp p r c), ← flat_app]
    simp
theorem bnd_simp4 (p : Pr) (d : List Cel) : bnd p (simp4 d) = bnd p d := by
  rw [← bnd_redC p d, bnd_eq, bnd_eq]
  exact red_flat_grun p (d.map redC) []
theorem simp4_len (d : List Cel) : (simp4 d).length ≤ d.length := by
  have := gred_len invC (d.map redC); simpa [simp4] using this
end Go.Proofs.Ytbcckfggnlmhoaa
