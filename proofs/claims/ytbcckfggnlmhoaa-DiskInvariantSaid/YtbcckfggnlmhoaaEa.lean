/-
  Our own text, in the proofs of the laws of package disk (cayleylaw04). Proved here: boundaries of products, inverses, conjugates and simplified disks, on lists; rows of cells in memory: read, append, store; slices.Clone and inverseCell; inverseCell; slices.Reverse and inverseOf of cells; appendReduced of cells; simplified; slices.Grow and slices.Concat of cells; Product, Inverse and Simplify of the program; Conjugate of the program. Conditions: the arguments lie in memory as the slices say; bounds; where a presentation is named valid, it is.
-/
import Derived.Test.YtbcckfggnlmhoaaAa
import Derived.Test.YtbcckfggnlmhoaaAm
import Derived.RegionTactic
import Derived.BigRegion
import Derived.Deep.RegionHeld3
import Derived.Laws.StructEq
import Derived.Lib.AppendZeros
import Derived.Laws.AppendOwnNone
import Derived.Deep.RegionWith
namespace Go.Proofs.Ytbcckfggnlmhoaa

/-- The word of a cell, and of a disk, not reduced. -/
def cellW (p : Pr) (c : Cel) : List UInt8 := c.conj ++ relOf p c.rel c.inv ++ invW c.conj
def flat (p : Pr) (d : List Cel) : List UInt8 := d.flatMap (cellW p)
theorem cellR_eq (p : Pr) (r : List UInt8) (c : Cel) : cellR p r c = run r (cellW p c) := by
  unfold cellR cellW run; rw [grun_app, grun_app]
theorem bndR_eq (p : Pr) (d : List Cel) : bndR p d = run [] (flat p d) := by
  have : ∀ (d : List Cel) (r : List UInt8), d.foldl (cellR p) r = run r (flat p d) := by
    intro d
    induction d with
    | nil => intro r; rfl
    | cons c d ih => intro r; rw [List.foldl_cons, ih, cellR_eq]; unfold flat run; rw [List.flatMap_cons, grun_app]
  exact this d []
theorem bnd_eq (p : Pr) (d : List Cel) : bnd p d = red (flat p d) := by unfold bnd; rw [bndR_eq]; rfl
theorem flat_app (p : Pr) (d e : List Cel) : flat p (d ++ e) = flat p d ++ flat p e := List.flatMap_append
theorem bnd_app (p : Pr) (d e : List Cel) : bnd p (d ++ e) = red (bnd p d ++ bnd p e) := by
  rw [bnd_eq, bnd_eq, bnd_eq, flat_app]
  show gred invc _ = gred invc (gred invc _ ++ gred invc _)
  rw [gred_gred_app invc_invc, gred_app_gred invc_invc]

def invC (c : Cel) : Cel := ⟨c.conj, c.rel, !c.inv⟩
theorem invC_invC (c : Cel) : invC (invC c) = c := by cases c; simp [invC]
theorem relOf_not (p : Pr) (i : Int) (b : Bool) : relOf p i (!b) = invW (relOf p i b) := by
  cases b
  · rfl
  · show p.rels.getD i.toNat [] = ginv invc (ginv invc _); rw [ginv_ginv invc_invc]
theorem cellW_inv (p : Pr) (c : Cel) : cellW p (invC c) = invW (cellW p c) := by
  show c.conj ++ relOf p c.rel (!c.inv) ++ invW c.conj = ginv invc (c.conj ++ relOf p c.rel c.inv ++ invW c.conj)
  rw [ginv_app, ginv_app, ginv_ginv invc_invc, relOf_not, List.append_assoc]
theorem flat_inv (p : Pr) (d : List Cel) : flat p (ginv invC d) = invW (flat p d) := by
  induction d with
  | nil => rfl
  | cons c d ih =>
    rw [ginv_cons, flat_app, ih]
    show invW (flat p d) ++ flat p [invC c] = ginv invc (flat p (c :: d))
    have e : flat p (c :: d) = cellW p c ++ flat p d := List.flatMap_cons
    have e2 : flat p [invC c] = cellW p (invC c) := by simp [flat]
    rw [e, e2, ginv_app, cellW_inv]
theorem bnd_inv (p : Pr) (d : List Cel) : bnd p (ginv invC d) = invW (bnd p d) := by
  rw [bnd_eq, bnd_eq, flat_inv]
  show gred invc (ginv invc _) = ginv invc (gred invc _)
  rw [ginv_gred invc_invc]

/-- u in front of each conjugator, reduced. -/
def conC (u : List UInt8) (c : Cel) : Cel := ⟨red (u ++ c.conj), c.rel, c.inv⟩
theorem red_cell (p : Pr) (u : List UInt8) (c : Cel) (a b : List UInt8) : red (a ++ cellW p (conC u c) ++ b) = red (a ++ (u ++ cellW p c ++ invW u) ++ b) := by
  have e1 : cellW p (conC u c) = red (u ++ c.conj) ++ relOf p c.rel c.inv ++ red (invW (u ++ c.conj)) := by
    show red (u ++ c.conj) ++ relOf p c.rel c.inv ++ ginv invc (gred invc (u ++ c.conj)) = _
    rw [ginv_gred invc_invc]
  have h1 : ∀ x y z : List UInt8, gred invc (x ++ gred invc y ++ z) = gred invc (x ++ y ++ z) := gred_mid invc_invc
  rw [e1]
  show gred invc (a ++ (gred invc (u ++ c.conj) ++ relOf p c.rel c.inv ++ gred invc (ginv invc (u ++ c.conj))) ++ b) = gred invc (a ++ (u ++ (c.conj ++ relOf p c.rel c.inv ++ ginv invc c.conj) ++ ginv invc u) ++ b)
  have s1 := h1 a (u ++ c.conj) (relOf p c.rel c.inv ++ gred invc (ginv invc (u ++ c.conj)) ++ b)
  have s2 := h1 (a ++ (u ++ c.conj) ++ relOf p c.rel c.inv) (ginv invc (u ++ c.conj)) b
  simp only [List.append_assoc] at s1 s2 ⊢
  rw [s1, s2, ginv_app]
  simp only [List.append_assoc]
theorem red_flat_con (p : Pr) (u : List UInt8) (d : List Cel) : ∀ a b : List UInt8, red (a ++ flat p (d.map (conC u)) ++ b) = red (a ++ (u ++ flat p d ++ invW u) ++ b) := by
  induction d with
  | nil =>
    intro a b
    show gred invc (a ++ [] ++ b) = gred invc (a ++ (u ++ [] ++ ginv invc u) ++ b)
    rw [List.append_nil, List.append_nil, gred_cut invc_invc]
  | cons c d ih =>
    intro a b
    have e : flat p ((c :: d).map (conC u)) = cellW p (conC u c) ++ flat p (d.map (conC u)) := List.flatMap_cons
    have e2 : flat p (c :: d) = cellW p c ++ flat p d := List.flatMap_cons
    rw [e, e2]
    have h1 := red_cell p u c a (flat p (d.map (conC u)) ++ b)
    have h2 := ih (a ++ (u ++ cellW p c ++ invW u)) b
    have h3 := gred_cut invc_invc (a ++ (u ++ cellW p c)) (ginv invc u) (flat p d ++ invW u ++ b)
    rw [ginv_ginv invc_invc] at h3
    have h3' : red (a ++ (u ++ cellW p c) ++ (invW u ++ u) ++ (flat p d ++ invW u ++ b)) = red (a ++ (u ++ cellW p c) ++ (flat p d ++ invW u ++ b)) := h3
    simp only [List.append_assoc] at h1 h2 h3' ⊢
    rw [h1, h2, h3']
theorem bnd_con (p : Pr) (u : List UInt8) (d : List Cel) : bnd p (d.map (conC u)) = red (u ++ bnd p d ++ invW u) := by
  have := red_flat_con p u d [] []
  simp only [List.nil_append, List.append_nil] at this
  rw [bnd_eq, bnd_eq, this]
  show gred invc _ = gred invc (u ++ gred invc _ ++ ginv invc u)
  rw [gred_mid invc_invc]

/-- Simplify: conjugators reduced, then pairs removed. -/
def redC (c : Cel) : Cel := ⟨red c.conj, c.rel, c.inv⟩
def simp4 (d : List Cel) : List Cel := gred invC (d.map redC)
theorem conC_nil (c : Cel) : conC [] c = redC c := rfl
theorem bnd_redC (p : Pr) (d : List Cel) : bnd p (d.map redC) = bnd p d := by
  have := bnd_con p [] d
  have e : d.map (conC []) = d.map redC := List.map_congr_left fun c _ => conC_nil c
  rw [e] at this
  rw [this]
  show gred invc ([] ++ bnd p d ++ []) = _
  rw [List.nil_append, List.append_nil, bnd_eq]; exact gred_of_red invc_invc _
theorem run_flat_gstp (p : Pr) (r : List Cel) (c : Cel) : red (flat p (gstp invC r c).reverse) = red (flat p (r.reverse ++ [c])) := by
  cases r with
  | nil => rfl
  | cons x t =>
    rw [gstp_cons]; split
    · rename_i hx
      subst hx
      rw [List.reverse_cons, List.append_assoc, flat_app]
      have e : flat p ([invC c] ++ [c]) = invW (cellW p c) ++ cellW p c := by simp [flat, cellW_inv]
      rw [e]
      have h := gred_cut invc_invc (flat p t.reverse) (ginv invc (cellW p c)) []
      rw [ginv_ginv invc_invc] at h
      simpa using h.symm
    · rw [List.reverse_cons, List.reverse_cons]
theorem red_app_left {a b : List UInt8} (c : List UInt8) (h : red a = red b) : red (a ++ c) = red (b ++ c) := by
  have h1 := gred_gred_app invc_invc a c
  have h2 := gred_gred_app invc_invc b c
  show gred invc _ = gred invc _
  rw [← h1, ← h2]
  show gred invc (red a ++ c) = gred invc (red b ++ c)
  rw [h]
theorem red_flat_grun (p : Pr) : ∀ (d r : List Cel), red (flat p (grun invC r d).reverse) = red (flat p (r.reverse ++ d))
  | [], r => by simp [grun]
  | c :: d, r => by
    show red (flat p (grun invC (gstp invC r c) d).reverse) = _
    rw [red_flat_grun p d (gstp invC r c), flat_app, red_app_left (flat p d) (run_flat_gstp p r c), ← flat_app]
    simp
theorem bnd_simp4 (p : Pr) (d : List Cel) : bnd p (simp4 d) = bnd p d := by
  rw [← bnd_redC p d, bnd_eq, bnd_eq]
  exact red_flat_grun p (d.map redC) []
theorem simp4_len (d : List Cel) : (simp4 d).length ≤ d.length := by
  have := gred_len invC (d.map redC); simpa [simp4] using this
end Go.Proofs.Ytbcckfggnlmhoaa

namespace Go.Proofs.Ytbcckfggnlmhoaa
open Go Go.RowKit

theorem Try.info61 : (Try.prog.info? 61).map (fun i => (i.zero, i.size, i.bytes)) = some (some (.agg #[.string ⟨#[]⟩, .int .i64 0, .bool false]), 3, 32) := by kernel_rfl

def cel3 (c : Cel) : List Value := [.string ⟨c.conj.toArray⟩, .int .i64 c.rel, .bool c.inv]
def cs3 (d : List Cel) : List Value := d.flatMap cel3
theorem cs3_cons (c : Cel) (d : List Cel) : cs3 (c :: d) = cel3 c ++ cs3 d := List.flatMap_cons
theorem cs3_app (d e : List Cel) : cs3 (d ++ e) = cs3 d ++ cs3 e := List.flatMap_append
theorem cs3_len (d : List Cel) : (cs3 d).length = d.length * 3 := by
  induction d with
  | nil => rfl
  | cons c d ih => rw [cs3_cons, List.length_append, ih]; simp [cel3]; omega
theorem cs3_get (d : List Cel) (i : Nat) (h : i < d.length) (j : Nat) (hj : j < 3) : (cs3 d)[i * 3 + j]? = (cel3 d[i])[j]? := by
  induction d generalizing i with
  | nil => simp at h
  | cons c d ih =>
    rw [cs3_cons]
    cases i with
    | zero => rw [List.getElem?_append_left (by simp [cel3]; omega)]; simp
    | succ i =>
      rw [List.getElem?_append_right (by simp [cel3]; omega), show (i + 1) * 3 + j - (cel3 c).length = i * 3 + j by simp [cel3]; omega, ih i (by simpa using h)]
      simp
theorem cs3_one (d : List Cel) : ∀ u ∈ cs3 d, u.oneCell' = true := by
  intro u hu
  simp only [cs3, List.mem_flatMap, cel3, List.mem_cons, List.not_mem_nil, or_false] at hu
  obtain ⟨c, _, rfl | rfl | rfl⟩ := hu <;> rfl
theorem cs3_set (d : List Cel) (k : Nat) (c : Cel) (h : k < d.length) : cs3 (d.set k c) = (((cs3 d).set (k * 3) (.string ⟨c.conj.toArray⟩)).set (k * 3 + 1) (.int .i64 c.rel)).set (k * 3 + 2) (.bool c.inv) := by
  induction d generalizing k with
  | nil => simp at h
  | cons x d ih =>
    cases k with
    | zero => rw [List.set_cons_zero, cs3_cons, cs3_cons]; simp [cel3]
    | succ k =>
      rw [List.set_cons_succ, cs3_cons, cs3_cons, ih k (by simpa using h)]
      have e : (cel3 x).length = 3 := rfl
      rw [show (k + 1) * 3 = (k * 3) + (cel3 x).length by rw [e]; omega, show k * 3 + (cel3 x).length + 1 = (k * 3 + 1) + (cel3 x).length by omega, show k * 3 + (cel3 x).length + 2 = (k * 3 + 2) + (cel3 x).length by omega]
      rw [List.set_append_right _ _ (by omega), List.set_append_right _ _ (by omega), List.set_append_right _ _ (by omega)]
      simp
theorem cs3_set0 (d : List Cel) (k : Nat) (u : List UInt8) (h : k < d.length) : cs3 (d.set k ⟨u, (d[k]).rel, (d[k]).inv⟩) = (cs3 d).set (k * 3) (.string ⟨u.toArray⟩) := by
  rw [cs3_set d k _ h]
  have g1 := cs3_get d k h 1 (by omega)
  have g2 := cs3_get d k h 2 (by omega)
  simp only [cel3, List.getElem?_cons_succ, List.getElem?_cons_zero] at g1 g2
  have l := cs3_len d
  apply List.ext_getElem?
  intro i
  simp only [List.getElem?_set, List.length_set]
  by_cases e2 : k * 3 + 2 = i
  · subst e2; rw [if_pos rfl, if_pos (by omega), if_neg (by omega), g2]
  · rw [if_neg e2]
    by_cases e1 : k * 3 + 1 = i
    · subst e1; rw [if_pos rfl, if_pos (by omega), if_neg (by omega), g1]
    · rw [if_neg e1]

/-- Conjugators of a size that a machine has. -/
def Sized (d : List Cel) : Prop := ∀ c ∈ d, c.conj.length ≤ 140737488351232
theorem cells_own {w : World} {B n cap : Nat} {A : Option Addr} {d : List Cel} (h : w.ownsRow B 61 3 (.slice A n cap) n (cs3 d)) (hs : Sized d) : CellsAt w A d := by
  intro i hi
  have hl : d.length = n := by have := h.1; rw [cs3_len] at this; omega
  rcases h.2 with ⟨h2, h3⟩ | ⟨g, c', cur, hv, hg, hh, hnc, hcm, hcs, ht⟩
  · omega
  · simp only [Value.slice.injEq, true_and] at hv
    obtain ⟨rfl, rfl⟩ := hv
    have key : ∀ j, j < 3 → w.cell? ⟨g, 0 + i * 3 + j, none⟩ = (cel3 d[i])[j]? := by
      intro j hj
      rw [cell_of_row w g (0 + i * 3 + j) cur 61 (0, 0) hh]
      have : (cur.toList.take (n * 3))[i * 3 + j]? = (cs3 d)[i * 3 + j]? := by rw [ht]
      rw [List.getElem?_take, if_pos (by omega), cs3_get d i hi j hj] at this
      rw [Nat.zero_add]; simpa using this
    exact ⟨g, 0, rfl, key 0 (by omega), key 1 (by omega), key 2 (by omega), hs _ (List.getElem_mem _)⟩

theorem cells_news {w : World} {ad : Addr} {d : List Cel} (h : CellsAt w (some ad) d) : ∀ j u, (cs3 d)[j]? = some u → w.cell? (ad.add j) = some u := by
  intro j u hu
  have hj : j < d.length * 3 := by
    rcases Nat.lt_or_ge j (cs3 d).length with h | h
    · rwa [cs3_len] at h
    · rw [List.getElem?_eq_none h] at hu; cases hu
  obtain ⟨b, o, he, hc⟩ := h (j / 3) (by omega)
  simp only [Option.some.injEq] at he
  subst he
  have hd : j = j / 3 * 3 + j % 3 := by omega
  rw [add_lit]
  rw [hd, cs3_get d (j / 3) (by omega) (j % 3) (by omega)] at hu
  have h3 : j % 3 = 0 ∨ j % 3 = 1 ∨ j % 3 = 2 := by omega
  rcases h3 with h3 | h3 | h3 <;> rw [h3] at hu hd <;> simp only [cel3, List.getElem?_cons_succ, List.getElem?_cons_zero] at hu <;> cases hu
  · rw [show o + j = o + j / 3 * 3 by omega]; exact hc.conj
  · rw [show o + j = o + j / 3 * 3 + 1 by omega]; exact hc.rel
  · rw [show o + j = o + j / 3 * 3 + 2 by omega]; exact hc.inv

/-- append(x, y...), cells. -/
theorem append_cells {ops : Array Oper} {rest : List Oper} {o : Oper} {a : Act} {Q : Exit → Act → World → Prop} (w : World) (hgd : o.guard = none) (s x : Operand)
    (ho : o.op = .call { callee := .builtin .append, args := #[s, x], argTypes := #[25, 25] })
    (B : Nat) (A : Option Addr) (n cap : Nat) (d e : List Cel) (hs : a.eval s = .slice A n cap) (hown : w.ownsRow B 61 3 (.slice A n cap) n (cs3 d))
    (ad : Addr) (c : Nat) (m : Nat) (hme : m = e.length) (hx : a.eval x = .slice (some ad) m c) (hm : CellsAt w (some ad) e) (hn : n + m ≤ 1000000000000) (hB : B ≤ w.heap.size)
    (h : ∀ A' cap' w', w'.ownsRow B 61 3 (.slice A' (n + m) cap') (n + m) (cs3 (d ++ e)) → w.grownBy w' (blk A) → Moved w A A' → wpList Try.prog ops Q rest (a.put o.dst (.slice A' (n + m) cap')) w') :
    wpList Try.prog ops Q (o :: rest) a w := by
  subst hme
  obtain ⟨i0, hi, hz0, hz1, hz2⟩ := info_parts Try.info61
  refine append_gen _ hgd s x 25 ho 61 i0 (.agg #[.string ⟨#[]⟩, .int .i64 0, .bool false]) 3 32 Try.underlying25 hi hz0 hz1 hz2 rfl (by decide) B A n cap (cs3 d) hs hown ad e.length c (cs3 e) hx (by rw [cs3_len]) (cells_news hm) (cs3_one e) (by unfold maxLen; omega) (by omega) hB ?_
  intro A' cap' w' hown' hgrow hm
  exact h A' cap' w' (by rw [cs3_app]; exact hown') hgrow hm

def CloneC (w : World) (d : List Cel) (e : Ending) (w' : World) : Prop :=
  ∃ A' cap', e = .returned (.slice A' d.length cap') ∧ w'.ownsRow w.heap.size 61 3 (.slice A' d.length cap') d.length (cs3 d) ∧ Below w.heap.size w w'

set_option maxHeartbeats 1000000 in
theorem CloneC_any (A : Option Addr) (cap : Nat) (d : List Cel) (w : World) (hl : CellsAt w A d) (hA : A = none → d = []) (hn : d.length ≤ 1000000000) :
    Calls Try.prog 49 #[.slice A d.length cap] w (CloneC w d) := by
  have he : ∀ wx, (binOp .eql 25 (.slice A d.length cap) (.slice none 0 0)).run Try.prog wx = .ok (.bool A.isNone) wx := fun wx => Lib.run_eql_slice_nil wx 25 61 A _ _ _ _ Try.underlying25
  cases A with
  | none =>
    obtain rfl := hA rfl
    have he2 : ∀ wx, (binOp .eql 25 (.slice none 0 cap) (.slice none 0 0)).run Try.prog wx = .ok (.bool true) wx := fun wx => Lib.run_eql_slice_nil wx 25 61 none _ _ _ _ Try.underlying25
    show Calls Try.prog 49 #[.slice none 0 cap] w (CloneC w [])
    clear hl hA he hn
    go_enter Try.func49, Try.ntmps49
    go_wp2
    go_ret
    exact ⟨none, 0, rfl, World.ownsRow_nil _ _ _ _, Below.refl _ _⟩
  | some ad =>
    have HL := Lib.hid hl
    have HO := Lib.hid (own_empty w w.heap.size 61 3 (Nat.le_refl _))
    have HB : Hid (Below w.heap.size w (w.alloc (.cells #[] 61))) := Lib.hid ((Below.refl _ _).alloc (Nat.le_refl _) _)
    clear hl hA
    go_enter Try.func49, Try.ntmps49
    go_wp2_with (at_builtin; refine append_cells (w.alloc (.cells #[] 61)) rfl (.tmp 5) (.tmp 6) rfl w.heap.size (some ⟨w.heap.size, 0, none⟩) 0 0 [] d rfl HO.out ad cap _ rfl rfl (HL.out.below HB.out) (by omega) (by simp) ?_; intro A' cap' w1 hown1 hg1 hm1)
    have H1 := Lib.hid hown1
    have B1 := Lib.hid (below_of_grown HB.out hg1 (by simp) (fun a ha => by cases ha; exact Nat.le_refl _))
    clear hown1 hg1 hm1
    go_wp2
    go_ret
    have h1 := H1.out
    simp only [Nat.zero_add, List.nil_append] at h1
    exact ⟨A', cap', by simp, h1, B1.out⟩
end Go.Proofs.Ytbcckfggnlmhoaa

namespace Go.Proofs.Ytbcckfggnlmhoaa
open Go Go.RowKit

set_option maxHeartbeats 1000000 in
theorem inverseCell_any (c : List UInt8) (r : Int) (i : Bool) (w : World) : Calls Try.prog 48 #[.agg #[.string ⟨c.toArray⟩, .int .i64 r, .bool i]] w fun e w' => e = .returned (.agg #[.string ⟨c.toArray⟩, .int .i64 r, .bool (!i)]) ∧ Below w.heap.size w w' := by
  go_enter Try.func48, Try.ntmps48
  go_wp2
  exact bodyPost_ret (v := .agg #[.string ⟨c.toArray⟩, .int .i64 r, .bool (!i)]) (by simp [results, Try.results48, go_sem]) rfl ⟨rfl, ((Below.refl _ _).alloc (Nat.le_refl _) _).alloc (by simp) _⟩

/-- A whole cell stored. -/
def put3 (w : World) (g o : Nat) (c : List UInt8) (r : Int) (i : Bool) : World := ((w.setCell ⟨g, o, none⟩ (.string ⟨c.toArray⟩)).setCell ⟨g, o + 1, none⟩ (.int .i64 r)).setCell ⟨g, o + 2, none⟩ (.bool i)
theorem own_put3 {w : World} {B n cap g : Nat} {d : List Cel} (h : w.ownsRow B 61 3 (.slice (some ⟨g, 0, none⟩) n cap) n (cs3 d)) (k : Nat) (hk : k < d.length) (x : Cel) :
    (put3 w g (k * 3) x.conj x.rel x.inv).ownsRow B 61 3 (.slice (some ⟨g, 0, none⟩) n cap) n (cs3 (d.set k x)) := by
  rw [cs3_set d k x hk]
  exact (((h.stored _ _).1.stored _ _).1.stored _ _).1
theorem own_drew {w : World} {B e sz n : Nat} {v : Value} {xs : List Value} (h : w.ownsRow B e sz v n xs) : w.drew.ownsRow B e sz v n xs := h
theorem below_put3 (w : World) (g o : Nat) (c : List UInt8) (r : Int) (i : Bool) {B : Nat} (hB : B ≤ g) : Below B w (put3 w g o c r i) :=
  (((Below.refl B w).setCell (p := ⟨g, o, none⟩) hB _).setCell (p := ⟨g, o + 1, none⟩) hB _).setCell (p := ⟨g, o + 2, none⟩) hB _

set_option maxHeartbeats 4000000 in
set_option maxRecDepth 1000000 in
theorem ReverseC_any (B : Nat) (A : Option Addr) (cap : Nat) (l : List Cel) (w : World) (hown : w.ownsRow B 61 3 (.slice A l.length cap) l.length (cs3 l)) (hs : Sized l) (hn : l.length ≤ 1000000000) :
    Calls Try.prog 80 #[.slice A l.length cap] w fun e w' => e = .returned (.tuple #[]) ∧ w'.ownsRow B 61 3 (.slice A l.length cap) l.length (cs3 l.reverse) ∧ Below B w w' := by
  have HO := Lib.hid hown
  have HSZ := Lib.hid hs
  clear hown hs
  go_enter Try.func80, Try.ntmps80
  go_wp2
  go_loopw [2, 3] (fun i j wr => ∃ (k : Nat) (q : Int) (cur : List Cel), i = .int .i64 (k : Int) ∧ j = .int .i64 q ∧ q + 1 + (k : Int) = (l.length : Int) ∧ RevTo l cur k ∧ Sized cur ∧ wr.ownsRow B 61 3 (.slice A l.length cap) l.length (cs3 cur) ∧ Below B w wr)
    (fun i _ _ => l.length - (intOf i).toNat)
  case atStart => exact ⟨0, _, l, rfl, rfl, by simp, RevTo.start l, HSZ.out, HO.out, Below.refl _ _⟩
  case round =>
    obtain ⟨k, q, cur, rfl, rfl, hq, hrev, hsz, hown, hb⟩ := hrel
    have HR := Lib.hid hrev
    have HOW := Lib.hid hown
    have HB := Lib.hid hb
    have HSC := Lib.hid hsz
    clear hrev hown hb hsz
    by_cases hlt : (k : Int) < q
    · obtain ⟨j, rfl⟩ := Int.eq_ofNat_of_zero_le (show 0 ≤ q by omega)
      have hj : j = l.length - 1 - k := by omega
      have hlen : l.length = j + 1 + k := by omega
      have hcl := HR.out.len
      obtain ⟨g, o, hA, hx⟩ := cells_own HOW.out HSC.out k (by omega)
      obtain ⟨g', o', hA', hy⟩ := cells_own HOW.out HSC.out j (by omega)
      obtain ⟨rfl, rfl⟩ : g = g' ∧ o = o' := by rw [hA] at hA'; cases hA'; exact ⟨rfl, rfl⟩
      obtain rfl : o = 0 := by
        rcases own_shape HOW.out with ⟨h, _⟩ | ⟨g', h, _⟩
        · rw [hA] at h; cases h
        · rw [hA] at h; cases h; rfl
      subst hA
      rw [Nat.zero_add] at hx hy
      obtain ⟨x0, x1, x2, x3⟩ := hx
      obtain ⟨y0, y1, y2, y3⟩ := hy
      have HXE : Hid (cur[k]? = some (cur[k]'(by omega))) := Lib.hid (List.getElem?_eq_getElem (by omega))
      have HYE : Hid (cur[j]? = some (cur[j]'(by omega))) := Lib.hid (List.getElem?_eq_getElem (by omega))
      generalize cur[k]'(by omega) = x at *
      generalize cur[j]'(by omega) = y at *
      obtain ⟨xc, xr, xi⟩ := x
      obtain ⟨yc, yr, yi⟩ := y
      simp only at x0 x1 x2 x3 y0 y1 y2 y3
      have f0 := HOW.out.frozenAt (k * 3)
      have f1 := HOW.out.frozenAt (k * 3 + 1)
      have f2 := HOW.out.frozenAt (k * 3 + 2)
      have e0 := HOW.out.frozenAt (j * 3)
      have e1 := HOW.out.frozenAt (j * 3 + 1)
      have e2 := HOW.out.frozenAt (j * 3 + 2)
      have HJ := Lib.hid hj
      have HL := Lib.hid hlen
      have HCL := Lib.hid hcl
      have hj1 : (j : Int) < (l.length : Int) := by omega
      have hk1 : (k : Int) < (l.length : Int) := by omega
      have hne : k * 3 + 3 ≤ j * 3 := by omega
      clear hj hlen hA' hcl hq
      go_wp2_with fail
      go_region
      go_wp2
      go_roundw
      case rel =>
        have hgB := own_ge HOW.out _ rfl
        have h1 := own_put3 HOW.out k (by have := HL.out; have := HCL.out; omega) ⟨yc, yr, yi⟩
        have h2 := own_put3 h1 j (by rw [List.length_set]; have := HL.out; have := HCL.out; omega) ⟨xc, xr, xi⟩
        have h3 := own_drew h2
        have hb3 : Below B w _ := HB.out.trans (((below_put3 wr g (k * 3) yc yr yi hgB).trans (below_put3 _ g (j * 3) xc xr xi hgB)).drew)
        simp only [put3] at h3 hb3
        refine ⟨k + 1, _, (cur.set k ⟨yc, yr, yi⟩).set j ⟨xc, xr, xi⟩, by go_num, rfl, by have := HL.out; omega, ?_, ?_, h3, hb3⟩
        · have := HR.out.step (by have := HL.out; omega) ⟨xc, xr, xi⟩ ⟨yc, yr, yi⟩ HXE.out (by rw [← HJ.out]; exact HYE.out)
          rw [← HJ.out] at this; exact this
        · intro c hc
          rcases List.mem_or_eq_of_mem_set hc with hc | rfl
          · rcases List.mem_or_eq_of_mem_set hc with hc | rfl
            · exact HSC.out c hc
            · exact y3
          · exact x3
      case measure => have := HL.out; simp [intOf]; omega
    · have HE : Hid (cur = l.reverse) := Lib.hid (HR.out.stop (by omega))
      go_wp2
      go_end0
      exact ⟨rfl, by rw [← HE.out]; exact HOW.out, HB.out⟩

set_option maxHeartbeats 4000000 in
set_option maxRecDepth 1000000 in
theorem inverseOfC_any (A : Option Addr) (cap : Nat) (l : List Cel) (w : World) (hl : CellsAt w A l) (hA : A = none → l = []) (hs : Sized l) (hn : l.length ≤ 1000000000) :
    Calls Try.prog 47 #[.slice A l.length cap, .func (.func 48) #[] #[]] w (CloneC w (ginv invC l)) := by
  have hC := CloneC_any A cap l w hl hA hn
  have HN := Lib.hid (show (ginv invC l).length = l.length from ginv_len _ _)
  have HSL := Lib.hid hs
  clear hl hA hs
  go_enter Try.func47, Try.ntmps47
  go_wp2_with fail
  refine hC.mono ?_
  rintro e w1 ⟨A1, c1, rfl, hown1, hb1⟩
  have HB1 := Lib.hid hb1
  have hR := ReverseC_any w.heap.size A1 c1 l w1 hown1 HSL.out hn
  clear hown1 hb1 hC
  go_wp2_with fail
  refine hR.mono ?_
  rintro e w2 ⟨rfl, hown2, hb2⟩
  have HB2 := Lib.hid (HB1.out.trans hb2)
  have hlr : l.reverse.length = l.length := List.length_reverse
  have HO2 := Lib.hid hown2
  have HRL := Lib.hid hlr
  have HSR := Lib.hid (show Sized l.reverse from fun c hc => HSL.out c (by simpa using hc))
  generalize hr : l.reverse = r at *
  have HR' : Hid (l.reverse = r) := Lib.hid hr
  clear hown2 hb2 hlr hr hR
  go_wp2
  go_loopw [6, 7, 14] (fun _ _ i wr => ∃ (k : Nat), k ≤ l.length ∧ i = .int .i64 (k : Int) ∧ wr.ownsRow w.heap.size 61 3 (.slice A1 l.length c1) l.length (cs3 ((r.take k).map invC ++ r.drop k)) ∧ Below w.heap.size w wr)
    (fun _ _ i _ => l.length - (intOf i).toNat)
  case atStart => exact ⟨0, Nat.zero_le _, rfl, by simpa using HO2.out, HB2.out⟩
  case round =>
    obtain ⟨k, hk, rfl, hown, hb⟩ := hrel
    have HOW := Lib.hid hown
    have HB := Lib.hid hb
    clear hown hb
    by_cases hlt : k < l.length
    · have hkr : k < r.length := by rw [HRL.out]; exact hlt
      have hsz : Sized ((r.take k).map invC ++ r.drop k) := by
        intro c hc
        rcases List.mem_append.1 hc with hc | hc
        · obtain ⟨x, hx, rfl⟩ := List.mem_map.1 hc
          exact HSR.out x (List.mem_of_mem_take hx)
        · exact HSR.out c (List.mem_of_mem_drop hc)
      obtain ⟨g, o, hA, hx⟩ := cells_own HOW.out hsz k (by rw [map_take_len, HRL.out]; exact hlt)
      obtain rfl : o = 0 := by
        rcases own_shape HOW.out with ⟨h, _⟩ | ⟨g', h, _⟩
        · rw [hA] at h; cases h
        · rw [hA] at h; cases h; rfl
      subst hA
      rw [Nat.zero_add, map_take_get invC r k hkr] at hx
      have HST := Lib.hid (fun (W : World) (hW : W.ownsRow w.heap.size 61 3 (.slice (some ⟨g, 0, none⟩) l.length c1) l.length (cs3 ((r.take k).map invC ++ r.drop k))) => own_put3 hW k (by rw [map_take_len, HRL.out]; exact hlt) (invC r[k]))
      have HMS := Lib.hid (map_take_set invC r k hkr)
      generalize r[k] = x at *
      obtain ⟨xc, xr, xi⟩ := x
      obtain ⟨x0, x1, x2, x3⟩ := hx
      simp only at x0 x1 x2 x3
      have HB1' : Hid (Below wr.heap.size wr (wr.alloc (.cells (celC xc xr xi) 61))) := Lib.hid ((Below.refl _ _).alloc (Nat.le_refl _) _)
      have hI := inverseCell_any xc xr xi (wr.alloc (.cells (celC xc xr xi) 61))
      clear hkr hsz x3
      go_wp2_with fail
      refine hI.mono ?_
      rintro e w3 ⟨rfl, hb3⟩
      have HB3 := Lib.hid (HB1'.out.trans (hb3.mono HB1'.out.size))
      have HO3 := Lib.hid (own_below HOW.out HB3.out)
      have f0 := HO3.out.frozenAt (k * 3)
      have f1 := HO3.out.frozenAt (k * 3 + 1)
      have f2 := HO3.out.frozenAt (k * 3 + 2)
      have z0 : w3.cell? ⟨g, k * 3, none⟩ = some (.string ⟨xc.toArray⟩) := (HB3.out.cell (p := ⟨g, k * 3, none⟩) (lt_of_cell x0)).trans x0
      have z1 : w3.cell? ⟨g, k * 3 + 1, none⟩ = some (.int .i64 xr) := (HB3.out.cell (p := ⟨g, k * 3 + 1, none⟩) (lt_of_cell x1)).trans x1
      have z2 : w3.cell? ⟨g, k * 3 + 2, none⟩ = some (.bool xi) := (HB3.out.cell (p := ⟨g, k * 3 + 2, none⟩) (lt_of_cell x2)).trans x2
      clear x0 x1 x2 hb3 hI
      go_wp2
      go_roundw
      case rel =>
        have hgB := own_ge HO3.out _ rfl
        have h3 := HST.out w3 HO3.out
        have hb4 := HB.out.trans ((HB3.out.mono HB.out.size).trans (below_put3 w3 g (k * 3) xc xr (!xi) hgB))
        rw [HMS.out] at h3
        simp only [put3, invC] at h3 hb4
        exact ⟨k + 1, by omega, by go_num, h3, hb4⟩
      case measure => simp [intOf]; omega
    · obtain rfl : k = l.length := by omega
      have HE : Hid ((r.take l.length).map invC ++ r.drop l.length = ginv invC l) := Lib.hid (by
        rw [← HRL.out, List.take_length, List.drop_length, List.append_nil, ← HR'.out]; simp [ginv])
      go_wp2
      go_ret
      refine ⟨A1, c1, ?_, ?_, HB.out⟩
      · rw [HN.out]; rfl
      · rw [HN.out, ← HE.out]; exact HOW.out
end Go.Proofs.Ytbcckfggnlmhoaa

namespace Go.Proofs.Ytbcckfggnlmhoaa
open Go Go.RowKit

theorem eq_mk (l m : List UInt8) : ((ByteArray.mk l.toArray) = (ByteArray.mk m.toArray)) ↔ l = m := by
  constructor
  · intro h; have := congrArg (fun b : ByteArray => b.data.toList) h; simpa using this
  · rintro rfl; rfl

set_option maxHeartbeats 1000000 in
theorem eqC (xc yc : List UInt8) (xr yr : Int) (xi yi : Bool) (w : World) :
    (binOp .eql 61 (.agg #[.string ⟨xc.toArray⟩, .int .i64 xr, .bool xi]) (.agg #[.string ⟨yc.toArray⟩, .int .i64 yr, .bool yi])).run Try.prog w = .ok (.bool (decide ((⟨xc, xr, xi⟩ : Cel) = ⟨yc, yr, yi⟩))) w := by
  have u3 := Try.underlying3
  have u4 := Try.underlying4
  have u9 := Try.underlying9
  have hS : Try.prog.underlying 61 = some (.struct (Try.prog.fieldsOf 61)) := by kernel_rfl
  have hp : Try.prog.stoodInHeld 61 = false := by kernel_rfl
  rw [run_eql_struct, show (10000 : Nat) = 9999 + 1 from rfl, run_equalIn_agg w 9999 61 _ _ hS hp]
  simp only [Program.fieldsOf, Try.underlying61]
  go_simp
  by_cases h1 : xc = yc <;> by_cases h2 : xr = yr <;> by_cases h3 : xi = yi <;> simp [h1, h2, h3]

theorem cellOne (w : World) (c : List UInt8) (r : Int) (i : Bool) (t : TypeId) (hl : c.length ≤ 140737488351232) : CellsAt (w.alloc (.cells (celC c r i) t)) (some ⟨w.heap.size, 0, none⟩) [⟨c, r, i⟩] := by
  have hb := (HasCells.new w (celC c r i) t).cell
  intro j hj
  obtain rfl : j = 0 := by simpa using hj
  refine ⟨w.heap.size, 0, rfl, ?_, ?_, ?_, hl⟩
  · simp only [Nat.zero_mul, Nat.add_zero]; rw [hb]; rfl
  · simp only [Nat.zero_mul, Nat.zero_add]; rw [hb]; rfl
  · simp only [Nat.zero_mul, Nat.zero_add]; rw [hb]; rfl

/-- append of one cell, by its literal slice, to a row of the call's own. -/
theorem append_oneC {ops : Array Oper} {rest : List Oper} {o : Oper} {a : Act} {Q : Exit → Act → World → Prop} (w : World) (hgd : o.guard = none) (s x : Operand)
    (ho : o.op = .call { callee := .builtin .append, args := #[s, x], argTypes := #[25, 25] })
    (B : Nat) (A : Option Addr) (n cap : Nat) (d : List Cel) (c : List UInt8) (r : Int) (i : Bool) (hc : c.length ≤ 140737488351232) (hs : a.eval s = .slice A n cap) (hown : w.ownsRow B 61 3 (.slice A n cap) n (cs3 d))
    (hx : a.eval x = .slice (some ⟨w.heap.size, 0, none⟩) 1 1) (hn : n ≤ 100000000000) (hB : B ≤ w.heap.size)
    (h : ∀ A' cap' w', w'.ownsRow B 61 3 (.slice A' (n + 1) cap') (n + 1) (cs3 (d ++ [⟨c, r, i⟩])) → w.grownBy w' (blk A) → Moved w A A' → wpList Try.prog ops Q rest (a.put o.dst (.slice A' (n + 1) cap')) w') :
    wpList Try.prog ops Q (o :: rest) a (w.alloc (.cells (celC c r i) 61)) := by
  refine append_cells _ hgd s x ho B A n cap d [⟨c, r, i⟩] hs (hown.alloc _) ⟨w.heap.size, 0, none⟩ 1 1 rfl hx (cellOne w c r i 61 hc) (by omega) (by simp; omega) ?_
  intro A' cap' w' hown' hgrow hm
  refine h A' cap' w' hown' (grown_trans (World.grownBy_alloc w _ (blk A)) hgrow (.inl rfl)) ?_
  rcases hm with hm | hm
  · exact .inl hm
  · exact .inr fun k hk => by have := hm k hk; simp at this; omega

set_option maxHeartbeats 4000000 in
set_option maxRecDepth 100000 in
theorem appRedC_any (l : List Cel) (A : Option Addr) (cap : Nat) (w : World) (hl : CellsAt w A l) (hs : Sized l) (hn : l.length ≤ 1000000000) :
    Calls Try.prog 81 #[.slice none 0 0, .slice A l.length cap, .func (.func 48) #[] #[]] w (CloneC w (gred invC l)) := by
  have HL := Lib.hid hl
  have HSZ := Lib.hid hs
  clear hl hs
  go_enter Try.func81, Try.ntmps81
  go_wp2
  go_loopw [0, 8, 9, 12] (fun out _ _ i wr => ∃ (k : Nat) (s : List Cel) (O : Option Addr) (n oc : Nat), k ≤ l.length ∧ i = .int .i64 (k : Int) ∧ s = grun invC [] (l.take k) ∧ n = s.length ∧ n ≤ k ∧ Sized s ∧ out = .slice O n oc ∧ wr.ownsRow w.heap.size 61 3 (.slice O n oc) n (cs3 s.reverse) ∧ Below w.heap.size w wr)
    (fun _ _ _ i _ => l.length - (intOf i).toNat)
  case atStart => exact ⟨0, [], none, 0, 0, Nat.zero_le _, rfl, rfl, rfl, by omega, (fun c hc => by cases hc), rfl, World.ownsRow_nil _ _ _ _, Below.refl _ _⟩
  case round =>
    obtain ⟨k, s, O, n, oc, hk, rfl, hss, hns, hnk, hsz, rfl, hown, hb⟩ := hrel
    have HS := Lib.hid hss
    have HB := Lib.hid hb
    have HOW := Lib.hid hown
    have HSS := Lib.hid hsz
    clear hss hb hown hsz
    by_cases hlt : k < l.length
    · have HSN : Hid (gstp invC s l[k] = grun invC [] (l.take (k + 1))) := Lib.hid (by rw [HS.out]; exact (grun_take_succ invC [] l k hlt).symm)
      obtain ⟨b, o, hA, hx⟩ := (HL.out.below HB.out) k hlt
      subst hA
      have hxs := HSZ.out l[k] (List.getElem_mem _)
      generalize l[k] = x at *
      obtain ⟨xc, xr, xi⟩ := x
      obtain ⟨x0, x1, x2, x3⟩ := hx
      simp only at x0 x1 x2 x3 hxs
      have HXS := Lib.hid hxs
      have HB1 : Hid (Below wr.heap.size wr (wr.alloc (.cells (celC xc xr xi) 61))) := Lib.hid ((Below.refl _ _).alloc (Nat.le_refl _) _)
      have HO1 := Lib.hid (own_below HOW.out HB1.out)
      have HBB := Lib.hid (HB.out.trans (HB1.out.mono HB.out.size))
      have HBX := Lib.hid (HasCells.new wr (celC xc xr xi) 61)
      clear x3 hxs
      cases s with
      | nil =>
        obtain rfl : n = 0 := by simpa using hns
        clear hns
        have hd : decide ((0 : Int) ≤ 0 - 1) = false := by decide
        have hd2 : decide ((0 : Int) ≤ -1) = false := by decide
        have HSN2 : Hid ([⟨xc, xr, xi⟩] = grun invC [] (l.take (k + 1))) := Lib.hid HSN.out
        go_wp2
        have b0 : (wr.alloc (.cells (celC xc xr xi) 61)).cell? ⟨wr.heap.size, 0, none⟩ = some (.string ⟨xc.toArray⟩) := HBX.out.cell 0
        have b1 : (wr.alloc (.cells (celC xc xr xi) 61)).cell? ⟨wr.heap.size, 1, none⟩ = some (.int .i64 xr) := HBX.out.cell 1
        have b2 : (wr.alloc (.cells (celC xc xr xi) 61)).cell? ⟨wr.heap.size, 2, none⟩ = some (.bool xi) := HBX.out.cell 2
        generalize hw1 : wr.alloc (.cells (celC xc xr xi) 61) = w1 at *
        have HW1 := Lib.hid hw1
        clear hw1 x0 x1 x2
        go_quiet (fail)
        go_wp2_with (at_builtin; refine append_oneC (w1.drewN nq) rfl (.tmp 34) (.tmp 36) rfl w.heap.size O 0 oc [] xc xr xi HXS.out rfl (show (w1.drewN nq).ownsRow _ _ _ _ _ _ from HO1.out) rfl (by omega) HBB.out.size ?_; intro A' cap' w2 hown2 hg2 hm2)
        have H2 := Lib.hid hown2
        have B2 := Lib.hid (below_of_grown (HBB.out.drewN nq) hg2 HBB.out.size (own_ge HO1.out))
        clear hown2 hg2 hm2
        go_wp2
        go_roundw
        case rel => exact ⟨k + 1, [⟨xc, xr, xi⟩], A', 1, cap', by omega, by go_num, HSN2.out, rfl, by omega, (fun c hc => by simp at hc; subst hc; exact HXS.out), rfl, H2.out, B2.out⟩
        case measure => simp [intOf]; omega
      | cons y t =>
        obtain rfl : n = t.length + 1 := by simpa using hns
        clear hns
        obtain ⟨g, o2, hO, hy⟩ := cells_own HO1.out (fun c hc => HSS.out c (List.mem_reverse.1 hc)) t.length (by simp)
        obtain rfl : o2 = 0 := by
          rcases own_shape HOW.out with ⟨h, _⟩ | ⟨g', h, _⟩
          · rw [hO] at h; cases h
          · rw [hO] at h; cases h; rfl
        subst hO
        have he : (y :: t).reverse[t.length]'(by simp) = y := by simp
        rw [he, Nat.zero_add] at hy
        clear he
        obtain ⟨yc, yr, yi⟩ := y
        obtain ⟨y0, y1, y2, y3⟩ := hy
        simp only at y0 y1 y2
        have hd : decide ((0 : Int) ≤ (t.length : Int)) = true := by simp
        have hcp := own_cap HOW.out
        have hi0 : (0 : Int) ≤ (t.length : Int) := by omega
        have hi1 : (t.length : Int) < (t.length : Int) + 1 := by omega
        have hi2 : (t.length : Int) < ((t.length + 1 : Nat) : Int) := by omega
        have hi3 : ((t.length : Int)).toNat = t.length := by omega
        go_wp2
        have b0 : (wr.alloc (.cells (celC xc xr xi) 61)).drew.cell? ⟨wr.heap.size, 0, none⟩ = some (.string ⟨xc.toArray⟩) := HBX.out.cell 0
        have b1 : (wr.alloc (.cells (celC xc xr xi) 61)).drew.cell? ⟨wr.heap.size, 1, none⟩ = some (.int .i64 xr) := HBX.out.cell 1
        have b2 : (wr.alloc (.cells (celC xc xr xi) 61)).drew.cell? ⟨wr.heap.size, 2, none⟩ = some (.bool xi) := HBX.out.cell 2
        have y0' : (wr.alloc (.cells (celC xc xr xi) 61)).drew.cell? ⟨g, t.length * 3, none⟩ = some (.string ⟨yc.toArray⟩) := y0
        have y1' : (wr.alloc (.cells (celC xc xr xi) 61)).drew.cell? ⟨g, t.length * 3 + 1, none⟩ = some (.int .i64 yr) := y1
        have y2' : (wr.alloc (.cells (celC xc xr xi) 61)).drew.cell? ⟨g, t.length * 3 + 2, none⟩ = some (.bool yi) := y2
        have HD := Lib.hid (HBB.out.drewN 1)
        have HO1d := Lib.hid (own_drew HO1.out)
        have HBXd := Lib.hid (HBX.out.drewN 1)
        generalize hw1 : wr.alloc (.cells (celC xc xr xi) 61) = w1 at *
        have HW1 := Lib.hid hw1
        clear hw1 x0 x1 x2 y0 y1 y2
        have HC := Lib.hid (inverseCell_any xc xr xi w1.drew)
        have HYES : Hid ((⟨yc, yr, yi⟩ : Cel) = ⟨xc, xr, !xi⟩ → t = grun invC [] (l.take (k + 1))) := Lib.hid (fun h => by
          rw [← HSN.out]
          show t = if (⟨yc, yr, yi⟩ : Cel) = invC ⟨xc, xr, xi⟩ then t else _
          rw [if_pos (by rw [h]; rfl)])
        have HNO : Hid (¬ (⟨yc, yr, yi⟩ : Cel) = ⟨xc, xr, !xi⟩ → ⟨xc, xr, xi⟩ :: ⟨yc, yr, yi⟩ :: t = grun invC [] (l.take (k + 1))) := Lib.hid (fun h => by
          rw [← HSN.out]
          show _ = if (⟨yc, yr, yi⟩ : Cel) = invC ⟨xc, xr, xi⟩ then t else ⟨xc, xr, xi⟩ :: ⟨yc, yr, yi⟩ :: t
          rw [if_neg (show ¬ (⟨yc, yr, yi⟩ : Cel) = invC ⟨xc, xr, xi⟩ from h)])
        cases hcc : decide ((⟨yc, yr, yi⟩ : Cel) = ⟨xc, xr, !xi⟩) with
        | true =>
          have hE : ∀ wx, (binOp .eql 61 (.agg #[.string ⟨yc.toArray⟩, .int .i64 yr, .bool yi]) (.agg #[.string ⟨xc.toArray⟩, .int .i64 xr, .bool (!xi)])).run Try.prog wx = .ok (.bool true) wx := fun wx => by rw [eqC, hcc]
          have HSN2 : Hid (t = grun invC [] (l.take (k + 1))) := Lib.hid (HYES.out (of_decide_eq_true hcc))
          have HT := Lib.hid (own_take (m := t.length) (by omega) HO1d.out)
          clear hcc
          go_region_held3 (fun W => W.cell? ⟨g, t.length * 3, none⟩ = some (.string ⟨yc.toArray⟩) ∧ W.cell? ⟨g, t.length * 3 + 1, none⟩ = some (.int .i64 yr) ∧ W.cell? ⟨g, t.length * 3 + 2, none⟩ = some (.bool yi) ∧ W.cell? ⟨wr.heap.size, 0, none⟩ = some (.string ⟨xc.toArray⟩) ∧ W.cell? ⟨wr.heap.size, 1, none⟩ = some (.int .i64 xr) ∧ W.cell? ⟨wr.heap.size, 2, none⟩ = some (.bool xi))
            (first | with_reducible exact ⟨y0', y1', y2', b0, b1, b2⟩ | with_reducible exact ⟨z0, z1, z2, c0, c1, c2⟩)
            (first | (go_at_call 48; ((with_reducible refine HC.out.mono ?_); rintro e w2 ⟨rfl, hb2⟩; have z0 := (hb2.cell (p := ⟨g, t.length * 3, none⟩) (lt_of_cell y0')).trans y0'; have z1 := (hb2.cell (p := ⟨g, t.length * 3 + 1, none⟩) (lt_of_cell y1')).trans y1'; have z2 := (hb2.cell (p := ⟨g, t.length * 3 + 2, none⟩) (lt_of_cell y2')).trans y2'; have c0 := (hb2.cell (p := ⟨wr.heap.size, 0, none⟩) (lt_of_cell b0)).trans b0; have c1 := (hb2.cell (p := ⟨wr.heap.size, 1, none⟩) (lt_of_cell b1)).trans b1; have c2 := (hb2.cell (p := ⟨wr.heap.size, 2, none⟩) (lt_of_cell b2)).trans b2; have HB2 := Lib.hid hb2; clear hb2 y0' y1' y2' b0 b1 b2)))
          all_goals (
            rename_i hHeld
            clear hHeld z0 z1 z2 c0 c1 c2 hE
            have HT2 := Lib.hid (own_below HT.out HB2.out)
            have HBX2 := Lib.hid (HD.out.trans (HB2.out.mono HD.out.size))
            go_wp2
            go_roundw
            case rel => exact ⟨k + 1, t, _, t.length, oc, by omega, by go_num, HSN2.out, rfl, by omega, (fun c hc => HSS.out c (List.mem_cons_of_mem _ hc)), rfl, by have := HT2.out; rwa [List.reverse_cons, cs3_app, List.take_left' (by rw [cs3_len, List.length_reverse])] at this, HBX2.out⟩
            case measure => simp [intOf]; omega)
        | false =>
          have hE : ∀ wx, (binOp .eql 61 (.agg #[.string ⟨yc.toArray⟩, .int .i64 yr, .bool yi]) (.agg #[.string ⟨xc.toArray⟩, .int .i64 xr, .bool (!xi)])).run Try.prog wx = .ok (.bool false) wx := fun wx => by rw [eqC, hcc]
          have HSN2 := Lib.hid (HNO.out (of_decide_eq_false hcc))
          clear hcc
          go_region_held3 (fun W => W.cell? ⟨g, t.length * 3, none⟩ = some (.string ⟨yc.toArray⟩) ∧ W.cell? ⟨g, t.length * 3 + 1, none⟩ = some (.int .i64 yr) ∧ W.cell? ⟨g, t.length * 3 + 2, none⟩ = some (.bool yi) ∧ W.cell? ⟨wr.heap.size, 0, none⟩ = some (.string ⟨xc.toArray⟩) ∧ W.cell? ⟨wr.heap.size, 1, none⟩ = some (.int .i64 xr) ∧ W.cell? ⟨wr.heap.size, 2, none⟩ = some (.bool xi))
            (first | with_reducible exact ⟨y0', y1', y2', b0, b1, b2⟩ | with_reducible exact ⟨z0, z1, z2, c0, c1, c2⟩)
            (first | (go_at_call 48; ((with_reducible refine HC.out.mono ?_); rintro e w2 ⟨rfl, hb2⟩; have z0 := (hb2.cell (p := ⟨g, t.length * 3, none⟩) (lt_of_cell y0')).trans y0'; have z1 := (hb2.cell (p := ⟨g, t.length * 3 + 1, none⟩) (lt_of_cell y1')).trans y1'; have z2 := (hb2.cell (p := ⟨g, t.length * 3 + 2, none⟩) (lt_of_cell y2')).trans y2'; have c0 := (hb2.cell (p := ⟨wr.heap.size, 0, none⟩) (lt_of_cell b0)).trans b0; have c1 := (hb2.cell (p := ⟨wr.heap.size, 1, none⟩) (lt_of_cell b1)).trans b1; have c2 := (hb2.cell (p := ⟨wr.heap.size, 2, none⟩) (lt_of_cell b2)).trans b2; have HB2 := Lib.hid hb2; clear hb2 y0' y1' y2' b0 b1 b2)))
          all_goals (
            rename_i hHeld
            clear hHeld z0 z1 z2 hE
            have HO2 := Lib.hid (own_below HO1d.out HB2.out)
            have HBX2 := Lib.hid (HD.out.trans (HB2.out.mono HD.out.size))
            go_wp2_with (at_builtin; refine append_oneC w2 rfl (.tmp 34) (.tmp 36) rfl w.heap.size _ (t.length + 1) oc (⟨yc, yr, yi⟩ :: t).reverse xc xr xi HXS.out rfl HO2.out rfl (by omega) HBX2.out.size ?_; intro A' cap' w4 hown4 hg4 hm4)
            have H4 := Lib.hid hown4
            have B4 := Lib.hid (below_of_grown HBX2.out hg4 HBX2.out.size (own_ge HO2.out))
            clear hown4 hg4 hm4
            go_wp2
            go_roundw
            case rel => exact ⟨k + 1, ⟨xc, xr, xi⟩ :: ⟨yc, yr, yi⟩ :: t, A', t.length + 1 + 1, cap', by omega, by go_num, HSN2.out, rfl, by omega, (fun c hc => by rcases List.mem_cons.1 hc with rfl | hc; exact HXS.out; exact HSS.out c hc), rfl, by have := H4.out; rwa [← List.reverse_cons] at this, B4.out⟩
            case measure => simp [intOf]; omega)
    · obtain rfl : k = l.length := by omega
      have HR : Hid (s.reverse = gred invC l) := Lib.hid (by rw [HS.out, List.take_length]; rfl)
      have HLN : Hid (n = (gred invC l).length) := Lib.hid (by rw [← HR.out, List.length_reverse, hns])
      go_wp2
      go_ret
      refine ⟨O, oc, ?_, ?_, HB.out⟩
      · rw [← HLN.out]; rfl
      · rw [← HLN.out, ← HR.out]; exact HOW.out
end Go.Proofs.Ytbcckfggnlmhoaa

namespace Go.Proofs.Ytbcckfggnlmhoaa
open Go Go.RowKit

theorem redC_len (c : Cel) : (redC c).conj.length ≤ c.conj.length := gred_len _ _
theorem sized_map {f : Cel → Cel} (hf : ∀ c, (f c).conj.length ≤ c.conj.length) {l : List Cel} (h : Sized l) (k : Nat) : Sized ((l.take k).map f ++ l.drop k) := by
  intro c hc
  rcases List.mem_append.1 hc with hc | hc
  · obtain ⟨x, hx, rfl⟩ := List.mem_map.1 hc
    exact Nat.le_trans (hf x) (h x (List.mem_of_mem_take hx))
  · exact h c (List.mem_of_mem_drop hc)
theorem own_conj {w : World} {B n cap g : Nat} {f : Cel → Cel} {l : List Cel} {k : Nat} (hk : k < l.length) (h : w.ownsRow B 61 3 (.slice (some ⟨g, 0, none⟩) n cap) n (cs3 ((l.take k).map f ++ l.drop k))) (hr : (f l[k]).rel = (l[k]).rel) (hi : (f l[k]).inv = (l[k]).inv) :
    (w.setCell ⟨g, k * 3, none⟩ (.string ⟨(f l[k]).conj.toArray⟩)).ownsRow B 61 3 (.slice (some ⟨g, 0, none⟩) n cap) n (cs3 ((l.take (k + 1)).map f ++ l.drop (k + 1))) := by
  have e := map_take_set f l k hk
  have hlen : k < ((l.take k).map f ++ l.drop k).length := by rw [map_take_len]; exact hk
  have hg := map_take_get f l k hk hlen
  have hc : f l[k] = ⟨(f l[k]).conj, (((l.take k).map f ++ l.drop k)[k]).rel, (((l.take k).map f ++ l.drop k)[k]).inv⟩ := by rw [hg, ← hr, ← hi]
  rw [← e, hc, cs3_set0 _ k _ hlen]
  exact (h.stored _ _).1

set_option maxHeartbeats 4000000 in
set_option maxRecDepth 100000 in
theorem simplified_any (A : Option Addr) (cap : Nat) (l : List Cel) (w : World) (hl : CellsAt w A l) (hA : A = none → l = []) (hs : ∀ c ∈ l, c.conj.length ≤ 1000000000) (hn : l.length ≤ 1000000000) :
    Calls Try.prog 53 #[.slice A l.length cap] w (CloneC w (simp4 l)) := by
  have hC := CloneC_any A cap l w hl hA hn
  have HSL := Lib.hid hs
  have HSZ := Lib.hid (show Sized l from fun c hc => Nat.le_trans (hs c hc) (by omega))
  clear hl hA hs
  go_enter Try.func53, Try.ntmps53
  go_wp2_with fail
  refine hC.mono ?_
  rintro e w1 ⟨A1, c1, rfl, hown1, hb1⟩
  have HB1 := Lib.hid hb1
  have HO1 := Lib.hid hown1
  clear hown1 hb1 hC
  go_wp2
  go_loopw [4, 5, 10] (fun _ _ i wr => ∃ (k : Nat), k ≤ l.length ∧ i = .int .i64 (k : Int) ∧ wr.ownsRow w.heap.size 61 3 (.slice A1 l.length c1) l.length (cs3 ((l.take k).map redC ++ l.drop k)) ∧ Below w.heap.size w wr)
    (fun _ _ i _ => l.length - (intOf i).toNat)
  case atStart => exact ⟨0, Nat.zero_le _, rfl, by simpa using HO1.out, HB1.out⟩
  case round =>
    obtain ⟨k, hk, rfl, hown, hb⟩ := hrel
    have HOW := Lib.hid hown
    have HB := Lib.hid hb
    clear hown hb
    by_cases hlt : k < l.length
    · obtain ⟨g, o, hA, hx⟩ := cells_own HOW.out (sized_map redC_len HSZ.out k) k (by rw [map_take_len]; exact hlt)
      obtain rfl : o = 0 := by
        rcases own_shape HOW.out with ⟨h, _⟩ | ⟨g', h, _⟩
        · rw [hA] at h; cases h
        · rw [hA] at h; cases h; rfl
      subst hA
      rw [Nat.zero_add, map_take_get redC l k hlt] at hx
      have HST := Lib.hid (fun (W : World) (hW : W.ownsRow w.heap.size 61 3 (.slice (some ⟨g, 0, none⟩) l.length c1) l.length (cs3 ((l.take k).map redC ++ l.drop k))) => own_conj (f := redC) hlt hW rfl rfl)
      have hc9 := HSL.out l[k] (List.getElem_mem _)
      generalize l[k] = x at *
      obtain ⟨xc, xr, xi⟩ := x
      obtain ⟨x0, x1, x2, x3⟩ := hx
      simp only at x0 x1 x2 x3 hc9
      have HB1' : Hid (Below wr.heap.size wr (wr.alloc (.cells (celC xc xr xi) 61))) := Lib.hid ((Below.refl _ _).alloc (Nat.le_refl _) _)
      have hI := reduced_any xc (wr.alloc (.cells (celC xc xr xi) 61)) hc9
      clear x3
      go_wp2_with fail
      refine hI.mono ?_
      rintro e w3 ⟨rfl, hb3⟩
      have HB3 := Lib.hid (HB1'.out.trans (hb3.mono HB1'.out.size))
      have HO3 := Lib.hid (own_below HOW.out HB3.out)
      have f0 := HO3.out.frozenAt (k * 3)
      have z0 : w3.cell? ⟨g, k * 3, none⟩ = some (.string ⟨xc.toArray⟩) := (HB3.out.cell (p := ⟨g, k * 3, none⟩) (lt_of_cell x0)).trans x0
      clear x0 x1 x2 hb3 hI
      go_wp2
      go_roundw
      case rel =>
        have hgB := own_ge HO3.out _ rfl
        have h3 := HST.out w3 HO3.out
        exact ⟨k + 1, by omega, by go_num, h3, HB.out.trans ((HB3.out.mono HB.out.size).trans ((Below.refl _ w3).setCell (p := ⟨g, k * 3, none⟩) hgB _))⟩
      case measure => simp [intOf]; omega
    · obtain rfl : k = l.length := by omega
      have HE : Hid ((l.take l.length).map redC ++ l.drop l.length = l.map redC) := Lib.hid (by rw [List.take_length, List.drop_length, List.append_nil])
      have HO2 := HOW.out
      rw [HE.out] at HO2
      have hsm : Sized (l.map redC) := by have := sized_map redC_len HSZ.out l.length; rwa [HE.out] at this
      have hml : (l.map redC).length = l.length := List.length_map _
      have hR := appRedC_any (l.map redC) A1 c1 wr (cells_own HO2 hsm) hsm (by rw [hml]; exact hn)
      rw [hml] at hR
      clear HO2 hsm hml
      go_wp2_with fail
      refine hR.mono ?_
      rintro e w5 ⟨A5, c5, rfl, hown5, hb5⟩
      have HO5 := Lib.hid hown5
      have HB5 := Lib.hid hb5
      clear hown5 hb5 hR
      go_wp2
      go_ret
      exact ⟨A5, c5, rfl, own_base HO5.out HB.out.size, HB.out.trans (HB5.out.mono HB.out.size)⟩
end Go.Proofs.Ytbcckfggnlmhoaa

namespace Go.Proofs.Ytbcckfggnlmhoaa
open Go Go.RowKit

def GrowC (w : World) (e : Ending) (w' : World) : Prop :=
  ∃ A cap, e = .returned (.slice A 0 cap) ∧ w'.ownsRow w.heap.size 61 3 (.slice A 0 cap) 0 (cs3 []) ∧ Below w.heap.size w w'

set_option maxHeartbeats 1000000 in
set_option maxRecDepth 100000 in
theorem Grow_any (n : Nat) (hn : n ≤ 1000000000) (w : World) : Calls Try.prog 78 #[.slice none 0 0, .int .i64 (n : Int)] w (GrowC w) := by
  by_cases h0 : n = 0
  · subst h0
    go_enter Try.func78, Try.ntmps78
    go_wp2
    go_ret
    exact ⟨none, 0, rfl, World.ownsRow_nil _ _ _ _, Below.refl _ _⟩
  · obtain ⟨i0, hi, hz0, hz1, hz2⟩ := info_parts Try.info61
    have hr := Lib.run_append_nil_zeros (P := Try.prog) w 25 3 25 61 i0 (.agg #[.string ⟨#[]⟩, .int .i64 0, .bool false]) .i64 .i64 Try.underlying25 Try.underlying3 hi hz0 n (by omega) (by rw [hz1]; decide) (by omega) (by rw [hz2]; omega)
    have hcm : grownCap w n 0 61 ≤ maxLen := grownCap_le_maxLen w n 0 61 (by unfold maxLen; omega)
    have hge : n ≤ grownCap w n 0 61 := grownCap_ge w n 0 61
    generalize grownCap w n 0 61 = c at *
    generalize hZ : (Builtin.zeroCells (Value.cells (.agg #[.string ⟨#[]⟩, .int .i64 0, .bool false])) n ++ Builtin.zeroCells (Value.cells (.agg #[.string ⟨#[]⟩, .int .i64 0, .bool false])) (c - n)) = Z at hr
    have hZs : Z.size = c * 3 := by rw [← hZ]; simp [size_zeroCells, Value.cells]; omega
    have hown : (w.drew.alloc (.cells Z 61)).ownsRow w.heap.size 61 3 (.slice (some ⟨w.heap.size, 0, none⟩) 0 c) 0 (cs3 []) :=
      ⟨rfl, .inr ⟨w.heap.size, c, Z, rfl, Nat.le_refl _, heap_alloc_new w.drew _, Nat.zero_le _, hcm, hZs, by simp [cs3]⟩⟩
    have hb : Below w.heap.size w (w.drew.alloc (.cells Z 61)) := ((Below.refl w.heap.size w).drewN 1).alloc (Nat.le_refl _) _
    have HO := Lib.hid hown
    have HB := Lib.hid hb
    have HRR := Lib.hid hr
    have hn1 : 1 ≤ n := by omega
    clear hown hb hZ hZs hcm hi hz0 hz1 hz2 hr h0
    go_enter Try.func78, Try.ntmps78
    go_wp2_with (at_builtin; refine Lib.wpList_append_run _ rfl _ _ _ _ rfl _ _ rfl rfl _ _ HRR.out ?_)
    go_ret
    exact ⟨_, c, rfl, HO.out, HB.out⟩

/-- append of cells, or of nothing, to an own row. -/
theorem append_opt {ops : Array Oper} {rest : List Oper} {o : Oper} {a : Act} {Q : Exit → Act → World → Prop} (w : World) (hgd : o.guard = none) (s x : Operand)
    (ho : o.op = .call { callee := .builtin .append, args := #[s, x], argTypes := #[25, 25] })
    (B : Nat) (A : Option Addr) (n cap : Nat) (r t : List Cel) (hs : a.eval s = .slice A n cap) (hown : w.ownsRow B 61 3 (.slice A n cap) n (cs3 r))
    (X : Option Addr) (m c : Nat) (hx : a.eval x = .slice X m c) (hm : m = t.length) (hr : CellsAt w X t) (hX : X = none → t = [] ∧ c = 0) (hn : n + m ≤ 1000000000) (hB : B ≤ w.heap.size)
    (h : ∀ A' cap' w', w'.ownsRow B 61 3 (.slice A' (n + m) cap') (n + m) (cs3 (r ++ t)) → Below B w w' → wpList Try.prog ops Q rest (a.put o.dst (.slice A' (n + m) cap')) w') :
    wpList Try.prog ops Q (o :: rest) a w := by
  cases X with
  | none =>
    obtain ⟨rfl, rfl⟩ := hX rfl
    obtain rfl : m = 0 := hm
    obtain ⟨i0, hi, hz0, hz1, hz2⟩ := info_parts Try.info61
    refine wpList_append_own_none hgd s x 25 ho B 61 i0 3 Try.underlying25 hi _ n (cs3 r) hs hown hx ?_
    have := h A cap w (by simpa using hown) (Below.refl _ _)
    simpa using this
  | some ad => exact append_cells w hgd s x ho B A n cap r t hs hown ad c m hm hx hr (by omega) hB (fun A' cap' w' h1 h2 _ => h A' cap' w' h1 (below_of_grown (Below.refl B w) h2 hB (own_ge hown)))

set_option maxHeartbeats 4000000 in
set_option maxRecDepth 100000 in
theorem SConcat_any (g : Nat) (A B : Option Addr) (a b : List Cel) (cap capb : Nat) (w : World) (hx0 : w.cell? ⟨g, 0, none⟩ = some (.slice A a.length cap)) (hx1 : w.cell? ⟨g, 1, none⟩ = some (.slice B b.length capb)) (hr : CellsAt w A a) (hr' : CellsAt w B b)
    (hA : A = none → a = [] ∧ cap = 0) (hB : B = none → b = [] ∧ capb = 0) (hn : a.length + b.length ≤ 1000000000) :
    Calls Try.prog 45 #[.slice (some ⟨g, 0, none⟩) 2 2] w (CloneC w (a ++ b)) := by
  have hg := lt_of_cell hx0
  simp only at hg
  have HX0 := Lib.hid hx0
  have HX1 := Lib.hid hx1
  have HR := Lib.hid hr
  have HR' := Lib.hid hr'
  have HA := Lib.hid hA
  have HB := Lib.hid hB
  clear hr hr' hA hB
  go_enter Try.func45, Try.ntmps45
  go_wp2
  go_loop [3, 5, 11] (fun s3 _ i => ∃ k : Nat, k ≤ 2 ∧ i = .int .i64 (k : Int) ∧ s3 = .int .i64 (if k = 0 then 0 else if k = 1 then (a.length : Int) else (a.length : Int) + (b.length : Int))) (fun _ _ i => 2 - (intOf i).toNat)
  case atStart => exact ⟨0, by omega, rfl, rfl⟩
  case round =>
    obtain ⟨k, hk, rfl, rfl⟩ := hrel
    by_cases hk0 : k = 0
    · subst hk0
      rw [if_pos rfl]
      go_wp2
      go_round
      case rel => exact ⟨1, by omega, by go_num, by simp⟩
      case measure => simp [intOf]
    · by_cases hk1 : k = 1
      · subst hk1
        rw [if_neg (by omega), if_pos rfl]
        go_wp2
        go_round
        case rel => exact ⟨2, by omega, by go_num, by simp⟩
        case measure => simp [intOf]
      · obtain rfl : k = 2 := by omega
        rw [if_neg (by omega), if_neg (by omega)]
        clear hx0 hx1
        go_wp2_with fail
        have hG := Grow_any (a.length + b.length) hn w
        rw [Int.natCast_add] at hG
        refine hG.mono ?_
        rintro e w1 ⟨A1, c1, rfl, hown1, hb1⟩
        have HO1 := Lib.hid hown1
        have HB1 := Lib.hid hb1
        clear hown1 hb1 hG hk0 hk1 hk
        go_wp2
        go_loopw [6, 8, 27] (fun o _ i wr => ∃ (k : Nat) (A' : Option Addr) (n cap' : Nat), k ≤ 2 ∧ i = .int .i64 (k : Int) ∧ o = .slice A' n cap' ∧ n = (if k = 0 then 0 else if k = 1 then a.length else a.length + b.length) ∧ wr.ownsRow w.heap.size 61 3 (.slice A' n cap') n (cs3 (if k = 0 then [] else if k = 1 then a else a ++ b)) ∧ Below w.heap.size w wr) (fun _ _ i _ => 2 - (intOf i).toNat)
        case atStart => exact ⟨0, A1, 0, c1, by omega, rfl, rfl, rfl, HO1.out, HB1.out⟩
        case round =>
          obtain ⟨k, A', n, cap', hk, rfl, rfl, hnn, hown, hbw⟩ := hrel
          have HBW := Lib.hid hbw
          by_cases hk0 : k = 0
          · subst hk0
            rw [if_pos rfl] at hnn hown
            subst hnn
            have HO := Lib.hid hown
            have hx0 : wr.cell? ⟨g, 0, none⟩ = some (.slice A a.length cap) := (HBW.out.cell (p := ⟨g, 0, none⟩) hg).trans HX0.out
            clear hown hbw
            go_wp2_with (at_builtin; refine append_opt wr rfl (.tmp 31) (.tmp 32) rfl w.heap.size A' 0 cap' [] a rfl HO.out A a.length cap rfl rfl (HR.out.below HBW.out) HA.out (by omega) HBW.out.size ?_; intro A9 cap9 w9 hown9 hb9; have HO9 := Lib.hid hown9; have HB9 := Lib.hid hb9; clear hown9 hb9)
            go_roundw
            case rel => exact ⟨1, A9, _, cap9, by omega, by go_num, rfl, by simp, by simpa using HO9.out, HBW.out.trans HB9.out⟩
            case measure => simp [intOf]
          · by_cases hk1 : k = 1
            · subst hk1
              rw [if_neg (by omega), if_pos rfl] at hnn hown
              subst hnn
              have HO := Lib.hid hown
              have hx1 : wr.cell? ⟨g, 1, none⟩ = some (.slice B b.length capb) := (HBW.out.cell (p := ⟨g, 1, none⟩) hg).trans HX1.out
              clear hown hbw
              go_wp2_with (at_builtin; refine append_opt wr rfl (.tmp 31) (.tmp 32) rfl w.heap.size A' a.length cap' a b rfl HO.out B b.length capb rfl rfl (HR'.out.below HBW.out) HB.out (by omega) HBW.out.size ?_; intro A9 cap9 w9 hown9 hb9; have HO9 := Lib.hid hown9; have HB9 := Lib.hid hb9; clear hown9 hb9)
              go_roundw
              case rel => exact ⟨2, A9, _, cap9, by omega, by go_num, rfl, by simp, by simpa using HO9.out, HBW.out.trans HB9.out⟩
              case measure => simp [intOf]
            · obtain rfl : k = 2 := by omega
              rw [if_neg (by omega), if_neg (by omega)] at hnn hown
              subst hnn
              have HO := Lib.hid hown
              clear hown hbw
              go_wp2
              go_ret
              exact ⟨A', cap', by rw [List.length_append]; rfl, by rw [List.length_append]; exact HO.out, HBW.out⟩
end Go.Proofs.Ytbcckfggnlmhoaa

namespace Go.Proofs.Ytbcckfggnlmhoaa
open Go Go.RowKit

/-- A list of cells and an error, handed back. -/
def CellsP (w : World) (l : List Cel) (c : Int) (e : Ending) (w' : World) : Prop :=
  ∃ A cap, e = .returned (.tuple #[.slice A l.length cap, .int .i64 c]) ∧ CellsAt w' A l ∧ (A = none → l = [] ∧ cap = 0) ∧ Below w.heap.size w w'
theorem CellsP.no {w w' : World} {c : Int} (hb : Below w.heap.size w w') : CellsP w [] c (.returned (.tuple #[.slice none 0 0, .int .i64 c])) w' :=
  ⟨none, 0, rfl, (fun i hi => absurd hi (Nat.not_lt_zero i)), fun _ => ⟨rfl, rfl⟩, hb⟩
theorem CellsP.of_own {w w' : World} {B : Nat} {l : List Cel} {c : Int} {A : Option Addr} {cap : Nat} (hown : w'.ownsRow B 61 3 (.slice A l.length cap) l.length (cs3 l)) (hs : Sized l) (hb : Below w.heap.size w w') : CellsP w l c (.returned (.tuple #[.slice A l.length cap, .int .i64 c])) w' := by
  refine ⟨A, cap, rfl, cells_own hown hs, fun h => ?_, hb⟩
  rcases own_shape hown with ⟨_, h2, h3⟩ | ⟨g, h2, _⟩
  · exact ⟨List.length_eq_zero_iff.1 h2, h3⟩
  · rw [h] at h2; cases h2

theorem disk_sized {p : Pr} {d : List Cel} (h : diskB p d = true) : Sized d := fun c hc => by
  have := isWd_len ((diskB_facts h).2.2 c hc).2; omega
theorem cell_sized {w : World} {D : Option Addr} {d : List Cel} (h : CellsAt w D d) : Sized d := fun c hc => by
  obtain ⟨i, hi, rfl⟩ := List.getElem_of_mem hc
  obtain ⟨b, o, _, h2⟩ := h i hi
  exact h2.len

theorem disks_two {w : World} {D E : Option Addr} {dc ec : Nat} {d e : List Cel} (hd : CellsAt w D d) (he : CellsAt w E e) (hm : d.length ≤ 5000000000000) (hm' : e.length ≤ 5000000000000) (t : TypeId) :
    DisksAt (w.alloc (.cells #[.slice D d.length dc, .slice E e.length ec] t)) (some ⟨w.heap.size, 0, none⟩) [⟨D, dc, d⟩, ⟨E, ec, e⟩] := by
  intro i hi
  have h2 : i = 0 ∨ i = 1 := by simp at hi; omega
  rcases h2 with rfl | rfl
  · exact ⟨w.heap.size, 0, rfl, by rw [Nat.zero_add, alloc_cell]; rfl, hd.below ((Below.refl _ w).alloc (Nat.le_refl _) _), hm⟩
  · exact ⟨w.heap.size, 0, rfl, by rw [Nat.zero_add, alloc_cell]; rfl, he.below ((Below.refl _ w).alloc (Nat.le_refl _) _), hm'⟩

/-- What Product, Inverse, Simplify hand back. -/
def prodI (p : Pr) (d e : List Cel) : Int := if chk p [] [d, e] = 0 then (if diskB p (d ++ e) = true then 0 else 2) else chk p [] [d, e]
def prodL (p : Pr) (d e : List Cel) : List Cel := if prodI p d e = 0 then d ++ e else []
def invL (p : Pr) (d : List Cel) : List Cel := if chk p [] [d] = 0 then ginv invC d else []
def simL (p : Pr) (d : List Cel) : List Cel := if chk p [] [d] = 0 then simp4 d else []

set_option maxHeartbeats 4000000 in
set_option maxRecDepth 100000 in
theorem Product_any (p : Pr) (R : Option Addr) (rc : Nat) (D : Option Addr) (dc : Nat) (d : List Cel) (E : Option Addr) (ec : Nat) (e : List Cel) (w : World) (hr : RelsAt w R p.rels) (hm : p.rels.length ≤ maxLen) (hd : CellsAt w D d) (hdm : d.length ≤ 5000000000000) (hD : D = none → d = [] ∧ dc = 0)
    (he : CellsAt w E e) (hem : e.length ≤ 5000000000000) (hE : E = none → e = [] ∧ ec = 0) :
    Calls Try.prog 20 #[prV p.k R p.rels.length rc, .slice D d.length dc, .slice E e.length ec] w (CellsP w (prodL p d e) (prodI p d e)) := by
  have HBX := Lib.hid (Boxd.start w (prC p.k R p.rels.length rc) 24)
  have HB1 := Lib.hid (HBX.out.on (Boxd.start (w.alloc (.cells (prC p.k R p.rels.length rc) 24)) #[.slice D d.length dc, .slice E e.length ec] 25).old)
  have hX := examine_any p R rc none 0 [] (some ⟨(w.alloc (.cells (prC p.k R p.rels.length rc) 24)).heap.size, 0, none⟩) 2 [⟨D, dc, d⟩, ⟨E, ec, e⟩] ((w.alloc (.cells (prC p.k R p.rels.length rc) 24)).alloc (.cells #[.slice D d.length dc, .slice E e.length ec] 25)) (hr.below HB1.out.old) hm (rels_none _ _) (disks_two (hd.below HBX.out.old) (he.below HBX.out.old) hdm hem 25) (by simp) (by simp)
  simp only [World.size_alloc, List.map_cons, List.map_nil, List.length_cons, List.length_nil] at hX
  have HM := Lib.hid hm
  have HREL := Lib.hid hr
  have HCD := Lib.hid hd
  have HCE := Lib.hid he
  have HDN := Lib.hid hD
  have HEN := Lib.hid hE
  clear hr hd he hm hD hE
  by_cases hk : chk p [] [d, e] = 0
  · have HK := Lib.hid hk
    have HPI : Hid (prodI p d e = if diskB p (d ++ e) = true then 0 else 2) := Lib.hid (if_pos hk)
    have hdb := (chk_ok hk).2.2
    simp only [List.all_cons, List.all_nil, Bool.and_true, Bool.and_eq_true] at hdb
    have hd1 := (diskB_facts hdb.1).1
    have he1 := (diskB_facts hdb.2).1
    have HSD := Lib.hid (show Sized (d ++ e) from fun c hc => by
      rcases List.mem_append.1 hc with hc | hc
      · exact disk_sized hdb.1 c hc
      · exact disk_sized hdb.2 c hc)
    rw [hk] at hX
    clear hk hdb
    go_enter Try.func20, Try.ntmps20
    go_wp2_with fail
    refine hX.mono ?_
    rintro e1 w1 ⟨rfl, hb1⟩
    have HX := Lib.hid (HB1.out.on' (hb1.mono (by omega)))
    have hB0 : Below w1.heap.size w1 (w1.alloc (.cells #[.slice D d.length dc, .slice E e.length ec] 25)) := (Below.refl _ _).alloc (Nat.le_refl _) _
    have HX2 := Lib.hid (HX.out.on hB0)
    have hcc := alloc_cell w1 #[.slice D d.length dc, .slice E e.length ec] 25
    have hC := SConcat_any w1.heap.size D E d e dc ec (w1.alloc (.cells #[.slice D d.length dc, .slice E e.length ec] 25)) (hcc 0) (hcc 1) (HCD.out.below HX2.out.old) (HCE.out.below HX2.out.old) HDN.out HEN.out (by omega)
    have HPL0 : Hid (prodI p d e = 0 → prodL p d e = d ++ e) := Lib.hid (fun h => if_pos h)
    have hxl : (d ++ e).length ≤ 200000 := by rw [List.length_append]; omega
    generalize d ++ e = x at *
    clear hX hb1 hB0 hcc
    go_wp2_with fail
    refine hC.mono ?_
    rintro e2 w2 ⟨A2, c2, rfl, hown2, hb2⟩
    have HX3 := Lib.hid (HX2.out.on hb2)
    have HO2 := Lib.hid hown2
    have hI := isDisk_any p R rc A2 c2 x w2 (cells_own hown2 HSD.out) HM.out (by unfold maxLen; omega)
    have c0 := HX3.out.cell 0
    have c1 := HX3.out.cell 1
    simp only [List.getElem?_toArray, List.getElem?_cons_zero, List.getElem?_cons_succ] at c0 c1
    clear hC hown2 hb2
    cases hb : diskB p x with
    | false =>
      rw [hb] at hI
      have HP2 : Hid (prodI p d e = 2) := Lib.hid (by rw [HPI.out, hb]; rfl)
      have HPL : Hid (prodL p d e = []) := Lib.hid (by unfold prodL; rw [HP2.out]; rfl)
      clear hb
      go_wp2_with fail
      refine hI.mono ?_
      rintro e3 w3 ⟨rfl, hb3⟩
      have HX4 := Lib.hid (HX3.out.on hb3)
      clear hb3 hI c0 c1
      go_wp2
      go_ret2
      rw [HP2.out, HPL.out]
      exact CellsP.no HX4.out.old
    | true =>
      rw [hb] at hI
      have HP2 : Hid (prodI p d e = 0) := Lib.hid (by rw [HPI.out, hb]; rfl)
      have HPL : Hid (prodL p d e = x) := Lib.hid (HPL0.out HP2.out)
      clear hb
      go_wp2_with fail
      refine hI.mono ?_
      rintro e3 w3 ⟨rfl, hb3⟩
      have HX4 := Lib.hid (HX3.out.on hb3)
      have HO4 := Lib.hid (own_below HO2.out hb3)
      clear hb3 hI c0 c1
      go_wp2
      go_ret2
      rw [HP2.out, HPL.out]
      exact CellsP.of_own HO4.out HSD.out HX4.out.old
  · have HPI : Hid (prodI p d e = chk p [] [d, e]) := Lib.hid (if_neg hk)
    have HPL : Hid (prodL p d e = []) := Lib.hid (by unfold prodL; rw [HPI.out, if_neg hk])
    have hne : (chk p [] [d, e] != 0) = true := by simpa using hk
    clear hk
    generalize chk p [] [d, e] = q at *
    go_enter Try.func20, Try.ntmps20
    go_wp2_with fail
    refine hX.mono ?_
    rintro e1 w1 ⟨rfl, hb1⟩
    have HX := Lib.hid (HB1.out.on' (hb1.mono (by omega)))
    clear hb1 hX
    go_wp2
    go_ret2
    rw [HPI.out, HPL.out]
    exact CellsP.no HX.out.old

set_option maxHeartbeats 4000000 in
set_option maxRecDepth 100000 in
theorem Inverse_any (p : Pr) (R : Option Addr) (rc : Nat) (D : Option Addr) (dc : Nat) (d : List Cel) (w : World) (hr : RelsAt w R p.rels) (hm : p.rels.length ≤ maxLen) (hd : CellsAt w D d) (hdm : d.length ≤ 5000000000000) (hD : D = none → d = [] ∧ dc = 0) :
    Calls Try.prog 21 #[prV p.k R p.rels.length rc, .slice D d.length dc] w (CellsP w (invL p d) (chk p [] [d])) := by
  have HBX := Lib.hid (Boxd.start w (prC p.k R p.rels.length rc) 24)
  have HB1 := Lib.hid (HBX.out.on (Boxd.start (w.alloc (.cells (prC p.k R p.rels.length rc) 24)) #[.slice D d.length dc] 25).old)
  have hX := examine_any p R rc none 0 [] (some ⟨(w.alloc (.cells (prC p.k R p.rels.length rc) 24)).heap.size, 0, none⟩) 1 [⟨D, dc, d⟩] ((w.alloc (.cells (prC p.k R p.rels.length rc) 24)).alloc (.cells #[.slice D d.length dc] 25)) (hr.below HB1.out.old) hm (rels_none _ _) (disks_one (hd.below HBX.out.old) hdm 25) (by simp) (by simp)
  simp only [World.size_alloc, List.map_cons, List.map_nil, List.length_cons, List.length_nil] at hX
  have HCD := Lib.hid hd
  have HDN := Lib.hid hD
  clear hr hd hm hD
  by_cases hk : chk p [] [d] = 0
  · have HIL : Hid (invL p d = ginv invC d) := Lib.hid (if_pos hk)
    have HK := Lib.hid hk
    have hdb := (chk_ok hk).2.2
    simp only [List.all_cons, List.all_nil, Bool.and_true] at hdb
    have hd1 := (diskB_facts hdb).1
    have HSD := Lib.hid (disk_sized hdb)
    have HSI := Lib.hid (show Sized (ginv invC d) from fun c hc => by
      simp only [ginv, List.mem_reverse, List.mem_map] at hc
      obtain ⟨x, hx, rfl⟩ := hc
      exact HSD.out x hx)
    rw [hk] at hX
    clear hk hdb
    go_enter Try.func21, Try.ntmps21
    go_wp2_with fail
    refine hX.mono ?_
    rintro e1 w1 ⟨rfl, hb1⟩
    have HX := Lib.hid (HB1.out.on' (hb1.mono (by omega)))
    have hI := inverseOfC_any D dc d w1 (HCD.out.below HX.out.old) (fun h => (HDN.out h).1) HSD.out (by omega)
    clear hX hb1
    go_wp2_with fail
    refine hI.mono ?_
    rintro e2 w2 ⟨A2, c2, rfl, hown2, hb2⟩
    have HO2 := Lib.hid hown2
    have HX2 := Lib.hid (HX.out.on hb2)
    clear hown2 hb2 hI
    go_wp2
    go_ret2
    rw [HIL.out, HK.out]
    exact CellsP.of_own HO2.out HSI.out HX2.out.old
  · have HIL : Hid (invL p d = []) := Lib.hid (if_neg hk)
    have hne : (chk p [] [d] != 0) = true := by simpa using hk
    clear hk
    generalize chk p [] [d] = q at *
    go_enter Try.func21, Try.ntmps21
    go_wp2_with fail
    refine hX.mono ?_
    rintro e1 w1 ⟨rfl, hb1⟩
    have HX := Lib.hid (HB1.out.on' (hb1.mono (by omega)))
    clear hb1 hX
    go_wp2
    go_ret2
    rw [HIL.out]
    exact CellsP.no HX.out.old

theorem simp4_mem (d : List Cel) : ∀ c ∈ simp4 d, ∃ x ∈ d, c = redC x := by
  have key : ∀ (l r : List Cel), ∀ c ∈ grun invC r l, c ∈ r ∨ c ∈ l := by
    intro l
    induction l with
    | nil => intro r c hc; exact .inl hc
    | cons x l ih =>
      intro r c hc
      rcases ih (gstp invC r x) c hc with h | h
      · cases r with
        | nil => simp [gstp] at h; exact .inr (by simp [h])
        | cons y t =>
          rw [gstp_cons] at h
          split at h
          · exact .inl (List.mem_cons_of_mem _ h)
          · rcases List.mem_cons.1 h with rfl | h
            · exact .inr (by simp)
            · exact .inl h
      · exact .inr (List.mem_cons_of_mem _ h)
  intro c hc
  have hc : c ∈ grun invC [] (d.map redC) := by simpa [simp4, gred] using hc
  rcases key _ _ c hc with h | h
  · cases h
  · obtain ⟨x, hx, rfl⟩ := List.mem_map.1 h
    exact ⟨x, hx, rfl⟩

set_option maxHeartbeats 4000000 in
set_option maxRecDepth 100000 in
theorem Simplify_any (p : Pr) (R : Option Addr) (rc : Nat) (D : Option Addr) (dc : Nat) (d : List Cel) (w : World) (hr : RelsAt w R p.rels) (hm : p.rels.length ≤ maxLen) (hd : CellsAt w D d) (hdm : d.length ≤ 5000000000000) (hD : D = none → d = [] ∧ dc = 0) :
    Calls Try.prog 23 #[prV p.k R p.rels.length rc, .slice D d.length dc] w (CellsP w (simL p d) (chk p [] [d])) := by
  have HBX := Lib.hid (Boxd.start w (prC p.k R p.rels.length rc) 24)
  have HB1 := Lib.hid (HBX.out.on (Boxd.start (w.alloc (.cells (prC p.k R p.rels.length rc) 24)) #[.slice D d.length dc] 25).old)
  have hX := examine_any p R rc none 0 [] (some ⟨(w.alloc (.cells (prC p.k R p.rels.length rc) 24)).heap.size, 0, none⟩) 1 [⟨D, dc, d⟩] ((w.alloc (.cells (prC p.k R p.rels.length rc) 24)).alloc (.cells #[.slice D d.length dc] 25)) (hr.below HB1.out.old) hm (rels_none _ _) (disks_one (hd.below HBX.out.old) hdm 25) (by simp) (by simp)
  simp only [World.size_alloc, List.map_cons, List.map_nil, List.length_cons, List.length_nil] at hX
  have HCD := Lib.hid hd
  have HDN := Lib.hid hD
  clear hr hd hm hD
  by_cases hk : chk p [] [d] = 0
  · have HIL : Hid (simL p d = simp4 d) := Lib.hid (if_pos hk)
    have HK := Lib.hid hk
    have hdb := (chk_ok hk).2.2
    simp only [List.all_cons, List.all_nil, Bool.and_true] at hdb
    have hd1 := (diskB_facts hdb).1
    have HSD := Lib.hid (show ∀ c ∈ d, c.conj.length ≤ 1000000000 from fun c hc => by have := isWd_len ((diskB_facts hdb).2.2 c hc).2; omega)
    have HSI := Lib.hid (show Sized (simp4 d) from fun c hc => by
      obtain ⟨x, hx, rfl⟩ := simp4_mem d c hc
      exact Nat.le_trans (redC_len x) (disk_sized hdb x hx))
    rw [hk] at hX
    clear hk hdb
    go_enter Try.func23, Try.ntmps23
    go_wp2_with fail
    refine hX.mono ?_
    rintro e1 w1 ⟨rfl, hb1⟩
    have HX := Lib.hid (HB1.out.on' (hb1.mono (by omega)))
    have hI := simplified_any D dc d w1 (HCD.out.below HX.out.old) (fun h => (HDN.out h).1) HSD.out (by omega)
    clear hX hb1
    go_wp2_with fail
    refine hI.mono ?_
    rintro e2 w2 ⟨A2, c2, rfl, hown2, hb2⟩
    have HO2 := Lib.hid hown2
    have HX2 := Lib.hid (HX.out.on hb2)
    clear hown2 hb2 hI
    go_wp2
    go_ret2
    rw [HIL.out, HK.out]
    exact CellsP.of_own HO2.out HSI.out HX2.out.old
  · have HIL : Hid (simL p d = []) := Lib.hid (if_neg hk)
    have hne : (chk p [] [d] != 0) = true := by simpa using hk
    clear hk
    generalize chk p [] [d] = q at *
    go_enter Try.func23, Try.ntmps23
    go_wp2_with fail
    refine hX.mono ?_
    rintro e1 w1 ⟨rfl, hb1⟩
    have HX := Lib.hid (HB1.out.on' (hb1.mono (by omega)))
    clear hb1 hX
    go_wp2
    go_ret2
    rw [HIL.out]
    exact CellsP.no HX.out.old
end Go.Proofs.Ytbcckfggnlmhoaa

namespace Go.Proofs.Ytbcckfggnlmhoaa
open Go Go.RowKit

/-- The world behind []byte(s). -/
def bw (w : World) (l : List UInt8) : World := Lib.bytesWorld w 5 ⟨l.toArray⟩
def bcap (w : World) (l : List UInt8) : Nat := grownCap w l.length 0 5
theorem run_bw (l : List UInt8) (w : World) : (convert 9 58 (.string ⟨l.toArray⟩)).run Try.prog w = .ok (.slice (some ⟨w.heap.size, 0, none⟩) l.length (bcap w l)) (bw w l) :=
  Lib.run_convert_string_bytes w 9 58 5 ⟨l.toArray⟩ Try.underlying9 Try.underlying58 Try.underlying5
theorem bw_row (w : World) (l : List UInt8) : RowAt (bw w l) (some ⟨w.heap.size, 0, none⟩) l := by
  intro i hi
  refine ⟨w.heap.size, 0, rfl, ?_⟩
  rw [Nat.zero_add]
  have := Lib.bytesWorld_cell w 5 ⟨l.toArray⟩ i (by rw [size_mk]; exact hi)
  simpa [bw, List.getD, hi] using this
theorem bw_size (w : World) (l : List UInt8) : (bw w l).heap.size = w.heap.size + 1 := Lib.bytesWorld_size w 5 _
theorem bw_below (w : World) (l : List UInt8) : Below w.heap.size w (bw w l) := ⟨rfl, rfl, rfl, by rw [bw_size]; omega, fun k hk => Lib.bytesWorld_at_old w 5 _ k hk⟩

/-- What Conjugate hands back. -/
def conI (p : Pr) (d : List Cel) (u : List UInt8) : Int :=
  if chk p [u] [d] = 0 then (if (d.all fun c => decide (u.length + c.conj.length ≤ 100000)) = true ∧ conjs (d.map (conC u)) ≤ 1000000 then 0 else 2) else chk p [u] [d]
def conL (p : Pr) (d : List Cel) (u : List UInt8) : List Cel := if conI p d u = 0 then d.map (conC u) else []

theorem conjs_map_take (f : Cel → Cel) (d : List Cel) (k : Nat) (h : k < d.length) : conjs ((d.take (k + 1)).map f) = conjs ((d.take k).map f) + (f d[k]).conj.length := by
  rw [List.take_succ_eq_append_getElem h, List.map_append, conjs_app]; simp [conjs]
theorem conjs_map_le (f : Cel → Cel) (d : List Cel) (k : Nat) : conjs ((d.take k).map f) ≤ conjs (d.map f) := by
  have := conjs_app ((d.take k).map f) ((d.drop k).map f); rw [← List.map_append, List.take_append_drop] at this; omega

/-- One more part in front of a word. -/
theorem front_app (w0 wX : World) (u c : List UInt8) (A : Option Addr) (cap : Nat) (L : Option Addr) (lc : Nat) (B : Nat) (hB : w0.heap.size ≤ B) (hown : wX.ownsRow B 5 1 (.slice A (red u).length cap) (red u).length (bs (red u))) (hL : RowAt wX L c)
    (hb : Below w0.heap.size w0 wX) (hap : ∀ a, L = some a → blk A ≠ some a.block) (hlt : ∀ a, L = some a → a.block < wX.heap.size) (hBX : B ≤ wX.heap.size) (hn : u.length + c.length ≤ 200000) :
    Calls Try.prog 50 #[.slice A (red u).length cap, .slice L c.length lc, .func (.func 52) #[] #[]] wX fun e w' => ∃ A' cap', e = .returned (.slice A' (red (u ++ c)).length cap') ∧ RowAt w' A' (red (u ++ c)) ∧ Below w0.heap.size w0 w' := by
  have hl : (run [] u).length = (red u).length := by show _ = (run [] u).reverse.length; rw [List.length_reverse]
  have h1 := gred_len invc u
  have := appRed_any B A cap (run [] u) c L lc wX (by rw [hl]; exact hown) hL hap hlt (by rw [hl]; show (gred invc u).length + _ ≤ _; omega) hBX
  rw [hl] at this
  refine this.mono ?_
  rintro e w' ⟨A', cap', rfl, hown', hg, hm⟩
  have e1 : (run (run [] u) c).reverse = red (u ++ c) := by show (run (run [] u) c).reverse = (run [] (u ++ c)).reverse; unfold run; rw [grun_app]
  have e2 : (run (run [] u) c).length = (red (u ++ c)).length := by rw [← e1, List.length_reverse]
  refine ⟨A', cap', by rw [e2], ?_, ?_⟩
  · have := rowAt_own hown'
    rwa [e1] at this
  · exact below_of_grown hb hg (Nat.le_trans hB hBX) (fun a ha => Nat.le_trans hB (own_ge hown a ha))

set_option maxHeartbeats 8000000 in
set_option maxRecDepth 100000 in
theorem Conjugate_ok (p : Pr) (R : Option Addr) (rc : Nat) (D : Option Addr) (dc : Nat) (d : List Cel) (u : List UInt8) (w : World) (hr : RelsAt w R p.rels) (hm : p.rels.length ≤ maxLen) (hd : CellsAt w D d) (hdm : d.length ≤ 5000000000000) (hD : D = none → d = [] ∧ dc = 0) (hul : u.length ≤ maxLen)
    (hk : chk p [u] [d] = 0) :
    Calls Try.prog 22 #[prV p.k R p.rels.length rc, .slice D d.length dc, .string ⟨u.toArray⟩] w (CellsP w (conL p d u) (conI p d u)) := by
  have HBX := Lib.hid (Boxd.start w (prC p.k R p.rels.length rc) 24)
  have HB1 := Lib.hid (HBX.out.on (Boxd.start (w.alloc (.cells (prC p.k R p.rels.length rc) 24)) #[.string ⟨u.toArray⟩] 9).old)
  have HB2 := Lib.hid (HB1.out.on (Boxd.start ((w.alloc (.cells (prC p.k R p.rels.length rc) 24)).alloc (.cells #[.string ⟨u.toArray⟩] 9)) #[.slice D d.length dc] 25).old)
  have hE := examine_any p R rc (some ⟨(w.alloc (.cells (prC p.k R p.rels.length rc) 24)).heap.size, 0, none⟩) 1 [u] (some ⟨((w.alloc (.cells (prC p.k R p.rels.length rc) 24)).alloc (.cells #[.string ⟨u.toArray⟩] 9)).heap.size, 0, none⟩) 1 [⟨D, dc, d⟩] (((w.alloc (.cells (prC p.k R p.rels.length rc) 24)).alloc (.cells #[.string ⟨u.toArray⟩] 9)).alloc (.cells #[.slice D d.length dc] 25)) (hr.below HB2.out.old) hm
    ((rels_one hul 9).below ((Below.refl _ _).alloc (Nat.le_refl _) _)) (disks_one (hd.below HB1.out.old) hdm 25) (by simp) (by simp)
  simp only [World.size_alloc, List.map_cons, List.map_nil, List.length_cons, List.length_nil] at hE
  have HCI : Hid (conI p d u = if (d.all fun c => decide (u.length + c.conj.length ≤ 100000)) = true ∧ conjs (d.map (conC u)) ≤ 1000000 then 0 else 2) := Lib.hid (if_pos hk)
  have hdb := (chk_ok hk).2.2
  simp only [List.all_cons, List.all_nil, Bool.and_true] at hdb
  have hd1 := (diskB_facts hdb).1
  have hu5 : u.length ≤ 100000 := isWd_len (k := p.k) (l := u) (by have := (chk_ok hk).2.1; simpa using this)
  have HSD := Lib.hid (disk_sized hdb)
  have HC5 := Lib.hid (show ∀ c ∈ d, c.conj.length ≤ 100000 from fun c hc => isWd_len ((diskB_facts hdb).2.2 c hc).2)
  rw [hk] at hE
  have HCD := Lib.hid hd
  have HDN := Lib.hid hD
  have HSU : (ByteArray.mk u.toArray).size = u.length := size_mk u
  clear hr hd hm hD hk hdb hul
  go_enter Try.func22, Try.ntmps22
  go_wp2_with fail
  refine hE.mono ?_
  rintro e1 w1 ⟨rfl, hb1⟩
  have HX1 := Lib.hid (HB2.out.on' (hb1.mono (by omega)))
  have hC := CloneC_any D dc d w1 (HCD.out.below HX1.out.old) (fun h => (HDN.out h).1) (by omega)
  clear hE hb1
  go_wp2_with fail
  refine hC.mono ?_
  rintro e2 w2 ⟨A2, c2, rfl, hown2, hb2⟩
  have HX2 := Lib.hid (HX1.out.on hb2)
  have HO2 := Lib.hid hown2
  have HS12 := Lib.hid hb2.size
  have hb2k := Lib.hid hb2
  have hRd := reduced_any u w2 (by omega)
  clear hC hown2 hb2
  go_wp2_with fail
  refine hRd.mono ?_
  rintro e3 w3 ⟨rfl, hb3⟩
  have HX3 := Lib.hid (HX2.out.on hb3)
  have HO3 := Lib.hid (own_below HO2.out hb3)
  have hF := run_bw (red u) w3
  have HX4 := Lib.hid (HX3.out.on (bw_below w3 (red u)))
  have HO4 := Lib.hid (own_below HO3.out (bw_below w3 (red u)))
  have HF4 := Lib.hid (bw_row w3 (red u))
  have HB14 := Lib.hid (hb2k.out.trans (((hb3.mono hb2k.out.size)).trans ((bw_below w3 (red u)).mono (Nat.le_trans hb2k.out.size hb3.size))))
  have HSF := Lib.hid (bw_size w3 (red u))
  have HS3 := Lib.hid (Nat.le_trans HS12.out hb3.size)
  have HG := Lib.hid (fun k => (blk_lt HO3.out k))
  generalize bcap w3 (red u) = fc at *
  generalize hw4 : bw w3 (red u) = w4 at *
  have HW4 := Lib.hid hw4
  have hur := gred_len invc u
  have HUR := Lib.hid hur
  clear hRd hb3 hw4 hur
  go_wp2
  go_loopw [11, 12, 13, 30] (fun lt _ _ i wr => ∃ (k m : Nat), k ≤ d.length ∧ i = .int .i64 (k : Int) ∧ lt = .int .i64 (m : Int) ∧ m = conjs ((d.take k).map (conC u)) ∧ m ≤ 1000000 ∧ (d.take k).all (fun c => decide (u.length + c.conj.length ≤ 100000)) = true ∧
      wr.ownsRow w1.heap.size 61 3 (.slice A2 d.length c2) d.length (cs3 ((d.take k).map (conC u) ++ d.drop k)) ∧ RowAt wr (some ⟨w3.heap.size, 0, none⟩) (red u) ∧ w3.heap.size < wr.heap.size ∧ Below w1.heap.size w1 wr)
    (fun _ _ _ i _ => d.length - (intOf i).toNat)
  case atStart =>
    refine ⟨0, 0, Nat.zero_le _, rfl, rfl, rfl, by omega, rfl, by simpa using HO4.out, HF4.out, by rw [HSF.out]; omega, HB14.out⟩
  case round =>
    obtain ⟨k, m, hk, rfl, rfl, hmm, hm1, hall, hown, hrow, hsz, hb⟩ := hrel
    have HMM := Lib.hid hmm
    have HALL := Lib.hid hall
    have HOW := Lib.hid hown
    have HROW := Lib.hid hrow
    have HB := Lib.hid hb
    clear hmm hall hown hrow hb
    by_cases hlt : k < d.length
    · have HS := Lib.hid (all_take_succL d (fun c => decide (u.length + c.conj.length ≤ 100000)) k hlt)
      have HN := Lib.hid (all_noL d (fun c => decide (u.length + c.conj.length ≤ 100000)) k hlt)
      have HCJ : Hid (conjs ((d.take (k + 1)).map (conC u)) = m + (conC u d[k]).conj.length) := Lib.hid (by rw [conjs_map_take _ d k hlt, HMM.out])
      have HLE := Lib.hid (conjs_map_le (conC u) d (k + 1))
      have HOC := Lib.hid (fun (W : World) (g : Nat) (hW : W.ownsRow w1.heap.size 61 3 (.slice (some ⟨g, 0, none⟩) d.length c2) d.length (cs3 ((d.take k).map (conC u) ++ d.drop k))) => own_conj (f := conC u) hlt hW rfl rfl)
      obtain ⟨b, o, hDA, hcel⟩ := (HCD.out.below (HX1.out.on' (HB.out.mono HX1.out.size)).old) k hlt
      have hc5 := HC5.out d[k] (List.getElem_mem _)
      subst hDA
      obtain ⟨g, o2, hA, hg0⟩ : ∃ g o2, A2 = some ⟨g, o2, none⟩ ∧ CelAt wr g (o2 + k * 3) (((d.take k).map (conC u) ++ d.drop k)[k]'(by rw [map_take_len]; exact hlt)) := cells_own HOW.out (by
          intro c hc
          rcases List.mem_append.1 hc with hc | hc
          · obtain ⟨x, hx, rfl⟩ := List.mem_map.1 hc
            have h1 := HC5.out x (List.mem_of_mem_take hx)
            have h2 := gred_len invc (u ++ x.conj)
            rw [List.length_append] at h2
            show (gred invc (u ++ x.conj)).length ≤ _
            omega
          · have := HC5.out c (List.mem_of_mem_drop hc); omega) k (by rw [map_take_len]; exact hlt)
      obtain rfl : o2 = 0 := by
        rcases own_shape HOW.out with ⟨h, _⟩ | ⟨g', h, _⟩
        · rw [hA] at h; cases h
        · rw [hA] at h; cases h; rfl
      subst hA
      rw [Nat.zero_add, map_take_get (conC u) d k hlt] at hg0
      generalize d[k] = x at *
      obtain ⟨xc, xr, xi⟩ := x
      obtain ⟨q0, q1, q2, q3⟩ := hcel
      obtain ⟨y0, y1, y2, y3⟩ := hg0
      simp only at q0 q1 q2 q3 hc5 y0 y1 y2
      have HSX : (ByteArray.mk xc.toArray).size = xc.length := size_mk xc
      by_cases hbig : 100000 < u.length + xc.length
      · have HE : Hid (conI p d u = 2) := Lib.hid (by rw [HCI.out, if_neg (fun h => by have := HN.out (by simp; omega); rw [this] at h; exact absurd h.1 (by simp))])
        have HEL : Hid (conL p d u = []) := Lib.hid (by unfold conL; rw [HE.out]; rfl)
        have e1 : decide ((100000 : Int) < (u.length : Int) + (xc.length : Int)) = true := by simp; omega
        have e2 : decide (100000 < u.length + xc.length) = true := by simpa using hbig
        have HBX5 := Lib.hid (HX1.out.on' ((HB.out.trans ((Below.refl w1.heap.size wr).alloc HB.out.size (.cells (celC xc xr xi) 61))).mono HX1.out.size))
        go_wp2
        go_ret2
        rw [HE.out, HEL.out]
        exact CellsP.no HBX5.out.old
      have e1 : decide ((100000 : Int) < (u.length : Int) + (xc.length : Int)) = false := by simp; omega
      have e2 : decide (100000 < u.length + xc.length) = false := by simpa using hbig
      have HUX : Hid (u.length + xc.length ≤ 200000) := Lib.hid (by omega)
      have HBA : Hid (Below wr.heap.size wr (wr.alloc (.cells (celC xc xr xi) 61))) := Lib.hid ((Below.refl _ _).alloc (Nat.le_refl _) _)
      have HBXC := Lib.hid (HasCells.new wr (celC xc xr xi) 61)
      have HAS := Lib.hid (World.size_alloc wr (.cells (celC xc xr xi) 61))
      have hconv := run_bw xc
      go_wp2
      have HDD := Lib.hid (HBA.out.drewN 1)
      have HBXD := Lib.hid (HBXC.out.drewN 1)
      generalize hw5 : wr.alloc (.cells (celC xc xr xi) 61) = wa at *
      have HW5 := Lib.hid hw5
      have b0 : wa.drew.cell? ⟨wr.heap.size, 0, none⟩ = some (.string ⟨xc.toArray⟩) := HBXD.out.cell 0
      have HRWD := Lib.hid (HROW.out.below HDD.out)
      have HSWD : Hid (w3.heap.size < wa.drew.heap.size) := Lib.hid (Nat.lt_of_lt_of_le hsz HDD.out.size)
      have HCL1 := Lib.hid (Clone_any (some ⟨w3.heap.size, 0, none⟩) fc (red u) wa.drew HRWD.out (fun h => by cases h) (by have := HUR.out; show (gred invc u).length ≤ _; omega))
      have HCL2 := Lib.hid (Clone_any (some ⟨w3.heap.size, 0, none⟩) fc (red u) (bw wa.drew xc) (HRWD.out.below (bw_below _ _)) (fun h => by cases h) (by have := HUR.out; show (gred invc u).length ≤ _; omega))
      have HZ : Hid (∀ W, Below wr.heap.size wr W → W.cell? ⟨g, k * 3, none⟩ = some (.string ⟨xc.toArray⟩) ∧ W.frozen? ⟨g, k * 3, none⟩ = false) := Lib.hid (fun W hW => ⟨(hW.cell (p := ⟨g, k * 3, none⟩) (lt_of_cell y0)).trans y0, (own_below HOW.out hW).frozenAt _⟩)
      clear hw5 q0 q1 q2 q3 y0 y1 y2 y3
      go_region_with (first
        | (go_at_call 51; ((with_reducible refine HCL1.out.mono ?_); rintro e5 wA ⟨A5, c5, rfl, hown5, hb5⟩; have HFA := Lib.hid (front_app wr (bw wA xc) u xc A5 c5 (some ⟨wA.heap.size, 0, none⟩) (bcap wA xc) wa.drew.heap.size HDD.out.size (own_below hown5 (bw_below wA xc)) (bw_row wA xc) (HDD.out.trans ((hb5.mono HDD.out.size).trans ((bw_below wA xc).mono (Nat.le_trans HDD.out.size hb5.size)))) (fun a ha => by cases ha; exact fun e => absurd (blk_lt hown5 _ e).2 (Nat.lt_irrefl _)) (fun a ha => by cases ha; rw [bw_size]; exact Nat.lt_succ_self _) (Nat.le_trans hb5.size (bw_below wA xc).size) HUX.out); have b0A := (HBXD.out.below hb5).cell 0; simp only [List.getElem?_toArray, List.getElem?_cons_zero] at b0A; clear hown5 hb5 b0))
        | (go_at_call 51; ((with_reducible refine HCL2.out.mono ?_); rintro e5 wB ⟨A5, c5, rfl, hown5, hb5⟩; have HFB := Lib.hid (front_app wr wB u xc A5 c5 (some ⟨wa.heap.size, 0, none⟩) (bcap wa.drew xc) (bw wa.drew xc).heap.size (Nat.le_trans HDD.out.size (bw_below wa.drew xc).size) hown5 ((bw_row wa.drew xc).below hb5) (HDD.out.trans (((bw_below wa.drew xc).mono HDD.out.size).trans (hb5.mono (Nat.le_trans HDD.out.size (bw_below wa.drew xc).size)))) (fun a ha => by cases ha; exact fun e => by have h1 := (blk_lt hown5 _ e).1; rw [bw_size] at h1; exact absurd h1 (Nat.not_succ_le_self _)) (fun a ha => by cases ha; have h1 := hb5.size; rw [bw_size] at h1; exact h1) hb5.size HUX.out); clear hown5 hb5 b0))
        | (go_at_call 50; ((with_reducible refine HFA.out.mono ?_); rintro e6 w6 ⟨A6, c6, rfl, hrow6, hb6⟩; have hrun6 := run_string_row w6 A6 c6 _ hrow6; obtain ⟨z0, f0⟩ := HZ.out w6 hb6; have HB6 := Lib.hid hb6; clear hrow6 hb6))
        | (go_at_call 50; ((with_reducible refine HFB.out.mono ?_); rintro e6 w6 ⟨A6, c6, rfl, hrow6, hb6⟩; have hrun6 := run_string_row w6 A6 c6 _ hrow6; obtain ⟨z0, f0⟩ := HZ.out w6 hb6; have HB6 := Lib.hid hb6; clear hrow6 hb6)))
      all_goals (
        have HO6 := Lib.hid (own_below HOW.out HB6.out)
        have HO7 : Hid ((w6.setCell ⟨g, k * 3, none⟩ (.string ⟨(red (u ++ xc)).toArray⟩)).ownsRow w1.heap.size 61 3 (.slice (some ⟨g, 0, none⟩) d.length c2) d.length (cs3 ((d.take (k + 1)).map (conC u) ++ d.drop (k + 1)))) := Lib.hid (HOC.out w6 g HO6.out)
        have HCJ2 : Hid (conjs ((d.take (k + 1)).map (conC u)) = m + (red (u ++ xc)).length) := HCJ
        have hrl : (red (u ++ xc)).length ≤ 200000 := by have := gred_len invc (u ++ xc); rw [List.length_append] at this; have := HUX.out; show (gred invc (u ++ xc)).length ≤ _; omega
        have HSR : (ByteArray.mk (red (u ++ xc)).toArray).size = (red (u ++ xc)).length := size_mk _
        have hgB := own_ge HOW.out _ rfl
        have HB7 := Lib.hid (show Below w1.heap.size w1 (w6.setCell ⟨g, k * 3, none⟩ (.string ⟨(red (u ++ xc)).toArray⟩)) from HB.out.trans ((HB6.out.mono HB.out.size).trans ((Below.refl _ w6).setCell (p := ⟨g, k * 3, none⟩) hgB _)))
        have HR7 : Hid (RowAt (w6.setCell ⟨g, k * 3, none⟩ (.string ⟨(red (u ++ xc)).toArray⟩)) (some ⟨w3.heap.size, 0, none⟩) (red u)) := Lib.hid ((HROW.out.below HB6.out).grown (row := some g) (World.ownsRow.stored HO6.out _ _).2 (fun a ha => by
          cases ha
          intro e
          have e2 : g = w3.heap.size := Option.some.inj e
          exact absurd (HG.out g rfl).2 (by omega)))
        have hs6 := HB6.out.size
        clear hrun6
        generalize red (u ++ xc) = r at *
        by_cases hfat : 1000000 < m + r.length
        · have HE : Hid (conI p d u = 2) := Lib.hid (by rw [HCI.out, if_neg (fun h => by have h1 := HLE.out; have h2 := h.2; rw [HCJ2.out] at h1; omega)])
          have HEL : Hid (conL p d u = []) := Lib.hid (by unfold conL; rw [HE.out]; rfl)
          have e3 : decide ((1000000 : Int) < (m : Int) + (r.length : Int)) = true := by simp; omega
          have e4 : decide (1000000 < m + r.length) = true := by simpa using hfat
          have HBX5 := Lib.hid (HX1.out.on' (HB7.out.mono HX1.out.size))
          go_wp2
          go_ret2
          rw [HE.out, HEL.out]
          exact CellsP.no HBX5.out.old
        · have e3 : decide ((1000000 : Int) < (m : Int) + (r.length : Int)) = false := by simp; omega
          have e4 : decide (1000000 < m + r.length) = false := by simpa using hfat
          go_wp2
          go_roundw
          case rel => exact ⟨k + 1, m + r.length, by omega, by go_num, by go_num, HCJ2.out.symm, by omega, by rw [HS.out, HALL.out]; simp; omega, HO7.out, HR7.out, by simp; omega, HB7.out⟩
          case measure => simp [intOf]; omega)
    · obtain rfl : k = d.length := by omega
      have hz := HALL.out
      have hmz := HMM.out
      have hoz := HOW.out
      rw [List.take_length] at hz hmz
      rw [List.take_length, List.drop_length, List.append_nil] at hoz
      have HE : Hid (conI p d u = 0) := Lib.hid (by rw [HCI.out, if_pos ⟨hz, by omega⟩])
      have HEL : Hid (conL p d u = d.map (conC u)) := Lib.hid (by unfold conL; rw [HE.out]; rfl)
      have hml : (d.map (conC u)).length = d.length := List.length_map _
      have HOZ := Lib.hid hoz
      have HML := Lib.hid hml
      have HSZ := Lib.hid (show Sized (d.map (conC u)) from fun c hc => by
        obtain ⟨x, hx, rfl⟩ := List.mem_map.1 hc
        have h1 := HC5.out x hx
        have h2 := gred_len invc (u ++ x.conj)
        rw [List.length_append] at h2
        show (gred invc (u ++ x.conj)).length ≤ _
        omega)
      have HBX5 := Lib.hid (HX1.out.on' (HB.out.mono HX1.out.size))
      clear hz hmz hoz hml
      go_wp2
      go_ret2
      rw [HE.out, HEL.out]
      have h1 := HOZ.out
      rw [← HML.out] at h1
      have := CellsP.of_own (c := 0) h1 HSZ.out HBX5.out.old
      rw [HML.out] at this
      exact this

set_option maxHeartbeats 2000000 in
set_option maxRecDepth 100000 in
theorem Conjugate_any (p : Pr) (R : Option Addr) (rc : Nat) (D : Option Addr) (dc : Nat) (d : List Cel) (u : List UInt8) (w : World) (hr : RelsAt w R p.rels) (hm : p.rels.length ≤ maxLen) (hd : CellsAt w D d) (hdm : d.length ≤ 5000000000000) (hD : D = none → d = [] ∧ dc = 0) (hul : u.length ≤ maxLen) :
    Calls Try.prog 22 #[prV p.k R p.rels.length rc, .slice D d.length dc, .string ⟨u.toArray⟩] w (CellsP w (conL p d u) (conI p d u)) := by
  by_cases hk : chk p [u] [d] = 0
  · exact Conjugate_ok p R rc D dc d u w hr hm hd hdm hD hul hk
  have HBX := Lib.hid (Boxd.start w (prC p.k R p.rels.length rc) 24)
  have HB1 := Lib.hid (HBX.out.on (Boxd.start (w.alloc (.cells (prC p.k R p.rels.length rc) 24)) #[.string ⟨u.toArray⟩] 9).old)
  have HB2 := Lib.hid (HB1.out.on (Boxd.start ((w.alloc (.cells (prC p.k R p.rels.length rc) 24)).alloc (.cells #[.string ⟨u.toArray⟩] 9)) #[.slice D d.length dc] 25).old)
  have hE := examine_any p R rc (some ⟨(w.alloc (.cells (prC p.k R p.rels.length rc) 24)).heap.size, 0, none⟩) 1 [u] (some ⟨((w.alloc (.cells (prC p.k R p.rels.length rc) 24)).alloc (.cells #[.string ⟨u.toArray⟩] 9)).heap.size, 0, none⟩) 1 [⟨D, dc, d⟩] (((w.alloc (.cells (prC p.k R p.rels.length rc) 24)).alloc (.cells #[.string ⟨u.toArray⟩] 9)).alloc (.cells #[.slice D d.length dc] 25)) (hr.below HB2.out.old) hm
    ((rels_one hul 9).below ((Below.refl _ _).alloc (Nat.le_refl _) _)) (disks_one (hd.below HB1.out.old) hdm 25) (by simp) (by simp)
  simp only [World.size_alloc, List.map_cons, List.map_nil, List.length_cons, List.length_nil] at hE
  have HCI : Hid (conI p d u = chk p [u] [d]) := Lib.hid (if_neg hk)
  have HCL : Hid (conL p d u = []) := Lib.hid (by unfold conL; rw [HCI.out, if_neg hk])
  have hne : (chk p [u] [d] != 0) = true := by simpa using hk
  clear hk hr hd hD
  generalize chk p [u] [d] = q at *
  go_enter Try.func22, Try.ntmps22
  go_wp2_with fail
  refine hE.mono ?_
  rintro e1 w1 ⟨rfl, hb1⟩
  have HX := Lib.hid (HB2.out.on' (hb1.mono (by omega)))
  clear hb1 hE
  go_wp2
  go_ret2
  rw [HCI.out, HCL.out]
  exact CellsP.no HX.out.old
end Go.Proofs.Ytbcckfggnlmhoaa
