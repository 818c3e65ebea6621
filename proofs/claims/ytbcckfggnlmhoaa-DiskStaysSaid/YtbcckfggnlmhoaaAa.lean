/-
  Our own text, in the proofs of the laws of package disk (cayleylaw04). Proved here: free reduction over any alphabet with an inversion, letters, presentations and disks as lists. Conditions: none.
-/
import Derived.Lib.Hide
namespace Go.Proofs.Ytbcckfggnlmhoaa

/-! FREE REDUCTION, over any alphabet with an inversion. -/

/-- One more element behind a stack, its top first. -/
def gstp {α : Type} [DecidableEq α] (f : α → α) (r : List α) (c : α) : List α := match r with
  | [] => [c]
  | x :: t => if x = f c then t else c :: x :: t
def grun {α : Type} [DecidableEq α] (f : α → α) (r l : List α) : List α := l.foldl (gstp f) r
def gred {α : Type} [DecidableEq α] (f : α → α) (l : List α) : List α := (grun f [] l).reverse
def ginv {α : Type} (f : α → α) (l : List α) : List α := (l.map f).reverse

/-- No neighbours that are inverse to each other. -/
def GRed {α : Type} (f : α → α) : List α → Prop
  | a :: b :: t => a ≠ f b ∧ GRed f (b :: t)
  | _ => True

theorem gstp_cons {α : Type} [DecidableEq α] (f : α → α) (x : α) (t : List α) (c : α) : gstp f (x :: t) c = if x = f c then t else c :: x :: t := rfl
theorem gstp_len {α : Type} [DecidableEq α] (f : α → α) (r : List α) (c : α) : (gstp f r c).length ≤ r.length + 1 := by
  cases r with
  | nil => simp [gstp]
  | cons x t => rw [gstp_cons]; split <;> simp; omega
theorem grun_len {α : Type} [DecidableEq α] (f : α → α) (l : List α) : ∀ r, (grun f r l).length ≤ r.length + l.length := by
  induction l with
  | nil => intro r; simp [grun]
  | cons c l ih => intro r; have h1 := ih (gstp f r c); have h2 := gstp_len f r c; simp only [grun, List.foldl_cons, List.length_cons] at *; omega
theorem gred_len {α : Type} [DecidableEq α] (f : α → α) (l : List α) : (gred f l).length ≤ l.length := by
  have := grun_len f l []; simpa [gred] using this
theorem grun_app {α : Type} [DecidableEq α] (f : α → α) (r a b : List α) : grun f r (a ++ b) = grun f (grun f r a) b := List.foldl_append
theorem grun_snoc {α : Type} [DecidableEq α] (f : α → α) (r a : List α) (c : α) : grun f r (a ++ [c]) = gstp f (grun f r a) c := by simp [grun]
theorem GRed.tail {α : Type} {f : α → α} {a : α} {t : List α} (h : GRed f (a :: t)) : GRed f t := by
  cases t with
  | nil => trivial
  | cons b t => exact h.2
theorem GRed.stp {α : Type} [DecidableEq α] {f : α → α} (hf : ∀ x, f (f x) = x) {r : List α} (h : GRed f r) (c : α) : GRed f (gstp f r c) := by
  cases r with
  | nil => exact trivial
  | cons x t =>
    rw [gstp_cons]; split
    · exact h.tail
    · rename_i hn
      exact ⟨fun e => hn (by rw [e, hf]), h⟩
theorem gstp_gstp {α : Type} [DecidableEq α] {f : α → α} (hf : ∀ x, f (f x) = x) {r : List α} (h : GRed f r) (c : α) : gstp f (gstp f r c) (f c) = r := by
  cases r with
  | nil => simp [gstp, hf]
  | cons x t =>
    rw [gstp_cons]; split
    · rename_i e
      subst e
      cases t with
      | nil => rfl
      | cons b t =>
        rw [gstp_cons, if_neg]
        rw [hf]
        intro e
        exact h.1 (by rw [e])
    · rw [gstp_cons, if_pos (by rw [hf])]
theorem GRed.run {α : Type} [DecidableEq α] {f : α → α} (hf : ∀ x, f (f x) = x) : ∀ (l : List α) {r : List α}, GRed f r → GRed f (grun f r l)
  | [], _, h => h
  | c :: l, _, h => GRed.run hf l (h.stp hf c)
theorem grun_gred_snoc {α : Type} [DecidableEq α] {f : α → α} (hf : ∀ x, f (f x) = x) {r : List α} (h : GRed f r) (l : List α) (c : α) (ih : grun f r (gred f l) = grun f r l) : grun f r (gred f (l ++ [c])) = grun f r (l ++ [c]) := by
  rw [grun_app, ← ih]
  show grun f r (grun f [] (l ++ [c])).reverse = grun f (grun f r (grun f [] l).reverse) [c]
  rw [grun_snoc]
  cases hs : grun f [] l with
  | nil => simp [gstp, grun]
  | cons x t =>
    rw [gstp_cons]; split
    · rename_i hx
      rw [List.reverse_cons, grun_app]
      have h2 := GRed.run hf t.reverse h
      have h3 := gstp_gstp hf h2 x
      rw [hx, hf] at h3
      rw [hx]
      exact h3.symm
    · rw [List.reverse_cons, grun_app]
theorem grun_gred {α : Type} [DecidableEq α] {f : α → α} (hf : ∀ x, f (f x) = x) {r : List α} (h : GRed f r) (l : List α) : grun f r (gred f l) = grun f r l := by
  have : ∀ m : List α, grun f r (gred f m.reverse) = grun f r m.reverse := by
    intro m
    induction m with
    | nil => rfl
    | cons c m ih => rw [List.reverse_cons]; exact grun_gred_snoc hf h _ c ih
  simpa using this l.reverse
theorem ginv_app {α : Type} (f : α → α) (a b : List α) : ginv f (a ++ b) = ginv f b ++ ginv f a := by simp [ginv]
theorem ginv_cons {α : Type} (f : α → α) (c : α) (a : List α) : ginv f (c :: a) = ginv f a ++ [f c] := by simp [ginv]
theorem ginv_ginv {α : Type} {f : α → α} (hf : ∀ x, f (f x) = x) (a : List α) : ginv f (ginv f a) = a := by
  unfold ginv; rw [List.map_reverse, List.reverse_reverse, List.map_map]
  have : f ∘ f = id := funext hf
  rw [this]; simp
theorem ginv_len {α : Type} (f : α → α) (a : List α) : (ginv f a).length = a.length := by simp [ginv]
theorem grun_inv {α : Type} [DecidableEq α] {f : α → α} (hf : ∀ x, f (f x) = x) {r : List α} (h : GRed f r) (u : List α) : grun f r (u ++ ginv f u) = r := by
  induction u generalizing r with
  | nil => rfl
  | cons c u ih =>
    rw [ginv_cons, List.cons_append, ← List.append_assoc]
    show grun f (gstp f r c) ((u ++ ginv f u) ++ [f c]) = r
    rw [grun_app, ih (h.stp hf c)]
    exact gstp_gstp hf h c
theorem grun_inv' {α : Type} [DecidableEq α] {f : α → α} (hf : ∀ x, f (f x) = x) {r : List α} (h : GRed f r) (u : List α) : grun f r (ginv f u ++ u) = r := by
  have := grun_inv hf h (ginv f u); rwa [ginv_ginv hf] at this
theorem gred_of_red {α : Type} [DecidableEq α] {f : α → α} (hf : ∀ x, f (f x) = x) (l : List α) : gred f (gred f l) = gred f l := by
  unfold gred; rw [show (grun f [] l).reverse = gred f l from rfl, grun_gred hf (r := []) trivial]; rfl
theorem gred_app_gred {α : Type} [DecidableEq α] {f : α → α} (hf : ∀ x, f (f x) = x) (a b : List α) : gred f (a ++ gred f b) = gred f (a ++ b) := by
  unfold gred; rw [grun_app, grun_app, show (grun f [] b).reverse = gred f b from rfl, grun_gred hf (GRed.run hf a (r := []) trivial)]
theorem gred_gred_app {α : Type} [DecidableEq α] {f : α → α} (hf : ∀ x, f (f x) = x) (a b : List α) : gred f (gred f a ++ b) = gred f (a ++ b) := by
  unfold gred; rw [grun_app, grun_app, show (grun f [] a).reverse = gred f a from rfl, grun_gred hf (r := []) trivial]
theorem gred_mid {α : Type} [DecidableEq α] {f : α → α} (hf : ∀ x, f (f x) = x) (a b c : List α) : gred f (a ++ gred f b ++ c) = gred f (a ++ b ++ c) := by
  rw [← gred_gred_app hf (a ++ gred f b), gred_app_gred hf, gred_gred_app hf]
theorem gred_cut {α : Type} [DecidableEq α] {f : α → α} (hf : ∀ x, f (f x) = x) (a u c : List α) : gred f (a ++ (u ++ ginv f u) ++ c) = gred f (a ++ c) := by
  unfold gred
  rw [grun_app, grun_app, grun_inv hf (GRed.run hf a (r := []) trivial), ← grun_app]
theorem gred_ginv_gred {α : Type} [DecidableEq α] {f : α → α} (hf : ∀ x, f (f x) = x) (l : List α) : gred f (ginv f (gred f l)) = gred f (ginv f l) := by
  have h1 : gred f (ginv f (gred f l) ++ l) = [] := by
    rw [← gred_app_gred hf]; unfold gred; rw [show (grun f [] l).reverse = gred f l from rfl, grun_inv' hf (r := []) trivial]; rfl
  have h2 : gred f (ginv f (gred f l) ++ (l ++ ginv f l)) = gred f (ginv f (gred f l)) := by
    have := gred_cut hf (ginv f (gred f l)) l []
    simpa using this
  rw [← h2, ← List.append_assoc, ← gred_gred_app hf, h1]; rfl
theorem GRed.rev {α : Type} {f : α → α} (hf : ∀ x, f (f x) = x) : ∀ {l : List α}, GRed f l → GRed f l.reverse := by
  have key : ∀ (l : List α) (a : α), GRed f l → (∀ b, l.getLast? = some b → b ≠ f a) → GRed f (l ++ [a]) := by
    intro l
    induction l with
    | nil => intro a _ _; trivial
    | cons x t ih =>
      intro a h hl
      cases t with
      | nil => exact ⟨hl x rfl, trivial⟩
      | cons y t => exact ⟨h.1, ih a h.2 (fun b hb => hl b (by simpa [List.getLast?_cons] using hb))⟩
  intro l
  induction l with
  | nil => intro _; trivial
  | cons x t ih =>
    intro h
    rw [List.reverse_cons]
    refine key _ _ (ih h.tail) ?_
    intro b hb
    rw [List.getLast?_reverse] at hb
    cases t with
    | nil => simp at hb
    | cons y t =>
      simp at hb; subst hb
      intro e; exact h.1 (by rw [e, hf])
theorem GRed.map {α : Type} {f : α → α} (hf : ∀ x, f (f x) = x) : ∀ {l : List α}, GRed f l → GRed f (l.map f)
  | [], _ => trivial
  | [_], _ => trivial
  | a :: b :: t, h => ⟨fun e => h.1 (by have := congrArg f e; rwa [hf, hf] at this), GRed.map hf (l := b :: t) h.2⟩
theorem grun_red {α : Type} [DecidableEq α] {f : α → α} (hf : ∀ x, f (f x) = x) : ∀ (l r : List α), GRed f (l.reverse ++ r) → grun f r l = l.reverse ++ r
  | [], r, _ => rfl
  | c :: l, r, h => by
    rw [List.reverse_cons, List.append_assoc] at h
    have e : gstp f r c = c :: r := by
      cases r with
      | nil => rfl
      | cons x t =>
        rw [gstp_cons, if_neg]
        have : ∀ m : List α, GRed f (m ++ c :: x :: t) → c ≠ f x := by
          intro m
          induction m with
          | nil => intro h; exact h.1
          | cons y m ih => intro h; exact ih (by cases m <;> exact h.tail)
        intro e
        exact this _ h (by rw [e, hf])
    show grun f (gstp f r c) l = _
    rw [e, grun_red hf l (c :: r) h]; simp
theorem gred_red {α : Type} [DecidableEq α] {f : α → α} (hf : ∀ x, f (f x) = x) (l : List α) (h : GRed f l) : gred f l = l := by
  unfold gred; rw [grun_red hf l [] (by simpa using h.rev hf)]; simp
theorem GRed_gred {α : Type} [DecidableEq α] {f : α → α} (hf : ∀ x, f (f x) = x) (l : List α) : GRed f (gred f l) := (GRed.run hf l (r := []) trivial).rev hf
theorem gred_ginv_red {α : Type} [DecidableEq α] {f : α → α} (hf : ∀ x, f (f x) = x) (l : List α) (h : GRed f l) : gred f (ginv f l) = ginv f l :=
  gred_red hf _ ((h.map hf).rev hf)
theorem ginv_gred {α : Type} [DecidableEq α] {f : α → α} (hf : ∀ x, f (f x) = x) (l : List α) : ginv f (gred f l) = gred f (ginv f l) := by
  rw [← gred_ginv_gred hf, gred_ginv_red hf _ (GRed_gred hf l)]

/-! LETTERS. -/
def letB (k : Int) (c : UInt8) : Bool := !(decide ((c ||| 32).toNat < 97)) && decide (((c ||| 32).toNat : Int) - 97 < k)
def isWd (k : Int) (l : List UInt8) : Bool := decide (l.length ≤ 100000) && l.all (letB k)
/-- The reference's index of a letter. -/
def idxI (k : Int) (c : UInt8) : Int :=
  if 97 ≤ (c.toNat : Int) ∧ (c.toNat : Int) - 97 < k then 2 * ((c.toNat : Int) - 97) else if 65 ≤ (c.toNat : Int) ∧ (c.toNat : Int) - 65 < k then 2 * ((c.toNat : Int) - 65) + 1 else -1
def invc (c : UInt8) : UInt8 := c ^^^ 32
/-- The reference's inverse of a letter. -/
def invt (c : UInt8) : UInt8 := if 97 ≤ c.toNat then c - 32 else c + 32

theorem all_u8 (p : UInt8 → Prop) (h : ∀ n, n < 256 → p (UInt8.ofNat n)) (c : UInt8) : p c := by
  have := h c.toNat c.toNat_lt
  rwa [UInt8.ofNat_toNat] at this
theorem idx_table : ∀ k, k < 8 → ∀ n, n < 256 → letB ((k + 1 : Nat) : Int) (UInt8.ofNat n) = decide (0 ≤ idxI ((k + 1 : Nat) : Int) (UInt8.ofNat n)) := by decide +kernel
theorem letB_idx (k : Int) (h1 : 1 ≤ k) (h8 : k ≤ 8) (c : UInt8) : letB k c = decide (0 ≤ idxI k c) := by
  have := all_u8 (fun c => letB (((k.toNat - 1) + 1 : Nat) : Int) c = decide (0 ≤ idxI (((k.toNat - 1) + 1 : Nat) : Int) c)) (idx_table (k.toNat - 1) (by omega)) c
  rwa [show (((k.toNat - 1) + 1 : Nat) : Int) = k by omega] at this
theorem invt_table : ∀ n, n < 256 → letB 8 (UInt8.ofNat n) = true → invt (UInt8.ofNat n) = invc (UInt8.ofNat n) := by decide +kernel
theorem letB_mono {k : Int} (h8 : k ≤ 8) {c : UInt8} (h : letB k c = true) : letB 8 c = true := by
  simp only [letB, Bool.and_eq_true, decide_eq_true_eq] at *
  exact ⟨h.1, by omega⟩
theorem invt_let {c : UInt8} (h : letB 8 c = true) : invt c = invc c := all_u8 (fun c => letB 8 c = true → invt c = invc c) invt_table c h
theorem let_invc_table : ∀ n, n < 256 → (invc (UInt8.ofNat n) ||| 32) = (UInt8.ofNat n ||| 32) := by decide +kernel
theorem letB_invc (k : Int) (c : UInt8) : letB k (invc c) = letB k c := by
  have := all_u8 (fun c => (invc c ||| 32) = (c ||| 32)) let_invc_table c
  unfold letB; rw [this]
theorem invc_invc (c : UInt8) : invc (invc c) = c := by
  unfold invc; rw [UInt8.xor_assoc]; simp

abbrev run (r l : List UInt8) : List UInt8 := grun invc r l
abbrev red (l : List UInt8) : List UInt8 := gred invc l
abbrev invW (l : List UInt8) : List UInt8 := ginv invc l

/-- The reference's stack. -/
theorem gstp_invt {r : List UInt8} {c : UInt8} (h : letB 8 c = true) : gstp invt r c = gstp invc r c := by
  cases r with
  | nil => rfl
  | cons x t => rw [gstp_cons, gstp_cons, invt_let h]
theorem grun_invt : ∀ {l r : List UInt8}, l.all (letB 8) = true → grun invt r l = grun invc r l
  | [], _, _ => rfl
  | c :: l, r, h => by
    simp only [List.all_cons, Bool.and_eq_true] at h
    show grun invt (gstp invt r c) l = grun invc (gstp invc r c) l
    rw [gstp_invt h.1, grun_invt h.2]
theorem ginv_invt {l : List UInt8} (h : l.all (letB 8) = true) : ginv invt l = ginv invc l := by
  unfold ginv; congr 1
  exact List.map_congr_left fun c hc => invt_let (List.all_eq_true.1 h c hc)
theorem isWd_all {k : Int} {l : List UInt8} (h : isWd k l = true) : l.all (letB k) = true := by
  simp only [isWd, Bool.and_eq_true] at h; exact h.2
theorem isWd_len {k : Int} {l : List UInt8} (h : isWd k l = true) : l.length ≤ 100000 := by
  simp only [isWd, Bool.and_eq_true, decide_eq_true_eq] at h; exact h.1
theorem all_mono {k : Int} (h8 : k ≤ 8) {l : List UInt8} (h : l.all (letB k) = true) : l.all (letB 8) = true :=
  List.all_eq_true.2 fun c hc => letB_mono h8 (List.all_eq_true.1 h c hc)
theorem all_invW {k : Int} {l : List UInt8} (h : l.all (letB k) = true) : (invW l).all (letB k) = true := by
  rw [List.all_eq_true] at *
  intro c hc
  simp only [invW, ginv, List.mem_reverse, List.mem_map] at hc
  obtain ⟨x, hx, rfl⟩ := hc
  rw [letB_invc]; exact h x hx
theorem all_gstp {k : Int} {r : List UInt8} {c : UInt8} (hr : r.all (letB k) = true) (hc : letB k c = true) : (gstp invc r c).all (letB k) = true := by
  cases r with
  | nil => simp [gstp, hc]
  | cons x t =>
    rw [gstp_cons]; split
    · simp only [List.all_cons, Bool.and_eq_true] at hr; exact hr.2
    · simp only [List.all_cons, Bool.and_eq_true] at *; exact ⟨hc, hr⟩
theorem all_run {k : Int} : ∀ {l r : List UInt8}, r.all (letB k) = true → l.all (letB k) = true → (run r l).all (letB k) = true
  | [], _, h, _ => h
  | c :: l, r, h, hl => by
    simp only [List.all_cons, Bool.and_eq_true] at hl
    exact all_run (r := gstp invc r c) (all_gstp h hl.1) hl.2
theorem all_rev {k : Int} {l : List UInt8} (h : l.all (letB k) = true) : l.reverse.all (letB k) = true := by
  rw [List.all_reverse]; exact h
theorem all_red {k : Int} {l : List UInt8} (h : l.all (letB k) = true) : (red l).all (letB k) = true := all_rev (all_run (r := []) rfl h)

/-! PRESENTATIONS AND DISKS. -/
structure Pr where
  k : Int
  rels : List (List UInt8)
structure Cel where
  conj : List UInt8
  rel : Int
  inv : Bool
theorem Cel.ext' {a b : Cel} (h1 : a.conj = b.conj) (h2 : a.rel = b.rel) (h3 : a.inv = b.inv) : a = b := by
  cases a; cases b; simp only at h1 h2 h3; subst h1 h2 h3; rfl
instance : DecidableEq Cel := fun a b => decidable_of_iff (a.conj = b.conj ∧ a.rel = b.rel ∧ a.inv = b.inv) ⟨fun h => Cel.ext' h.1 h.2.1 h.2.2, fun h => by subst h; exact ⟨rfl, rfl, rfl⟩⟩

def relB (k : Int) (r : List UInt8) : Bool := decide (1 ≤ r.length) && decide (r.length ≤ 200) && isWd k r && decide (red r = r)
def presB (p : Pr) : Bool := decide (1 ≤ p.k) && decide (p.k ≤ 8) && decide (p.rels.length ≤ 60) && p.rels.all (relB p.k)
def isRelB (p : Pr) (i : Int) : Bool := decide (0 ≤ i) && decide (i < p.rels.length)
def cellB (p : Pr) (c : Cel) : Bool := isRelB p c.rel && isWd p.k c.conj
def conjs (d : List Cel) : Nat := (d.map fun c => c.conj.length).sum
def diskB (p : Pr) (d : List Cel) : Bool := decide (d.length ≤ 100000) && decide (conjs d ≤ 1000000) && d.all (cellB p)
def relOf (p : Pr) (i : Int) (inv : Bool) : List UInt8 := if inv then invW (p.rels.getD i.toNat []) else p.rels.getD i.toNat []
def cellR (p : Pr) (r : List UInt8) (c : Cel) : List UInt8 := run (run (run r c.conj) (relOf p c.rel c.inv)) (invW c.conj)
def bndR (p : Pr) (d : List Cel) : List UInt8 := d.foldl (cellR p) []
def bnd (p : Pr) (d : List Cel) : List UInt8 := (bndR p d).reverse
def chk (p : Pr) (ws : List (List UInt8)) (ds : List (List Cel)) : Int :=
  if presB p = false then 40 else if ws.all (isWd p.k) = false then 41 else if ds.all (diskB p) = false then 42 else 0

theorem chk_cases (p : Pr) (ws : List (List UInt8)) (ds : List (List Cel)) : chk p ws ds = 40 ∨ chk p ws ds = 41 ∨ chk p ws ds = 42 ∨ chk p ws ds = 0 := by
  unfold chk; split; · simp
  split; · simp
  split <;> simp
theorem chk_ok {p : Pr} {ws : List (List UInt8)} {ds : List (List Cel)} (h : chk p ws ds = 0) : presB p = true ∧ ws.all (isWd p.k) = true ∧ ds.all (diskB p) = true := by
  unfold chk at h
  split at h; · omega
  split at h; · omega
  split at h; · omega
  rename_i h1 h2 h3
  exact ⟨by simpa using h1, by simpa using h2, by simpa using h3⟩
theorem presB_k {p : Pr} (h : presB p = true) : 1 ≤ p.k ∧ p.k ≤ 8 ∧ p.rels.length ≤ 60 := by
  simp only [presB, Bool.and_eq_true, decide_eq_true_eq] at h; exact ⟨h.1.1.1, h.1.1.2, h.1.2⟩
theorem presB_rel {p : Pr} (h : presB p = true) (i : Nat) (hi : i < p.rels.length) : relB p.k (p.rels.getD i []) = true := by
  simp only [presB, Bool.and_eq_true] at h
  have := List.all_eq_true.1 h.2 (p.rels[i]) (List.getElem_mem _)
  simpa [List.getD, hi] using this
theorem relB_facts {k : Int} {r : List UInt8} (h : relB k r = true) : 1 ≤ r.length ∧ r.length ≤ 200 ∧ isWd k r = true ∧ red r = r := by
  simp only [relB, Bool.and_eq_true, decide_eq_true_eq] at h; exact ⟨h.1.1.1, h.1.1.2, h.1.2, h.2⟩
theorem relOf_len {p : Pr} (hp : presB p = true) {i : Int} (hi : isRelB p i = true) (inv : Bool) : (relOf p i inv).length ≤ 200 := by
  simp only [isRelB, Bool.and_eq_true, decide_eq_true_eq] at hi
  have := (relB_facts (presB_rel hp i.toNat (by omega))).2.1
  unfold relOf; split
  · rw [ginv_len]; exact this
  · exact this
theorem relOf_all {p : Pr} (hp : presB p = true) {i : Int} (hi : isRelB p i = true) (inv : Bool) : (relOf p i inv).all (letB p.k) = true := by
  simp only [isRelB, Bool.and_eq_true, decide_eq_true_eq] at hi
  have := isWd_all (relB_facts (presB_rel hp i.toNat (by omega))).2.2.1
  unfold relOf; split
  · exact all_invW this
  · exact this
theorem diskB_facts {p : Pr} {d : List Cel} (h : diskB p d = true) : d.length ≤ 100000 ∧ conjs d ≤ 1000000 ∧ ∀ c ∈ d, isRelB p c.rel = true ∧ isWd p.k c.conj = true := by
  simp only [diskB, Bool.and_eq_true, decide_eq_true_eq, List.all_eq_true, cellB] at h
  exact ⟨h.1.1, h.1.2, h.2⟩
theorem cellR_len {p : Pr} {r : List UInt8} {c : Cel} (hl : (relOf p c.rel c.inv).length ≤ 200) : (cellR p r c).length ≤ r.length + 2 * c.conj.length + 200 := by
  unfold cellR run invW
  have h1 := grun_len invc c.conj r
  have h2 := grun_len invc (relOf p c.rel c.inv) (grun invc r c.conj)
  have h3 := grun_len invc (ginv invc c.conj) (grun invc (grun invc r c.conj) (relOf p c.rel c.inv))
  have h4 : (ginv invc c.conj).length = c.conj.length := ginv_len _ _
  omega
theorem conjs_cons (c : Cel) (d : List Cel) : conjs (c :: d) = c.conj.length + conjs d := by simp [conjs]
theorem conjs_app (d e : List Cel) : conjs (d ++ e) = conjs d + conjs e := by simp [conjs]
theorem foldl_cellR_len {p : Pr} (hp : presB p = true) : ∀ (d : List Cel) (r : List UInt8), (∀ c ∈ d, isRelB p c.rel = true) → (d.foldl (cellR p) r).length ≤ r.length + 2 * conjs d + 200 * d.length
  | [], r, _ => by simp [conjs]
  | c :: d, r, h => by
    have h1 := cellR_len (p := p) (r := r) (c := c) (relOf_len hp (h c (by simp)) _)
    have h2 := foldl_cellR_len hp d (cellR p r c) (fun x hx => h x (by simp [hx]))
    rw [List.foldl_cons, conjs_cons, List.length_cons]; omega
theorem bndR_take_len {p : Pr} (hp : presB p = true) {d : List Cel} (hd : diskB p d = true) (n : Nat) : (bndR p (d.take n)).length ≤ 100000000 := by
  obtain ⟨h1, h2, h3⟩ := diskB_facts hd
  have := foldl_cellR_len hp (d.take n) [] (fun c hc => (h3 c (List.mem_of_mem_take hc)).1)
  have e : conjs (d.take n) ≤ conjs d := by
    have := conjs_app (d.take n) (d.drop n); rw [List.take_append_drop] at this; omega
  have l := List.length_take_le n d
  have l2 : (d.take n).length ≤ d.length := by rw [List.length_take]; omega
  simp only [bndR, List.length_nil] at *; omega
theorem bndR_snoc {p : Pr} {d : List Cel} {k : Nat} (h : k < d.length) : bndR p (d.take (k + 1)) = cellR p (bndR p (d.take k)) d[k] := by
  unfold bndR; rw [List.take_succ_eq_append_getElem h, List.foldl_append]; rfl
theorem foldl_cellR_all {p : Pr} (hp : presB p = true) : ∀ (d : List Cel) (r : List UInt8), (∀ c ∈ d, isRelB p c.rel = true ∧ isWd p.k c.conj = true) → r.all (letB p.k) = true → (d.foldl (cellR p) r).all (letB p.k) = true
  | [], r, _, hr => hr
  | c :: d, r, h, hr => by
    have hc := h c (by simp)
    refine foldl_cellR_all hp d (cellR p r c) (fun x hx => h x (by simp [hx])) ?_
    exact all_run (all_run (all_run hr (isWd_all hc.2)) (relOf_all hp hc.1 _)) (all_invW (isWd_all hc.2))
theorem bnd_all {p : Pr} (hp : presB p = true) {d : List Cel} (hd : diskB p d = true) : (bnd p d).all (letB p.k) = true :=
  all_rev (foldl_cellR_all hp d [] (diskB_facts hd).2.2 rfl)
theorem bnd_len {p : Pr} (hp : presB p = true) {d : List Cel} (hd : diskB p d = true) : (bnd p d).length ≤ 100000000 := by
  have := bndR_take_len hp hd d.length
  rw [List.take_length] at this
  simpa [bnd] using this
end Go.Proofs.Ytbcckfggnlmhoaa
