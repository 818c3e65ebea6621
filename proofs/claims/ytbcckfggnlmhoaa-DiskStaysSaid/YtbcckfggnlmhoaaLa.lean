/-
  Our own text, in the proofs of the laws of package disk (cayleylaw04). Proved here: moves on lists give a disk, its boundary, its cells; the record and the walk beside each other in memory; a move's conjugator. Conditions: the arguments lie in memory as the slices say; bounds; where a presentation is named valid, it is.
-/
import Derived.Test.YtbcckfggnlmhoaaIm
import Derived.Test.YtbcckfggnlmhoaaEa
import Derived.Test.YtbcckfggnlmhoaaKb
import Derived.Deep.AppendLies
namespace Go.Proofs.Ytbcckfggnlmhoaa
open Go Go.RowKit

/-- The cell of a move with a relator. -/
def cellM (p : Pr) (x : List UInt8) (m : Mv) : Cel := ⟨red (x.take m.pos.toNat ++ invW ((relOf p m.rel m.inv).take m.shift.toNat)), m.rel, m.inv != decide (m.kind = 3)⟩
def stepC (p : Pr) (s : List UInt8 × List Cel) (m : Mv) : Option (List UInt8 × List Cel) := (stepM p s.1 m).map fun y => (y, if isRM m = true then s.2 ++ [cellM p s.1 m] else s.2)
def foldO {σ : Type} (f : σ → Mv → Option σ) (o : Option σ) (ms : List Mv) : Option σ := ms.foldl (fun o m => o.bind fun s => f s m) o
def runC (p : Pr) (l : List UInt8) (ms : List Mv) : Option (List UInt8 × List Cel) := foldO (stepC p) (some (l, [])) ms

theorem foldO_none {σ : Type} (f : σ → Mv → Option σ) : ∀ ms : List Mv, foldO f none ms = none
  | [] => rfl
  | _ :: r => foldO_none f r
theorem foldO_cons {σ : Type} (f : σ → Mv → Option σ) (s : σ) (m : Mv) (ms : List Mv) : foldO f (some s) (m :: ms) = foldO f (f s m) ms := rfl
theorem foldO_snoc {σ : Type} (f : σ → Mv → Option σ) (o : Option σ) (ms : List Mv) (m : Mv) : foldO f o (ms ++ [m]) = (foldO f o ms).bind fun s => f s m := by simp [foldO]
theorem foldO_app {σ : Type} (f : σ → Mv → Option σ) (o : Option σ) (a b : List Mv) : foldO f o (a ++ b) = foldO f (foldO f o a) b := by simp [foldO]
theorem fold_inv {σ : Type} {f : σ → Mv → Option σ} (P : σ → Prop) (hs : ∀ s m t, P s → f s m = some t → P t) : ∀ (ms : List Mv) (s t : σ), P s → foldO f (some s) ms = some t → P t
  | [], s, t, h, e => by cases e; exact h
  | m :: ms, s, t, h, e => by
    rw [foldO_cons] at e
    cases hf : f s m with
    | none => rw [hf, foldO_none] at e; cases e
    | some s' => rw [hf] at e; exact fold_inv P hs ms s' t (hs s m s' h hf) e
theorem runC_snoc (p : Pr) (l : List UInt8) (ms : List Mv) (m : Mv) : runC p l (ms ++ [m]) = (runC p l ms).bind fun s => stepC p s m := foldO_snoc _ _ _ _
theorem runC_none (p : Pr) (l : List UInt8) (ms : List Mv) (k : Nat) (h : runC p l (ms.take k) = none) : runC p l ms = none := by
  have e : ms = ms.take k ++ ms.drop k := (List.take_append_drop k ms).symm
  unfold runC at h ⊢
  rw [e, foldO_app, h, foldO_none]
theorem runM_eq (p : Pr) (l : List UInt8) (ms : List Mv) : runM p l ms = foldO (stepM p) (some l) ms := rfl
theorem fold_fst (p : Pr) : ∀ (ms : List Mv) (s : List UInt8 × List Cel), (foldO (stepC p) (some s) ms).map (·.1) = foldO (stepM p) (some s.1) ms
  | [], s => rfl
  | m :: ms, s => by
    rw [foldO_cons, foldO_cons]
    unfold stepC
    cases stepM p s.1 m with
    | none => rw [Option.map_none, foldO_none, foldO_none]; rfl
    | some y => rw [Option.map_some]; exact fold_fst p ms _
theorem runC_fst (p : Pr) (l : List UInt8) (ms : List Mv) : (runC p l ms).map (·.1) = runM p l ms := fold_fst p ms (l, [])
theorem runC_some {p : Pr} {l x : List UInt8} {ms : List Mv} (h : runM p l ms = some x) : ∃ ds, runC p l ms = some (x, ds) := by
  rw [← runC_fst] at h
  cases hc : runC p l ms with
  | none => rw [hc] at h; cases h
  | some s => rw [hc] at h; cases h; exact ⟨s.2, rfl⟩
theorem runM_of {p : Pr} {l x : List UInt8} {ms : List Mv} {ds : List Cel} (h : runC p l ms = some (x, ds)) : runM p l ms = some x := by rw [← runC_fst, h]; rfl

/-! WHAT A STEP DOES. -/
theorem rotOf_some {p : Pr} {m : Mv} {v : List UInt8} (h : rotOf p m = some v) : isRelB p m.rel = true ∧ v = (relOf p m.rel m.inv).drop m.shift.toNat ++ (relOf p m.rel m.inv).take m.shift.toNat := by
  unfold rotOf at h
  split at h
  · rename_i hr
    split at h
    · cases h; exact ⟨hr, rfl⟩
    · cases h
  · cases h
theorem rot_len {p : Pr} {m : Mv} {v : List UInt8} (h : rotOf p m = some v) : v.length = (relOf p m.rel m.inv).length := by
  rw [(rotOf_some h).2, List.length_append, List.length_drop, List.length_take]; omega
theorem insAt_some {l v y : List UInt8} {i : Int} (h : insAt l i v = some y) : 0 ≤ i ∧ i ≤ l.length ∧ l.length + v.length ≤ 100000 ∧ y = l.take i.toNat ++ v ++ l.drop i.toNat := by
  unfold insAt at h
  split at h
  · rename_i hh; cases h; exact ⟨hh.1, hh.2.1, hh.2.2, rfl⟩
  · cases h
theorem step3 {p : Pr} {x y : List UInt8} {m : Mv} (h : stepM p x m = some y) (hk : m.kind = 3) :
    isRelB p m.rel = true ∧ 0 ≤ m.pos ∧ m.pos ≤ x.length ∧ x.length + (relOf p m.rel m.inv).length ≤ 100000 ∧ y = x.take m.pos.toNat ++ ((relOf p m.rel m.inv).drop m.shift.toNat ++ (relOf p m.rel m.inv).take m.shift.toNat) ++ x.drop m.pos.toNat := by
  unfold stepM at h
  rw [if_neg (by omega), if_neg (by omega), if_pos hk] at h
  unfold insRel at h
  split at h
  · rename_i v hv
    obtain ⟨h1, h2, h3, h4⟩ := insAt_some h
    rw [rot_len hv] at h3
    rw [(rotOf_some hv).2] at h4
    exact ⟨(rotOf_some hv).1, h1, h2, h3, h4⟩
  · cases h
theorem step4 {p : Pr} {x y : List UInt8} {m : Mv} (h : stepM p x m = some y) (hk : m.kind = 4) :
    isRelB p m.rel = true ∧ 0 ≤ m.pos ∧ m.pos.toNat + (relOf p m.rel m.inv).length ≤ x.length ∧ y = x.take m.pos.toNat ++ x.drop (m.pos.toNat + (relOf p m.rel m.inv).length) ∧
      x = x.take m.pos.toNat ++ ((relOf p m.rel m.inv).drop m.shift.toNat ++ (relOf p m.rel m.inv).take m.shift.toNat) ++ x.drop (m.pos.toNat + (relOf p m.rel m.inv).length) := by
  unfold stepM at h
  rw [if_neg (by omega), if_neg (by omega), if_neg (by omega), if_pos hk] at h
  unfold delRel at h
  split at h
  · rename_i v hv
    have hlen := rot_len hv
    have hv2 := (rotOf_some hv).2
    unfold cutAt at h
    split at h
    · rename_i hh
      obtain ⟨h1, h2, h3⟩ := hh
      cases h
      rw [hlen] at h2 h3 ⊢
      refine ⟨(rotOf_some hv).1, h1, by omega, rfl, ?_⟩
      rw [← hv2, ← h3, List.append_assoc]
      conv => lhs; rw [← List.take_append_drop m.pos.toNat x]
      congr 1
      conv => lhs; rw [← List.take_append_drop (relOf p m.rel m.inv).length (x.drop m.pos.toNat)]
      rw [List.drop_drop]
    · cases h
  · cases h
theorem ltr_letk : ∀ k, k < 8 → ∀ n, n < 2 * (k + 1) → letB ((k + 1 : Nat) : Int) (ltr n) = true := by decide +kernel
theorem ltr_all {k : Int} (h1 : 1 ≤ k) (h8 : k ≤ 8) (n : Nat) (hn : (n : Int) < 2 * k) : letB k (ltr n) = true := by
  have := ltr_letk (k.toNat - 1) (by omega) n (by omega)
  rwa [show (((k.toNat - 1) + 1 : Nat) : Int) = k by omega] at this

/-! FREE REDUCTION AND CUTS. -/
theorem red_app_right {a b : List UInt8} (c : List UInt8) (h : red a = red b) : red (c ++ a) = red (c ++ b) := by
  have h1 := gred_app_gred invc_invc c a
  have h2 := gred_app_gred invc_invc c b
  show gred invc _ = gred invc _
  rw [← h1, ← h2]
  show gred invc (c ++ red a) = gred invc (c ++ red b)
  rw [h]
theorem red_inv {a b : List UInt8} (h : red a = red b) : red (invW a) = red (invW b) := by
  show gred invc (ginv invc a) = gred invc (ginv invc b)
  rw [← ginv_gred invc_invc, ← ginv_gred invc_invc]
  show ginv invc (red a) = ginv invc (red b)
  rw [h]
theorem red_cut1 (a u c : List UInt8) : red (a ++ (u ++ (invW u ++ c))) = red (a ++ c) := by
  have := gred_cut invc_invc a u c
  simp only [List.append_assoc] at this
  exact this
theorem red_cut2 (a u c : List UInt8) : red (a ++ (invW u ++ (u ++ c))) = red (a ++ c) := by
  have := gred_cut invc_invc a (ginv invc u) c
  rw [ginv_ginv invc_invc] at this
  simp only [List.append_assoc] at this
  exact this
theorem invW_app (a b : List UInt8) : invW (a ++ b) = invW b ++ invW a := ginv_app _ _ _
theorem invW_invW (a : List UInt8) : invW (invW a) = a := ginv_ginv invc_invc a
theorem red_red (a : List UInt8) : red (red a) = red a := gred_of_red invc_invc a

/-- Pairs leave the free reduction. -/
theorem step_pair {p : Pr} {x y : List UInt8} {m : Mv} (h : stepM p x m = some y) (hk : isRM m = false) : red y = red x := by
  simp only [isRM, Bool.or_eq_false_iff, decide_eq_false_iff_not] at hk
  unfold stepM at h
  split at h
  · unfold insPair at h
    split at h
    · obtain ⟨_, _, _, rfl⟩ := insAt_some h
      have e := red_cut1 (x.take m.pos.toNat) [ltr m.letter.toNat] (x.drop m.pos.toNat)
      conv => rhs; rw [← List.take_append_drop m.pos.toNat x]
      rw [← e]
      simp [invW, ginv]
    · cases h
  split at h
  · unfold delPair at h
    split at h
    · rename_i hh
      obtain ⟨h0, h1, h2⟩ := hh
      cases h
      obtain ⟨n, hn⟩ := Int.eq_ofNat_of_zero_le h0
      rw [hn] at h1 h2 ⊢
      simp only [Int.toNat_natCast] at h2 ⊢
      have ha : n < x.length := by omega
      have hb : n + 1 < x.length := by omega
      have e := red_cut1 (x.take n) [x[n]] (x.drop (n + 2))
      rw [← e]
      conv => rhs; rw [← List.take_append_drop n x, List.drop_eq_getElem_cons ha, List.drop_eq_getElem_cons hb]
      have g1 : x.getD n 0 = x[n] := by simp [List.getD, ha]
      have g2 : x.getD (n + 1) 0 = x[n + 1] := by simp [List.getD, hb]
      rw [g1, g2] at h2
      rw [h2]
      simp [invW, ginv]
    · cases h
  split at h
  · omega
  split at h
  · omega
  · cases h

theorem bnd_cell (p : Pr) (ds : List Cel) (v : List UInt8) (i : Int) (b : Bool) (z : List UInt8) (h : bnd p ds = red z) : bnd p (ds ++ [⟨red v, i, b⟩]) = red (z ++ (v ++ (relOf p i b ++ invW v))) := by
  have e1 : bnd p [⟨red v, i, b⟩] = red (cellW p ⟨red v, i, b⟩) := by rw [bnd_eq]; simp [flat]
  have e2 : (⟨red v, i, b⟩ : Cel) = conC v ⟨[], i, b⟩ := by unfold conC; simp
  have e3 := red_cell p v ⟨[], i, b⟩ z []
  have e4 : cellW p ⟨[], i, b⟩ = relOf p i b := by unfold cellW; simp [invW, ginv]
  rw [bnd_app, e1, h, red_app_left _ (red_red z), red_app_right _ (red_red _), e2]
  rw [List.append_nil, List.append_nil, e4] at e3
  rw [e3]
  simp only [List.append_assoc]

/-- What holds of word and cells behind each move. -/
structure CInv (p : Pr) (l : List UInt8) (s : List UInt8 × List Cel) : Prop where
  bd : bnd p s.2 = red (l ++ invW s.1)
  len : s.1.length ≤ 100000
  all : s.1.all (letB p.k) = true
  cells : ∀ c ∈ s.2, cellB p c = true
theorem all_app {k : Int} {a b : List UInt8} (ha : a.all (letB k) = true) (hb : b.all (letB k) = true) : (a ++ b).all (letB k) = true := by rw [List.all_append, ha, hb]; rfl
theorem all_take {k : Int} {a : List UInt8} (n : Nat) (ha : a.all (letB k) = true) : (a.take n).all (letB k) = true := List.all_eq_true.2 fun c hc => List.all_eq_true.1 ha c (List.mem_of_mem_take hc)
theorem all_drop {k : Int} {a : List UInt8} (n : Nat) (ha : a.all (letB k) = true) : (a.drop n).all (letB k) = true := List.all_eq_true.2 fun c hc => List.all_eq_true.1 ha c (List.mem_of_mem_drop hc)
theorem stepM_all {p : Pr} (hp : presB p = true) {x y : List UInt8} {m : Mv} (h : stepM p x m = some y) (ha : x.all (letB p.k) = true) : y.all (letB p.k) = true := by
  obtain ⟨k1, k8, _⟩ := presB_k hp
  by_cases h3 : m.kind = 3
  · obtain ⟨hr, _, _, _, rfl⟩ := step3 h h3
    have ht := relOf_all hp hr m.inv
    exact all_app (all_app (all_take _ ha) (all_app (all_drop _ ht) (all_take _ ht))) (all_drop _ ha)
  by_cases h4 : m.kind = 4
  · obtain ⟨_, _, _, rfl, _⟩ := step4 h h4
    exact all_app (all_take _ ha) (all_drop _ ha)
  unfold stepM at h
  split at h
  · unfold insPair at h
    split at h
    · rename_i hh
      obtain ⟨_, _, _, rfl⟩ := insAt_some h
      have hl : letB p.k (ltr m.letter.toNat) = true := ltr_all k1 k8 _ (by omega)
      exact all_app (all_app (all_take _ ha) (by simp [hl, letB_invc])) (all_drop _ ha)
    · cases h
  split at h
  · unfold delPair at h
    split at h
    · cases h; exact all_app (all_take _ ha) (all_drop _ ha)
    · cases h
  cases h
theorem red_len (l : List UInt8) : (red l).length ≤ l.length := gred_len _ _
theorem isWd_mk {k : Int} {l : List UInt8} (h1 : l.length ≤ 100000) (h2 : l.all (letB k) = true) : isWd k l = true := by simp [isWd, h1, h2]
/-- The cell of a move that applies is a cell, and its letters are few. -/
theorem cellM_ok {p : Pr} (hp : presB p = true) {x y : List UInt8} {m : Mv} (h : stepM p x m = some y) (hm : isRM m = true) (hx : x.length ≤ 100000) (ha : x.all (letB p.k) = true) : cellB p (cellM p x m) = true := by
  have key : isRelB p m.rel = true ∧ (x.take m.pos.toNat).length + (relOf p m.rel m.inv).length ≤ 100000 := by
    simp only [isRM, Bool.or_eq_true, decide_eq_true_eq] at hm
    rcases hm with hm | hm
    · obtain ⟨hr, _, _, h3, _⟩ := step3 h hm
      exact ⟨hr, by rw [List.length_take]; omega⟩
    · obtain ⟨hr, _, h3, _⟩ := step4 h hm
      exact ⟨hr, by rw [List.length_take]; omega⟩
  obtain ⟨hr, hl⟩ := key
  have ht := relOf_all hp hr m.inv
  unfold cellB cellM
  simp only
  rw [hr, Bool.true_and]
  refine isWd_mk (Nat.le_trans (red_len _) ?_) (all_red (all_app (all_take _ ha) (all_invW (all_take _ ht))))
  have : (invW ((relOf p m.rel m.inv).take m.shift.toNat)).length = ((relOf p m.rel m.inv).take m.shift.toNat).length := ginv_len _ _
  rw [List.length_append, this, List.length_take (l := relOf p m.rel m.inv)]
  omega

theorem CInv.step {p : Pr} (hp : presB p = true) {l : List UInt8} {s t : List UInt8 × List Cel} {m : Mv} (h : CInv p l s) (hs : stepC p s m = some t) : CInv p l t := by
  obtain ⟨x, ds⟩ := s
  unfold stepC at hs
  simp only at hs
  cases hy : stepM p x m with
  | none => rw [hy] at hs; cases hs
  | some y =>
    rw [hy] at hs
    simp only [Option.map_some, Option.some.injEq] at hs
    subst hs
    have hlen := stepM_len h.len hy
    have hall := stepM_all hp hy h.all
    have hbd := h.bd
    simp only at hbd
    cases hm : isRM m with
    | false =>
      refine ⟨?_, hlen, hall, by simpa using h.cells⟩
      simp only [Bool.false_eq_true, if_false]
      rw [hbd]
      exact red_app_right _ (red_inv (step_pair hy hm)).symm
    | true =>
      have hcell := cellM_ok hp hy hm h.len h.all
      refine ⟨?_, hlen, hall, ?_⟩
      · simp only [if_true]
        unfold cellM
        rw [bnd_cell p ds _ _ _ _ hbd]
        have hft : (relOf p m.rel m.inv).take m.shift.toNat ++ (relOf p m.rel m.inv).drop m.shift.toNat = relOf p m.rel m.inv := List.take_append_drop _ _
        simp only [isRM, Bool.or_eq_true, decide_eq_true_eq] at hm
        rcases hm with hm | hm
        · obtain ⟨_, _, _, _, hyy⟩ := step3 hy hm
          have hx : x = x.take m.pos.toNat ++ x.drop m.pos.toNat := (List.take_append_drop _ _).symm
          have hb : (m.inv != decide (m.kind = 3)) = !m.inv := by rw [hm]; cases m.inv <;> rfl
          rw [hb, relOf_not]
          generalize (relOf p m.rel m.inv).take m.shift.toNat = f at *
          generalize (relOf p m.rel m.inv).drop m.shift.toNat = b at *
          rw [← hft, hyy]
          generalize x.take m.pos.toNat = u at *
          generalize x.drop m.pos.toNat = c at *
          rw [hx]
          simp only [invW_app, invW_invW, List.append_assoc]
          have c1 := red_cut2 (l ++ invW c) u (invW f ++ (invW b ++ (invW f ++ (f ++ invW u))))
          have c2 := red_cut2 (l ++ invW c ++ invW f ++ invW b) f (invW u)
          simp only [List.append_assoc] at c1 c2
          rw [c1, c2]
        · obtain ⟨_, _, _, hyy, hx⟩ := step4 hy hm
          have hb : (m.inv != decide (m.kind = 3)) = m.inv := by rw [hm]; cases m.inv <;> rfl
          rw [hb]
          generalize (relOf p m.rel m.inv).take m.shift.toNat = f at *
          generalize (relOf p m.rel m.inv).drop m.shift.toNat = b at *
          generalize hL : (relOf p m.rel m.inv).length = L at *
          rw [← hft, hyy]
          generalize x.take m.pos.toNat = u at *
          generalize x.drop (m.pos.toNat + L) = c at *
          rw [hx]
          simp only [invW_app, invW_invW, List.append_assoc]
          have c1 := red_cut2 (l ++ invW c ++ invW f ++ invW b) u (invW f ++ (f ++ (b ++ (f ++ invW u))))
          have c2 := red_cut2 (l ++ invW c ++ invW f ++ invW b) f (b ++ (f ++ invW u))
          have c3 := red_cut2 (l ++ invW c ++ invW f) b (f ++ invW u)
          have c4 := red_cut2 (l ++ invW c) f (invW u)
          simp only [List.append_assoc] at c1 c2 c3 c4
          rw [c1, c2, c3, c4]
      · simp only [if_true]
        intro c hc
        rw [List.mem_append, List.mem_singleton] at hc
        rcases hc with hc | rfl
        · exact h.cells c hc
        · exact hcell
theorem CInv.start {p : Pr} {l : List UInt8} (h : isWd p.k l = true) : CInv p l (l, []) := by
  refine ⟨?_, isWd_len h, isWd_all h, fun c hc => by cases hc⟩
  have := red_cut1 [] l []
  simp only [List.nil_append, List.append_nil] at this
  simp only
  rw [this]; rfl
theorem runC_inv {p : Pr} (hp : presB p = true) {l : List UInt8} (hl : isWd p.k l = true) {ms : List Mv} {s : List UInt8 × List Cel} (h : runC p l ms = some s) : CInv p l s :=
  fold_inv (CInv p l) (fun _ _ _ a b => a.step hp b) ms _ _ (CInv.start hl) h
theorem fold_cnt (p : Pr) : ∀ (ms : List Mv) (s t : List UInt8 × List Cel), foldO (stepC p) (some s) ms = some t → t.2.length = s.2.length + cntM ms
  | [], s, t, e => by cases e; rfl
  | m :: ms, s, t, e => by
    rw [foldO_cons] at e
    cases hf : stepC p s m with
    | none => rw [hf, foldO_none] at e; cases e
    | some s' =>
      rw [hf] at e
      rw [fold_cnt p ms s' t e]
      unfold stepC at hf
      cases hy : stepM p s.1 m with
      | none => rw [hy] at hf; cases hf
      | some y =>
        rw [hy] at hf
        simp only [Option.map_some, Option.some.injEq] at hf
        subst hf
        cases hm : isRM m <;> simp [cntM, hm] <;> omega
theorem runC_cnt {p : Pr} {l : List UInt8} {ms : List Mv} {s : List UInt8 × List Cel} (h : runC p l ms = some s) : s.2.length = cntM ms := by
  have := fold_cnt p ms _ _ h; simpa using this
end Go.Proofs.Ytbcckfggnlmhoaa

namespace Go.Proofs.Ytbcckfggnlmhoaa
open Go Go.RowKit

theorem FRow.block {w w' : World} {g cap : Nat} {xs : List Value} (h : FRow w g cap xs) (hb : w'.heap[g]? = w.heap[g]?) (hs : w.heap.size ≤ w'.heap.size) : FRow w' g cap xs := by
  refine ⟨Nat.lt_of_lt_of_le h.lt hs, h.len, h.max, ?_, fun j hj => ?_, fun j hj => ?_⟩
  · have := h.shape; unfold World.shape? at this ⊢; rw [hb]; exact this
  · rw [← h.cell j hj]; exact cell_same hb j
  · rw [frozen_same hb j]; exact h.free j hj
theorem WRow.block {w w' : World} {g cap : Nat} {l : List UInt8} (h : WRow w g cap l) (hb : w'.heap[g]? = w.heap[g]?) (hs : w.heap.size ≤ w'.heap.size) : WRow w' g cap l := ⟨h.1, h.2.imp fun _ hf => hf.block hb hs⟩

/-- Blocks that are none of the walk's. -/
def Off (S : Nat → Prop) (kb mb g : Nat) : Prop := ¬ S kb ∧ ¬ S mb ∧ ¬ S g
theorem WkAt.touch {F : Gh} {w : World} {p : Pr} {R : Option Addr} {rc kb mb g cap : Nat} {l : List UInt8} {W W' : World} (h : WkAt F w p R rc kb mb g cap l W) {S : Nat → Prop} (ht : Touch S W W') (ho : Off S kb mb g) (hS : ∀ k, S k → w.heap.size ≤ k) :
    WkAt ⟨w, fun _ => False⟩ w p R rc kb mb g cap l W' := by
  have bk := ht.block kb h.kbs ho.1
  have bm := ht.block mb h.memo.lt ho.2.1
  have bg := ht.block g h.word.lt ho.2.2
  exact ⟨h.old.trans (ht.below _ h.old.size hS), h.kbl, Nat.lt_of_lt_of_le h.kbs ht.size, h.gl, h.gk, h.mkb, h.mg, (cell_same bk 0).trans h.c0, (cell_same bk 1).trans h.c1, (cell_same bk 2).trans h.c2, (cell_same bk 3).trans h.c3,
    (frozen_same bk 2).trans h.f2, h.word.block bg ht.size, h.memo.block bm, Nat.le_trans h.old.size ht.size, fun k hk => hk.elim, id, id⟩

/-- The record, in block rb. -/
structure RecAt (B rb : Nat) (O : Option Addr) (oc : Nat) (C : Option Addr) (cc : Nat) (r : List UInt8) (a : Nat) (ds : List Cel) (L : Nat) (W : World) : Prop where
  front : Front B rb O oc r a W
  c2 : W.cell? ⟨rb, 2, none⟩ = some (.slice C ds.length cc)
  c3 : W.cell? ⟨rb, 3, none⟩ = some (.int .i64 L)
  f2 : W.frozen? ⟨rb, 2, none⟩ = false
  f3 : W.frozen? ⟨rb, 3, none⟩ = false
  own : W.ownsRow B 61 3 (.slice C ds.length cc) ds.length (cs3 ds)
  ne : ∀ k, blk O = some k → blk C ≠ some k
/-- The record's blocks. -/
def RecS (rb : Nat) (O C : Option Addr) (k : Nat) : Prop := k = rb ∨ blk O = some k ∨ blk C = some k
theorem RecAt.keep {B rb : Nat} {O : Option Addr} {oc : Nat} {C : Option Addr} {cc : Nat} {r : List UInt8} {a : Nat} {ds : List Cel} {L : Nat} {W W' : World} (h : RecAt B rb O oc C cc r a ds L W) (hb : ∀ k, RecS rb O C k → W'.heap[k]? = W.heap[k]?) (hs : W.heap.size ≤ W'.heap.size) : RecAt B rb O oc C cc r a ds L W' := by
  have hbr := hb rb (.inl rfl)
  exact ⟨h.front.keep hbr (fun k hk => hb k (.inr (.inl hk))) hs, (cell_same hbr 2).trans h.c2, (cell_same hbr 3).trans h.c3, (frozen_same hbr 2).trans h.f2, (frozen_same hbr 3).trans h.f3, own_same h.own (fun k hk => hb k (.inr (.inr (by rw [← hk, ownBlock_slice])))), h.ne⟩
theorem RecAt.lt {B rb : Nat} {O : Option Addr} {oc : Nat} {C : Option Addr} {cc : Nat} {r : List UInt8} {a : Nat} {ds : List Cel} {L : Nat} {W : World} (h : RecAt B rb O oc C cc r a ds L W) : ∀ k, RecS rb O C k → k < W.heap.size := by
  rintro k (rfl | hk | hk)
  · exact h.front.lt
  · exact (blk_lt h.front.own _ hk).2
  · exact (blk_lt h.own _ hk).2
theorem RecAt.ge {B rb : Nat} {O : Option Addr} {oc : Nat} {C : Option Addr} {cc : Nat} {r : List UInt8} {a : Nat} {ds : List Cel} {L : Nat} {W : World} (h : RecAt B rb O oc C cc r a ds L W) : ∀ k, RecS rb O C k → rb ≤ k := by
  have hlo := h.front.lo
  rintro k (rfl | hk | hk)
  · exact Nat.le_refl _
  · have := (blk_lt h.front.own _ hk).1; omega
  · have := (blk_lt h.own _ hk).1; omega
theorem RecAt.below {B rb : Nat} {O : Option Addr} {oc : Nat} {C : Option Addr} {cc : Nat} {r : List UInt8} {a : Nat} {ds : List Cel} {L : Nat} {W W' : World} (h : RecAt B rb O oc C cc r a ds L W) (hb : Below W.heap.size W W') : RecAt B rb O oc C cc r a ds L W' :=
  h.keep (fun k hk => hb.block k (h.lt k hk)) hb.size
/-- Behind a front's method. -/
theorem RecAt.moved {B rb : Nat} {O : Option Addr} {oc : Nat} {C : Option Addr} {cc : Nat} {r : List UInt8} {a : Nat} {ds : List Cel} {L : Nat} {W W' : World} (h : RecAt B rb O oc C cc r a ds L W) {O' : Option Addr} {oc' : Nat} {r' : List UInt8} {q : Nat}
    (hf : Front B rb O' oc' r' q W') (ht : Touch (fun k => k = rb ∨ blk O = some k) W W') (hm : Moved W O O') (hr : Rest rb W W') : RecAt B rb O' oc' C cc r' q ds L W' := by
  have hlo := h.front.lo
  refine ⟨hf, (hr 2 (by omega)).1.trans h.c2, (hr 3 (by omega)).1.trans h.c3, (hr 2 (by omega)).2.trans h.f2, (hr 3 (by omega)).2.trans h.f3, own_same h.own (fun k hk => ?_), fun k hk e => ?_⟩
  · rw [ownBlock_slice] at hk
    have hkl := blk_lt h.own _ hk
    refine ht.block k hkl.2 ?_
    rintro (rfl | hO)
    · omega
    · exact h.ne k hO hk
  · rcases hm with hm | hm
    · exact h.ne k (hm ▸ hk) e
    · have := hm k hk; have := (blk_lt h.own _ e).2; omega
/-- Rows that stay or are new, seen from the walk. -/
theorem off_moved {W : World} {rb : Nat} {O O' C C' : Option Addr} {kb mb g : Nat} (ho : Off (RecS rb O C) kb mb g) (hk : kb < W.heap.size) (hm : mb < W.heap.size) (hg : g < W.heap.size) (h1 : Moved W O O') (h2 : Moved W C C') : Off (RecS rb O' C') kb mb g := by
  have key : ∀ x, x < W.heap.size → ¬ RecS rb O C x → ¬ RecS rb O' C' x := by
    rintro x hx hn (rfl | hk | hk)
    · exact hn (.inl rfl)
    · rcases h1 with h1 | h1
      · exact hn (.inr (.inl (h1 ▸ hk)))
      · have := h1 x hk; omega
    · rcases h2 with h2 | h2
      · exact hn (.inr (.inr (h2 ▸ hk)))
      · have := h2 x hk; omega
  exact ⟨key kb hk ho.1, key mb hm ho.2.1, key g hg ho.2.2⟩

/-- Clone of the front's row, the inverse of the relator's first letters, and both together. -/
theorem conj_calls (B : Nat) (O : Option Addr) (oc : Nat) (r : List UInt8) (tg tc s : Nat) (t : List UInt8) (X : World) (hown : X.ownsRow B 5 1 (.slice O r.length oc) r.length (bs r.reverse)) (ht : RowAt X (some ⟨tg, 0, none⟩) t) (htl : tg < X.heap.size) (hs : s ≤ t.length) (hr : r.length ≤ 100000) (ht2 : t.length ≤ 200) :
    Calls Try.prog 51 #[.slice O r.length oc] X (fun e wA => ∃ A5 c5, e = .returned (.slice A5 r.length c5) ∧ Below X.heap.size X wA ∧
      Calls Try.prog 77 #[.slice (some ⟨tg, 0, none⟩) s tc, .func (.func 52) #[] #[]] wA (fun e wB => ∃ A6 c6, e = .returned (.slice A6 s c6) ∧ Below X.heap.size X wB ∧
        Calls Try.prog 50 #[.slice A5 r.length c5, .slice A6 s c6, .func (.func 52) #[] #[]] wB (fun e wC => ∃ A7 c7, e = .returned (.slice A7 (run r (invW (t.take s))).reverse.length c7) ∧ RowAt wC A7 (run r (invW (t.take s))).reverse ∧ Below X.heap.size X wC ∧ ∀ b o, A7 = some ⟨b, o, none⟩ → X.heap.size ≤ b))) := by
  have hA0 : O = none → r.reverse = [] := fun h => by
    rcases own_shape hown with ⟨_, h0, _⟩ | ⟨g, h1, _⟩
    · rw [List.length_eq_zero_iff.1 h0]; rfl
    · rw [h] at h1; cases h1
  have h1 := Clone_any O oc r.reverse X (rowAt_own hown) hA0 (by rw [List.length_reverse]; omega)
  rw [List.length_reverse] at h1
  refine h1.mono ?_
  rintro e wA ⟨A5, c5, rfl, hown5, hbA⟩
  rw [List.length_reverse] at hown5
  refine ⟨A5, c5, by rw [List.length_reverse], hbA, ?_⟩
  have hts : (t.take s).length = s := by rw [List.length_take]; omega
  have hvs : (invW (t.take s)).length = s := (ginv_len _ _).trans hts
  have hrow : RowAt wA (some ⟨tg, 0, none⟩) (t.take s) := fun i hi => by
    rw [hts] at hi
    obtain ⟨b, o, hA, hc⟩ := (ht.below hbA) i (by omega)
    exact ⟨b, o, hA, by rw [List.getElem_take]; exact hc⟩
  have h2 := inverseOf_any (some ⟨tg, 0, none⟩) tc (t.take s) wA hrow (fun h => by cases h) (by omega)
  rw [hts] at h2
  refine h2.mono ?_
  rintro e wB ⟨A6, c6, rfl, hown6, hbB⟩
  have hbXB := hbA.trans (hbB.mono hbA.size)
  refine ⟨A6, c6, by rw [hvs], hbXB, ?_⟩
  have hown5B := own_below hown5 hbB
  have hl6 := blk_lt hown6
  have hl5 := blk_lt hown5
  have h3 := appRed_any X.heap.size A5 c5 r (invW (t.take s)) A6 c6 wB hown5B (rowAt_own hown6) (fun a ha e => by have a1 := (hl6 a.block (by rw [ha]; rfl)).1; have a2 := (hl5 _ e).2; omega) (fun a ha => (hl6 a.block (by rw [ha]; rfl)).2) (by omega) (Nat.le_trans hbA.size hbB.size)
  rw [hvs] at h3
  refine h3.mono ?_
  rintro e wC ⟨A7, c7, rfl, hown7, hg7, _⟩
  refine ⟨A7, c7, by rw [List.length_reverse], ?_, below_of_grown hbXB hg7 hbXB.size (fun a ha => (hl5 a.block (by rw [ha]; rfl)).1), fun b o hA => (blk_lt hown7 b (by rw [hA]; rfl)).1⟩
  have := rowAt_own hown7
  exact this
end Go.Proofs.Ytbcckfggnlmhoaa
