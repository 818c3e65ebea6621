/-
  Our own text, in the proof of the law DiskToMoves of package disk (cayleylaw04). Proved here: on lists, the moves that collapse makes lead from the word to the empty word. Conditions: a valid presentation and disk, of a bounded size.
-/
import Derived.Test.YtbcckfggnlmhoaaLa
import Derived.Test.YtbcckfggnlmhoaaKb
namespace Go.Proofs.Ytbcckfggnlmhoaa
open Go Go.RowKit

/-- One letter more is read: the stack, top first, and the moves. -/
def rdS (s : List UInt8 × List Mv) (c : UInt8) : List UInt8 × List Mv :=
  match s.1 with
  | [] => ([c], s.2)
  | x :: t => if x = invc c then (t, s.2 ++ [⟨2, (t.length : Nat), 0, 0, 0, false⟩]) else (c :: x :: t, s.2)
def rdL (s : List UInt8 × List Mv) (l : List UInt8) : List UInt8 × List Mv := l.foldl rdS s
def pairM (n : Nat) : List UInt8 → List Mv
  | [] => []
  | c :: u => ⟨1, (n : Nat), idxI 8 c, 0, 0, false⟩ :: pairM (n + 1) u
def insM (n : Nat) (c : Cel) : Mv := ⟨3, (n : Nat), 0, c.rel, 0, !c.inv⟩
def undoS (p : Pr) (s : List UInt8 × List Mv) (c : Cel) : List UInt8 × List Mv :=
  rdL (rdL (rdL (s.1, s.2 ++ pairM s.1.length c.conj ++ [insM (s.1.length + c.conj.length) c]) c.conj) (relOf p c.rel (!c.inv))) (invW c.conj)
def colS (p : Pr) (l : List UInt8) (cs : List Cel) : List UInt8 × List Mv := cs.foldl (undoS p) (rdL ([], []) l)

theorem rdS_fst (s : List UInt8 × List Mv) (c : UInt8) : (rdS s c).1 = gstp invc s.1 c := by
  obtain ⟨r, ms⟩ := s
  cases r with
  | nil => rfl
  | cons x t => rw [gstp_cons]; unfold rdS; simp only; split <;> rfl
theorem rdL_fst : ∀ (l : List UInt8) (s : List UInt8 × List Mv), (rdL s l).1 = run s.1 l
  | [], _ => rfl
  | c :: l, s => by
    show (rdL (rdS s c) l).1 = _
    rw [rdL_fst l, rdS_fst]; rfl
theorem rdL_app (s : List UInt8 × List Mv) (a b : List UInt8) : rdL s (a ++ b) = rdL (rdL s a) b := List.foldl_append
theorem undoS_fst (p : Pr) (s : List UInt8 × List Mv) (c : Cel) : (undoS p s c).1 = run s.1 (cellW p (invC c)) := by
  unfold undoS
  rw [rdL_fst, rdL_fst, rdL_fst]
  unfold cellW invC run
  rw [grun_app, grun_app]
theorem rdS_len (s : List UInt8 × List Mv) (c : UInt8) : (rdS s c).1.length ≤ s.1.length + 1 ∧ (rdS s c).2.length ≤ s.2.length + 1 ∧ cntM (rdS s c).2 = cntM s.2 := by
  obtain ⟨r, ms⟩ := s
  cases r with
  | nil => exact ⟨by simp [rdS], by simp [rdS], rfl⟩
  | cons x t =>
    unfold rdS; simp only
    split
    · refine ⟨by simp; omega, by simp, ?_⟩
      simp [cntM, isRM]
    · exact ⟨by simp, by simp, rfl⟩
theorem rdL_len : ∀ (l : List UInt8) (s : List UInt8 × List Mv), (rdL s l).1.length ≤ s.1.length + l.length ∧ (rdL s l).2.length ≤ s.2.length + l.length ∧ cntM (rdL s l).2 = cntM s.2
  | [], s => ⟨Nat.le_refl _, Nat.le_refl _, rfl⟩
  | c :: l, s => by
    have h1 := rdS_len s c
    have h2 := rdL_len l (rdS s c)
    show (rdL (rdS s c) l).1.length ≤ _ ∧ (rdL (rdS s c) l).2.length ≤ _ ∧ cntM (rdL (rdS s c) l).2 = _
    rw [List.length_cons]
    exact ⟨by omega, by omega, by rw [h2.2.2, h1.2.2]⟩
theorem pairM_len : ∀ (u : List UInt8) (n : Nat), (pairM n u).length = u.length ∧ cntM (pairM n u) = 0
  | [], _ => ⟨rfl, rfl⟩
  | c :: u, n => by
    have h := pairM_len u (n + 1)
    refine ⟨by simp [pairM, h.1], ?_⟩
    have : cntM (pairM n (c :: u)) = cntM (pairM (n + 1) u) := by simp [cntM, pairM, isRM]
    rw [this, h.2]
theorem cntM_app (a b : List Mv) : cntM (a ++ b) = cntM a + cntM b := by simp [cntM]

/-! RUNS OF MOVES. -/
theorem delPair_yes (r z : List UInt8) (x c : UInt8) (h : x = invc c) : delPair (r.reverse ++ x :: c :: z) (r.length : Nat) = some (r.reverse ++ z) := by
  have hl : (r.reverse ++ x :: c :: z).length = r.length + (z.length + 2) := by simp
  have g1 : (r.reverse ++ x :: c :: z).getD r.length 0 = x := by simp [List.getD]
  have g2 : (r.reverse ++ x :: c :: z).getD (r.length + 1) 0 = c := by
    rw [List.getD, List.getElem?_append_right (by simp)]
    simp
  unfold delPair
  rw [Int.toNat_natCast, hl, g1, g2, if_pos ⟨by omega, by omega, by rw [h, invc_invc]⟩]
  congr 1
  rw [List.take_append_of_le_length (by simp), List.drop_append, List.take_of_length_le (by simp), List.drop_eq_nil_of_le (by simp)]
  simp
theorem stepM_del (p : Pr) (l : List UInt8) (m : Mv) (h : m.kind = 2) : stepM p l m = delPair l m.pos := by unfold stepM; rw [if_neg (by omega), if_pos h]
theorem rd_run {p : Pr} {l : List UInt8} : ∀ (l' : List UInt8) (s : List UInt8 × List Mv) (z : List UInt8), runM p l s.2 = some (s.1.reverse ++ (l' ++ z)) → runM p l (rdL s l').2 = some ((rdL s l').1.reverse ++ z)
  | [], s, z, h => h
  | c :: l', s, z, h => by
    show runM p l (rdL (rdS s c) l').2 = some ((rdL (rdS s c) l').1.reverse ++ z)
    refine rd_run l' (rdS s c) z ?_
    obtain ⟨r, ms⟩ := s
    cases r with
    | nil => exact h
    | cons x t =>
      unfold rdS; simp only
      split
      · rename_i hx
        simp only at h ⊢
        rw [runM_snoc, h, Option.bind_some, stepM_del _ _ _ rfl]
        have := delPair_yes t (l' ++ z) x c hx
        simp only [List.reverse_cons, List.append_assoc, List.cons_append, List.nil_append]
        exact this
      · simp only [List.reverse_cons, List.append_assoc, List.cons_append, List.nil_append] at h ⊢
        exact h

theorem idx_table2 : ∀ k, k < 8 → ∀ n, n < 256 → letB ((k + 1 : Nat) : Int) (UInt8.ofNat n) = true → 0 ≤ idxI 8 (UInt8.ofNat n) ∧ idxI 8 (UInt8.ofNat n) < 2 * ((k + 1 : Nat) : Int) ∧ ltr (idxI 8 (UInt8.ofNat n)).toNat = UInt8.ofNat n := by decide +kernel
theorem idx_ltr {k : Int} (h1 : 1 ≤ k) (h8 : k ≤ 8) {c : UInt8} (h : letB k c = true) : 0 ≤ idxI 8 c ∧ idxI 8 c < 2 * k ∧ ltr (idxI 8 c).toNat = c := by
  have := all_u8 (fun c => letB (((k.toNat - 1) + 1 : Nat) : Int) c = true → 0 ≤ idxI 8 c ∧ idxI 8 c < 2 * (((k.toNat - 1) + 1 : Nat) : Int) ∧ ltr (idxI 8 c).toNat = c) (idx_table2 (k.toNat - 1) (by omega)) c
  rw [show (((k.toNat - 1) + 1 : Nat) : Int) = k by omega] at this
  exact this h
theorem insAt_yes (A B v : List UInt8) (h : A.length + v.length + B.length ≤ 100000) : insAt (A ++ B) (A.length : Nat) v = some (A ++ v ++ B) := by
  unfold insAt
  rw [if_pos ⟨by omega, by rw [List.length_append]; omega, by rw [List.length_append]; omega⟩]
  simp
theorem pair_run {p : Pr} (hp : presB p = true) {l : List UInt8} : ∀ (u : List UInt8) (ms : List Mv) (A B : List UInt8), u.all (letB p.k) = true → A.length + 2 * u.length + B.length ≤ 100000 → runM p l ms = some (A ++ B) → runM p l (ms ++ pairM A.length u) = some (A ++ (u ++ (invW u ++ B)))
  | [], ms, A, B, _, _, h => by simpa [pairM, invW, ginv] using h
  | c :: u, ms, A, B, ha, hl, h => by
    obtain ⟨k1, k8, _⟩ := presB_k hp
    simp only [List.all_cons, Bool.and_eq_true] at ha
    obtain ⟨i0, i1, i2⟩ := idx_ltr k1 k8 ha.1
    simp only [List.length_cons] at hl
    have hs : runM p l (ms ++ [⟨1, (A.length : Nat), idxI 8 c, 0, 0, false⟩]) = some ((A ++ [c]) ++ (invc c :: B)) := by
      rw [runM_snoc, h, Option.bind_some]
      unfold stepM
      rw [if_pos rfl]
      unfold insPair
      rw [if_pos ⟨i0, i1⟩]
      simp only
      rw [i2, insAt_yes A B _ (by simp; omega)]
      simp
    have h2 := pair_run hp u (ms ++ [⟨1, (A.length : Nat), idxI 8 c, 0, 0, false⟩]) (A ++ [c]) (invc c :: B) ha.2 (by simp; omega) hs
    have e1 : (A ++ [c]).length = A.length + 1 := by simp
    rw [e1] at h2
    have e2 : ms ++ pairM A.length (c :: u) = ms ++ [⟨1, (A.length : Nat), idxI 8 c, 0, 0, false⟩] ++ pairM (A.length + 1) u := by simp [pairM]
    rw [e2, h2]
    have e3 : invW (c :: u) = invW u ++ [invc c] := ginv_cons _ _ _
    rw [e3]
    simp
theorem rel_run {p : Pr} {l : List UInt8} {ms : List Mv} {A B : List UInt8} {c : Cel} (hr : isRelB p c.rel = true) (hn : 1 ≤ (relOf p c.rel (!c.inv)).length) (hl : A.length + (relOf p c.rel (!c.inv)).length + B.length ≤ 100000) (h : runM p l ms = some (A ++ B)) :
    runM p l (ms ++ [insM A.length c]) = some (A ++ (relOf p c.rel (!c.inv) ++ B)) := by
  rw [runM_snoc, h, Option.bind_some]
  unfold stepM insM
  rw [if_neg (by simp), if_neg (by simp), if_pos rfl]
  unfold insRel rotOf
  simp only
  rw [if_pos hr, if_pos ⟨by omega, by omega⟩]
  simp only [Int.toNat_zero, List.drop_zero, List.take_zero, List.append_nil]
  rw [insAt_yes A B _ hl]
  simp

/-- How many letters a cell counts. -/
def relLen (p : Pr) (i : Int) : Nat := (p.rels.getD i.toNat []).length
def wtC (p : Pr) (c : Cel) : Nat := c.conj.length + 2 * relLen p c.rel
def wtL (p : Pr) (d : List Cel) : Nat := (d.map (wtC p)).sum
theorem relOf_relLen (p : Pr) (i : Int) (b : Bool) : (relOf p i b).length = relLen p i := by
  unfold relOf relLen
  split
  · exact ginv_len _ _
  · rfl
theorem relLen_pos {p : Pr} (hp : presB p = true) {i : Int} (hi : isRelB p i = true) : 1 ≤ relLen p i := by
  simp only [isRelB, Bool.and_eq_true, decide_eq_true_eq] at hi
  exact (relB_facts (presB_rel hp i.toNat (by omega))).1
theorem wtL_gstp (p : Pr) (r : List Cel) (c : Cel) : wtL p (gstp invC r c) ≤ wtL p r + wtC p c := by
  cases r with
  | nil => simp [gstp, wtL]
  | cons x t =>
    rw [gstp_cons]
    split <;> simp [wtL] <;> omega
theorem wtL_grun (p : Pr) : ∀ (d r : List Cel), wtL p (grun invC r d) ≤ wtL p r + wtL p d
  | [], r => by simp [grun, wtL]
  | c :: d, r => by
    have h1 := wtL_gstp p r c
    have h2 := wtL_grun p d (gstp invC r c)
    have e : wtL p (c :: d) = wtC p c + wtL p d := by simp [wtL]
    show wtL p (grun invC (gstp invC r c) d) ≤ _
    omega
theorem wtL_rev (p : Pr) (d : List Cel) : wtL p d.reverse = wtL p d := by unfold wtL; rw [List.map_reverse, List.sum_reverse]
theorem wtL_simp4 (p : Pr) (d : List Cel) : wtL p (simp4 d) ≤ wtL p d := by
  unfold simp4 gred
  rw [wtL_rev]
  have h1 := wtL_grun p (d.map redC) []
  have h2 : wtL p (d.map redC) ≤ wtL p d := by
    induction d with
    | nil => exact Nat.le_refl _
    | cons c d ih =>
      have : wtC p (redC c) ≤ wtC p c := by
        unfold wtC redC
        have := red_len c.conj
        simp only
        omega
      have ih' := ih (wtL_grun p (d.map redC) [])
      simp only [wtL, List.map_cons, List.sum_cons] at *
      omega
  have e : wtL p ([] : List Cel) = 0 := rfl
  omega

/-- What holds behind each cell that is undone. -/
structure Col (p : Pr) (l : List UInt8) (s : List UInt8 × List Mv) (n m k : Nat) : Prop where
  run : runM p l s.2 = some s.1.reverse
  len : s.1.length ≤ n
  few : s.2.length ≤ m
  cnt : cntM s.2 = k
theorem Col.undo {p : Pr} (hp : presB p = true) {l : List UInt8} {s : List UInt8 × List Mv} {n m k : Nat} (h : Col p l s n m k) {c : Cel} (hc : cellB p c = true) (hn : n + 2 * wtC p c ≤ 100000) : Col p l (undoS p s c) (n + 2 * wtC p c) (m + 3 * wtC p c) (k + 1) := by
  unfold cellB at hc
  rw [Bool.and_eq_true] at hc
  obtain ⟨hr, hw⟩ := hc
  have hrl := relOf_relLen p c.rel (!c.inv)
  have hr1 := relLen_pos hp hr
  have hl := h.len
  have hil : (invW c.conj).length = c.conj.length := ginv_len _ _
  have hwt : wtC p c = c.conj.length + 2 * relLen p c.rel := rfl
  have e1 := pair_run hp c.conj s.2 s.1.reverse [] (isWd_all hw) (by simp; omega) (by rw [List.append_nil]; exact h.run)
  rw [List.length_reverse, List.append_nil] at e1
  have e2 := rel_run (A := s.1.reverse ++ c.conj) (B := invW c.conj) (c := c) hr (by omega) (by simp [hil]; omega) (by rw [e1]; simp)
  have e3 : (s.1.reverse ++ c.conj).length = s.1.length + c.conj.length := by simp
  rw [e3] at e2
  have q1 := pairM_len c.conj s.1.length
  have t0 : runM p l (s.1, s.2 ++ pairM s.1.length c.conj ++ [insM (s.1.length + c.conj.length) c]).2 = some ((s.1, s.2 ++ pairM s.1.length c.conj ++ [insM (s.1.length + c.conj.length) c]).1.reverse ++ (c.conj ++ (relOf p c.rel (!c.inv) ++ invW c.conj))) := by
    simp only; rw [e2]; simp
  have t1 := rd_run c.conj _ _ t0
  have t2 := rd_run (relOf p c.rel (!c.inv)) _ _ t1
  have t3 := rd_run (invW c.conj) _ [] (by rw [List.append_nil]; exact t2)
  rw [List.append_nil] at t3
  have z1 := rdL_len c.conj (s.1, s.2 ++ pairM s.1.length c.conj ++ [insM (s.1.length + c.conj.length) c])
  have z2 := rdL_len (relOf p c.rel (!c.inv)) (rdL (s.1, s.2 ++ pairM s.1.length c.conj ++ [insM (s.1.length + c.conj.length) c]) c.conj)
  have z3 := rdL_len (invW c.conj) (rdL (rdL (s.1, s.2 ++ pairM s.1.length c.conj ++ [insM (s.1.length + c.conj.length) c]) c.conj) (relOf p c.rel (!c.inv)))
  have y1 : cntM (s.2 ++ pairM s.1.length c.conj ++ [insM (s.1.length + c.conj.length) c]) = k + 1 := by
    rw [cntM_app, cntM_app, h.cnt, q1.2]; rfl
  have y2 : (s.2 ++ pairM s.1.length c.conj ++ [insM (s.1.length + c.conj.length) c]).length = s.2.length + c.conj.length + 1 := by simp [q1.1]; omega
  have hf := h.few
  simp only at z1
  refine ⟨t3, ?_, ?_, ?_⟩
  · show (rdL _ _).1.length ≤ _
    omega
  · show (rdL _ _).2.length ≤ _
    omega
  · show cntM (rdL _ _).2 = _
    rw [z3.2.2, z2.2.2, z1.2.2, y1]
theorem Col.all {p : Pr} (hp : presB p = true) {l : List UInt8} : ∀ (cs : List Cel) (s : List UInt8 × List Mv) (n m k : Nat), Col p l s n m k → (∀ c ∈ cs, cellB p c = true) → n + 2 * wtL p cs ≤ 100000 → Col p l (cs.foldl (undoS p) s) (n + 2 * wtL p cs) (m + 3 * wtL p cs) (k + cs.length)
  | [], s, n, m, k, h, _, _ => by simpa [wtL] using h
  | c :: cs, s, n, m, k, h, hc, hn => by
    have e : wtL p (c :: cs) = wtC p c + wtL p cs := by simp [wtL]
    rw [e] at hn ⊢
    have h1 := h.undo hp (hc c (by simp)) (by omega)
    have h2 := Col.all hp cs (undoS p s c) _ _ _ h1 (fun x hx => hc x (by simp [hx])) (by omega)
    rw [List.foldl_cons, List.length_cons]
    have a1 : n + 2 * (wtC p c + wtL p cs) = n + 2 * wtC p c + 2 * wtL p cs := by omega
    have a2 : m + 3 * (wtC p c + wtL p cs) = m + 3 * wtC p c + 3 * wtL p cs := by omega
    have a3 : k + (cs.length + 1) = k + 1 + cs.length := by omega
    rw [a1, a2, a3]
    exact h2
theorem Col.start (p : Pr) (l : List UInt8) : Col p l (rdL ([], []) l) l.length l.length 0 := by
  have h := rdL_len l ([], [])
  have t := rd_run (p := p) (l := l) l ([], []) [] (by simp [runM])
  simp only [List.append_nil] at t
  exact ⟨t, by simpa using h.1, by simpa using h.2.1, h.2.2⟩
theorem col_fst (p : Pr) : ∀ (cs : List Cel) (s : List UInt8 × List Mv), (cs.foldl (undoS p) s).1 = run s.1 (flat p (cs.map invC))
  | [], s => rfl
  | c :: cs, s => by
    rw [List.foldl_cons, col_fst p cs, undoS_fst]
    have e : flat p ((c :: cs).map invC) = cellW p (invC c) ++ flat p (cs.map invC) := List.flatMap_cons
    rw [e]
    unfold run
    rw [grun_app]
/-- The moves of a disk of the word: they lead to the empty word. -/
theorem colS_done {p : Pr} (hp : presB p = true) {l : List UInt8} {d : List Cel} (hd : ∀ c ∈ simp4 d, cellB p c = true) (hb : bnd p d = red l) (hs : l.length + wtL p d ≤ 20000) :
    runM p l (colS p l (simp4 d).reverse).2 = some [] ∧ (colS p l (simp4 d).reverse).2.length ≤ 100000 ∧ cntM (colS p l (simp4 d).reverse).2 ≤ d.length := by
  have hw : wtL p (simp4 d).reverse ≤ wtL p d := by rw [wtL_rev]; exact wtL_simp4 p d
  have h := Col.all hp (simp4 d).reverse _ _ _ _ (Col.start p l) (fun c hc => hd c (List.mem_reverse.1 hc)) (by omega)
  have e1 : (colS p l (simp4 d).reverse).1 = [] := by
    have := col_fst p (simp4 d).reverse (rdL ([], []) l)
    rw [rdL_fst] at this
    have e2 : (simp4 d).reverse.map invC = ginv invC (simp4 d) := by unfold ginv; rw [List.map_reverse]
    rw [e2, flat_inv] at this
    have e3 : run (run [] l) (invW (flat p (simp4 d))) = (red (l ++ invW (flat p (simp4 d)))).reverse := by
      unfold run
      show _ = (grun invc [] (l ++ _)).reverse.reverse
      rw [List.reverse_reverse, grun_app]
    have e4 : red (flat p (simp4 d)) = red l := by rw [← bnd_eq, bnd_simp4, hb]
    have e5 : red (l ++ invW (flat p (simp4 d))) = red (l ++ invW l) := red_app_right _ (red_inv e4)
    have e6 : red (l ++ invW l) = [] := by
      have := red_cut1 [] l []
      simp only [List.nil_append, List.append_nil] at this
      rw [this]; rfl
    show (List.foldl (undoS p) (rdL ([], []) l) (simp4 d).reverse).1 = []
    rw [this, e3, e5, e6]; rfl
  have hr := h.run
  refine ⟨?_, Nat.le_trans h.few (by omega), ?_⟩
  · show runM p l (List.foldl (undoS p) (rdL ([], []) l) (simp4 d).reverse).2 = some []
    rw [hr]
    show some (colS p l (simp4 d).reverse).1.reverse = _
    rw [e1]; rfl
  · have := h.cnt
    show cntM (List.foldl (undoS p) (rdL ([], []) l) (simp4 d).reverse).2 ≤ _
    rw [this, List.length_reverse]
    have := simp4_len d
    omega
end Go.Proofs.Ytbcckfggnlmhoaa
