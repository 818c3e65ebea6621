/-
  Our own text, in the proof of the law DiskToMoves of package disk (cayleylaw04). Proved here: collapse in memory; a move behind the others. Conditions: none but bounds.
-/
import Derived.Test.YtbcckfggnlmhoaaNa
namespace Go.Proofs.Ytbcckfggnlmhoaa
open Go Go.RowKit

theorem Try.info52 : (Try.prog.info? 52).map (fun i => (i.zero, i.size, i.bytes)) = some (some (.agg #[.int .i64 0, .int .i64 0, .int .i64 0, .int .i64 0, .int .i64 0, .bool false]), 6, 48) := by kernel_rfl
def mv6 (m : Mv) : List Value := [.int .i64 m.kind, .int .i64 m.pos, .int .i64 m.letter, .int .i64 m.rel, .int .i64 m.shift, .bool m.inv]
def ms6 (ms : List Mv) : List Value := ms.flatMap mv6
theorem ms6_cons (m : Mv) (ms : List Mv) : ms6 (m :: ms) = mv6 m ++ ms6 ms := List.flatMap_cons
theorem ms6_app (a b : List Mv) : ms6 (a ++ b) = ms6 a ++ ms6 b := List.flatMap_append
theorem ms6_len (ms : List Mv) : (ms6 ms).length = ms.length * 6 := by
  induction ms with
  | nil => rfl
  | cons c d ih => rw [ms6_cons, List.length_append, ih]; simp [mv6]; omega
theorem ms6_get (d : List Mv) (i : Nat) (h : i < d.length) (j : Nat) (hj : j < 6) : (ms6 d)[i * 6 + j]? = (mv6 d[i])[j]? := by
  induction d generalizing i with
  | nil => simp at h
  | cons c d ih =>
    rw [ms6_cons]
    cases i with
    | zero => rw [List.getElem?_append_left (by simp [mv6]; omega)]; simp
    | succ i =>
      rw [List.getElem?_append_right (by simp [mv6]; omega), show (i + 1) * 6 + j - (mv6 c).length = i * 6 + j by simp [mv6]; omega, ih i (by simpa using h)]
      simp
theorem mv6_one (m : Mv) : ∀ u ∈ ms6 [m], u.oneCell' = true := by
  intro u hu
  simp only [ms6, List.flatMap_cons, List.flatMap_nil, List.append_nil, mv6, List.mem_cons, List.not_mem_nil, or_false] at hu
  rcases hu with rfl | rfl | rfl | rfl | rfl | rfl <;> rfl
/-- Moves that a call owns lie in memory. -/
theorem moves_own {w : World} {B n cap : Nat} {A : Option Addr} {d : List Mv} (h : w.ownsRow B 52 6 (.slice A n cap) n (ms6 d)) (hk : ∀ m ∈ d, (Lit.int .i64 m.kind).wf = true) : MovesAt w A d := by
  intro i hi
  have hl : d.length = n := by have := h.1; rw [ms6_len] at this; omega
  rcases h.2 with ⟨h2, h3⟩ | ⟨g, c', cur, hv, hg, hh, hnc, hcm, hcs, ht⟩
  · omega
  · simp only [Value.slice.injEq, true_and] at hv
    obtain ⟨rfl, rfl⟩ := hv
    refine ⟨g, 0, rfl, fun j v hj => ?_, hk _ (List.getElem_mem _)⟩
    have hj6 : j < 6 := by
      rcases Nat.lt_or_ge j 6 with h | h
      · exact h
      · rw [Array.getElem?_eq_none (by simp [mvC]; omega)] at hj; cases hj
    rw [cell_of_row w g (0 + i * 6 + j) cur 52 (0, 0) hh]
    have : (cur.toList.take (n * 6))[i * 6 + j]? = (ms6 d)[i * 6 + j]? := by rw [ht]
    rw [List.getElem?_take, if_pos (by omega), ms6_get d i hi j hj6] at this
    rw [Nat.zero_add]
    have e : (mv6 d[i])[j]? = (mvC d[i])[j]? := by unfold mv6 mvC; simp
    rw [e, hj] at this
    simpa using this
theorem news_mv (w : World) (m : Mv) (t : TypeId) : ∀ (j : Nat) u, (ms6 [m])[j]? = some u → (w.alloc (.cells (mvC m) t)).cell? ((⟨w.heap.size, 0, none⟩ : Addr).add j) = some u := by
  intro j u hu
  rw [add_lit, alloc_cell, Nat.zero_add]
  have e : (ms6 [m])[j]? = (mvC m)[j]? := by unfold ms6 mvC; simp [mv6]
  rw [← e]; exact hu

/-- collapse, in block cb. -/
structure ColAt (p : Pr) (R : Option Addr) (rc B cb : Nat) (O : Option Addr) (oc : Nat) (C : Option Addr) (cc : Nat) (r : List UInt8) (ms : List Mv) (W : World) : Prop where
  c0 : W.cell? ⟨cb, 0, none⟩ = some (.int .i64 p.k)
  c1 : W.cell? ⟨cb, 1, none⟩ = some (.slice R p.rels.length rc)
  c2 : W.cell? ⟨cb, 2, none⟩ = some (.slice O r.length oc)
  c3 : W.cell? ⟨cb, 3, none⟩ = some (.slice C ms.length cc)
  f2 : W.frozen? ⟨cb, 2, none⟩ = false
  f3 : W.frozen? ⟨cb, 3, none⟩ = false
  word : W.ownsRow B 5 1 (.slice O r.length oc) r.length (bs r.reverse)
  mvs : W.ownsRow B 52 6 (.slice C ms.length cc) ms.length (ms6 ms)
  lo : cb < B
  hi : B ≤ W.heap.size
  ne : ∀ k, blk O = some k → blk C ≠ some k
theorem ColAt.clt {p : Pr} {R : Option Addr} {rc B cb : Nat} {O : Option Addr} {oc : Nat} {C : Option Addr} {cc : Nat} {r : List UInt8} {ms : List Mv} {W : World} (h : ColAt p R rc B cb O oc C cc r ms W) : cb < W.heap.size := lt_of_cell h.c0
theorem ColAt.farO {p : Pr} {R : Option Addr} {rc B cb : Nat} {O : Option Addr} {oc : Nat} {C : Option Addr} {cc : Nat} {r : List UInt8} {ms : List Mv} {W : World} (h : ColAt p R rc B cb O oc C cc r ms W) : blk O ≠ some cb := fun e => by have := (blk_lt h.word _ e).1; have := h.lo; omega
theorem ColAt.farC {p : Pr} {R : Option Addr} {rc B cb : Nat} {O : Option Addr} {oc : Nat} {C : Option Addr} {cc : Nat} {r : List UInt8} {ms : List Mv} {W : World} (h : ColAt p R rc B cb O oc C cc r ms W) : blk C ≠ some cb := fun e => by have := (blk_lt h.mvs _ e).1; have := h.lo; omega
theorem ColAt.keep {p : Pr} {R : Option Addr} {rc B cb : Nat} {O : Option Addr} {oc : Nat} {C : Option Addr} {cc : Nat} {r : List UInt8} {ms : List Mv} {W W' : World} (h : ColAt p R rc B cb O oc C cc r ms W) (hb : ∀ k, RecS cb O C k → W'.heap[k]? = W.heap[k]?) (hs : W.heap.size ≤ W'.heap.size) : ColAt p R rc B cb O oc C cc r ms W' := by
  have hbr := hb cb (.inl rfl)
  exact ⟨(cell_same hbr 0).trans h.c0, (cell_same hbr 1).trans h.c1, (cell_same hbr 2).trans h.c2, (cell_same hbr 3).trans h.c3, (frozen_same hbr 2).trans h.f2, (frozen_same hbr 3).trans h.f3,
    own_same h.word (fun k hk => hb k (.inr (.inl (by rw [← hk, ownBlock_slice])))), own_same h.mvs (fun k hk => hb k (.inr (.inr (by rw [← hk, ownBlock_slice])))), h.lo, Nat.le_trans h.hi hs, h.ne⟩
theorem ColAt.lt {p : Pr} {R : Option Addr} {rc B cb : Nat} {O : Option Addr} {oc : Nat} {C : Option Addr} {cc : Nat} {r : List UInt8} {ms : List Mv} {W : World} (h : ColAt p R rc B cb O oc C cc r ms W) : ∀ k, RecS cb O C k → k < W.heap.size := by
  rintro k (rfl | hk | hk)
  · exact h.clt
  · exact (blk_lt h.word _ hk).2
  · exact (blk_lt h.mvs _ hk).2
theorem ColAt.ge {p : Pr} {R : Option Addr} {rc B cb : Nat} {O : Option Addr} {oc : Nat} {C : Option Addr} {cc : Nat} {r : List UInt8} {ms : List Mv} {W : World} (h : ColAt p R rc B cb O oc C cc r ms W) : ∀ k, RecS cb O C k → cb ≤ k := by
  have hlo := h.lo
  rintro k (rfl | hk | hk)
  · exact Nat.le_refl _
  · have := (blk_lt h.word _ hk).1; omega
  · have := (blk_lt h.mvs _ hk).1; omega
theorem ColAt.below {p : Pr} {R : Option Addr} {rc B cb : Nat} {O : Option Addr} {oc : Nat} {C : Option Addr} {cc : Nat} {r : List UInt8} {ms : List Mv} {W W' : World} (h : ColAt p R rc B cb O oc C cc r ms W) (hb : Below W.heap.size W W') : ColAt p R rc B cb O oc C cc r ms W' :=
  h.keep (fun k hk => hb.block k (h.lt k hk)) hb.size

/-- The word's row has turned, and is named anew. -/
theorem ColAt.setO {p : Pr} {R : Option Addr} {rc B cb : Nat} {O : Option Addr} {oc : Nat} {C : Option Addr} {cc : Nat} {r : List UInt8} {ms : List Mv} {W W1 : World} (h : ColAt p R rc B cb O oc C cc r ms W) {O' : Option Addr} {oc' : Nat} {r' : List UInt8}
    (hg : W.grownBy W1 (blk O)) (hw : W1.ownsRow B 5 1 (.slice O' r'.length oc') r'.length (bs r'.reverse)) (hm : Moved W O O') :
    ColAt p R rc B cb O' oc' C cc r' ms (W1.setCell ⟨cb, 2, none⟩ (.slice O' r'.length oc')) ∧ Touch (RecS cb O C) W (W1.setCell ⟨cb, 2, none⟩ (.slice O' r'.length oc')) := by
  have hb := hg.block cb h.clt (fun e => h.farO e.symm)
  have hlo := h.lo
  have hset : ∀ k, k ≠ cb → (W1.setCell ⟨cb, 2, none⟩ (.slice O' r'.length oc')).heap[k]? = W1.heap[k]? := fun k hk => heap_setCell_other W1 ⟨cb, 2, none⟩ k _ (fun e => hk e)
  have hc : ∀ i, i ≠ 2 → (W1.setCell ⟨cb, 2, none⟩ (.slice O' r'.length oc')).cell? ⟨cb, i, none⟩ = W.cell? ⟨cb, i, none⟩ := fun i hi => by
    rw [World.cell?_setCell_other (h := by intro e; cases e; exact hi rfl)]; exact cell_same hb i
  have hf : ∀ i, (W1.setCell ⟨cb, 2, none⟩ (.slice O' r'.length oc')).frozen? ⟨cb, i, none⟩ = W.frozen? ⟨cb, i, none⟩ := fun i => by rw [World.frozen?_setCell]; exact frozen_same hb i
  refine ⟨⟨(hc 0 (by omega)).trans h.c0, (hc 1 (by omega)).trans h.c1, World.cell?_setCell_same _ _ _ ((cell_same hb 2).trans h.c2), (hc 3 (by omega)).trans h.c3, (hf 2).trans h.f2, (hf 3).trans h.f3, own_same hw (fun k hk => hset k (fun e => ?_)), own_same h.mvs (fun k hk => ?_), hlo, by rw [World.size_setCell]; exact Nat.le_trans h.hi hg.size, fun k hk e => ?_⟩, ?_⟩
  · rw [ownBlock_slice] at hk; have := (blk_lt hw _ hk).1; omega
  · rw [ownBlock_slice] at hk
    have hkl := blk_lt h.mvs _ hk
    rw [hset k (by omega), hg.block k hkl.2 (fun e => h.ne k e.symm hk)]
  · rcases hm with hm | hm
    · exact h.ne k (hm ▸ hk) e
    · have := hm k hk; have := (blk_lt h.mvs _ e).2; omega
  · exact ((Touch.of_grown hg).mono (fun k _ hk => Or.inr (Or.inl hk))).set cb 2 _ (.inl rfl)
/-- The moves' row has turned, and is named anew. -/
theorem ColAt.setC {p : Pr} {R : Option Addr} {rc B cb : Nat} {O : Option Addr} {oc : Nat} {C : Option Addr} {cc : Nat} {r : List UInt8} {ms : List Mv} {W W1 : World} (h : ColAt p R rc B cb O oc C cc r ms W) {C' : Option Addr} {cc' : Nat} {ms' : List Mv}
    (hg : W.grownBy W1 (blk C)) (hw : W1.ownsRow B 52 6 (.slice C' ms'.length cc') ms'.length (ms6 ms')) (hm : Moved W C C') :
    ColAt p R rc B cb O oc C' cc' r ms' (W1.setCell ⟨cb, 3, none⟩ (.slice C' ms'.length cc')) ∧ Touch (RecS cb O C) W (W1.setCell ⟨cb, 3, none⟩ (.slice C' ms'.length cc')) := by
  have hb := hg.block cb h.clt (fun e => h.farC e.symm)
  have hlo := h.lo
  have hset : ∀ k, k ≠ cb → (W1.setCell ⟨cb, 3, none⟩ (.slice C' ms'.length cc')).heap[k]? = W1.heap[k]? := fun k hk => heap_setCell_other W1 ⟨cb, 3, none⟩ k _ (fun e => hk e)
  have hc : ∀ i, i ≠ 3 → (W1.setCell ⟨cb, 3, none⟩ (.slice C' ms'.length cc')).cell? ⟨cb, i, none⟩ = W.cell? ⟨cb, i, none⟩ := fun i hi => by
    rw [World.cell?_setCell_other (h := by intro e; cases e; exact hi rfl)]; exact cell_same hb i
  have hf : ∀ i, (W1.setCell ⟨cb, 3, none⟩ (.slice C' ms'.length cc')).frozen? ⟨cb, i, none⟩ = W.frozen? ⟨cb, i, none⟩ := fun i => by rw [World.frozen?_setCell]; exact frozen_same hb i
  refine ⟨⟨(hc 0 (by omega)).trans h.c0, (hc 1 (by omega)).trans h.c1, (hc 2 (by omega)).trans h.c2, World.cell?_setCell_same _ _ _ ((cell_same hb 3).trans h.c3), (hf 2).trans h.f2, (hf 3).trans h.f3, own_same h.word (fun k hk => ?_), own_same hw (fun k hk => hset k (fun e => ?_)), hlo, by rw [World.size_setCell]; exact Nat.le_trans h.hi hg.size, fun k hk e => ?_⟩, ?_⟩
  · rw [ownBlock_slice] at hk
    have hkl := blk_lt h.word _ hk
    rw [hset k (by omega), hg.block k hkl.2 (fun e => h.ne k hk e.symm)]
  · rw [ownBlock_slice] at hk; have := (blk_lt hw _ hk).1; omega
  · rcases hm with hm | hm
    · exact h.ne k hk (hm ▸ e)
    · have := hm k e; have := (blk_lt h.word _ hk).2; omega
  · exact ((Touch.of_grown hg).mono (fun k _ hk => Or.inr (Or.inr hk))).set cb 3 _ (.inl rfl)
theorem RecS.back {W : World} {cb : Nat} {O O' C C' : Option Addr} (h1 : Moved W O O') (h2 : Moved W C C') : ∀ k, k < W.heap.size → RecS cb O' C' k → RecS cb O C k := by
  rintro k hk (h | h | h)
  · exact .inl h
  · rcases h1 with h1 | h1
    · exact .inr (.inl (h1 ▸ h))
    · have := h1 k h; omega
  · rcases h2 with h2 | h2
    · exact .inr (.inr (h2 ▸ h))
    · have := h2 k h; omega

/-- append of one move, by its literal slice, to a row of the call's own. -/
theorem append_oneM {ops : Array Oper} {rest : List Oper} {o : Oper} {a : Act} {Q : Exit → Act → World → Prop} (w : World) (hgd : o.guard = none) (s x : Operand)
    (ho : o.op = .call { callee := .builtin .append, args := #[s, x], argTypes := #[39, 39] })
    (B : Nat) (A : Option Addr) (n cap : Nat) (d : List Mv) (m : Mv) (cs : Array Value) (hcs : cs = mvC m) (hs : a.eval s = .slice A n cap) (hown : w.ownsRow B 52 6 (.slice A n cap) n (ms6 d))
    (z : Nat) (hz : z = w.heap.size) (hx : a.eval x = .slice (some ⟨z, 0, none⟩) 1 1) (hn : n ≤ 1000000000) (hB : B ≤ w.heap.size)
    (h : ∀ A' cap' w', w'.ownsRow B 52 6 (.slice A' (n + 1) cap') (n + 1) (ms6 (d ++ [m])) → w.grownBy w' (blk A) → Moved w A A' → wpList Try.prog ops Q rest (a.put o.dst (.slice A' (n + 1) cap')) w') :
    wpList Try.prog ops Q (o :: rest) a (w.alloc (.cells cs 52)) := by
  subst hcs hz
  obtain ⟨i0, hi, hz0, hz1, hz2⟩ := info_parts Try.info52
  refine append_gen _ hgd s x 39 ho 52 i0 (.agg #[.int .i64 0, .int .i64 0, .int .i64 0, .int .i64 0, .int .i64 0, .bool false]) 6 48 Try.underlying39 hi hz0 hz1 hz2 rfl (by decide) B A n cap (ms6 d) hs (hown.alloc _) ⟨w.heap.size, 0, none⟩ 1 1 (ms6 [m]) hx (by rw [ms6_len]; rfl) (news_mv w m 52) (mv6_one m) (by unfold maxLen; omega) (by omega) (by simp; omega) ?_
  intro A' cap' w' hown' hgrow hm
  refine h A' cap' w' (by rw [ms6_app]; exact hown') (grown_trans (World.grownBy_alloc w _ (blk A)) hgrow (.inl rfl)) ?_
  rcases hm with hm | hm
  · exact .inl hm
  · exact .inr fun k hk => by have := hm k hk; simp at this; omega
end Go.Proofs.Ytbcckfggnlmhoaa
