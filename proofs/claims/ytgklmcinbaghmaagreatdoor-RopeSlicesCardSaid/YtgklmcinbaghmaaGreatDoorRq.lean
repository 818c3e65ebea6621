/-
  Our own text, in the proofs of the laws of package rope. Proved here: own rows of bytes: append of a string, of one byte, of a part of the row itself. No condition.
-/
import Derived.Test.YtgklmcinbaghmaaGreatDoorRp
import Derived.Lib.AppendStr
import Derived.Lib.ConvBytes
import Derived.Laws.CopyOwn
namespace Go.Proofs.YtgklmcinbaghmaaGreatDoor
open Go Go.RowKit

theorem bs_append (l m : List UInt8) : bs (l ++ m) = bs l ++ bs m := by simp [bs]
theorem bs_len (l : List UInt8) : (bs l).length = l.length := by simp [bs]


/-- append of one byte, by its literal slice. -/
theorem append_byte {ops : Array Oper} {rest : List Oper} {o : Oper} {a : Act} {Q : Exit → Act → World → Prop} (w : World) (hgd : o.guard = none) (s x : Operand)
    (ho : o.op = .call { callee := .builtin .append, args := #[s, x], argTypes := #[72, 72] })
    (B : Nat) (A : Option Addr) (n cap : Nat) (l : List UInt8) (c : UInt8) (hs : a.eval s = .slice A n cap) (hown : w.ownsRow B 5 1 (.slice A n cap) n (bs l))
    (v : Value) (hv : v = .int .u8 c.toNat) (hx : a.eval x = .slice (some ⟨w.heap.size, 0, none⟩) 1 1) (hn : n ≤ 1000000000000) (hB : B ≤ w.heap.size)
    (h : ∀ A' cap' w', w'.ownsRow B 5 1 (.slice A' (n + 1) cap') (n + 1) (bs (l ++ [c])) → Below B w w' → wpList Tryz.prog ops Q rest (a.put o.dst (.slice A' (n + 1) cap')) w') :
    wpList Tryz.prog ops Q (o :: rest) a (w.alloc (.cells #[v] 5)) := by
  subst hv
  obtain ⟨i0, hi, hz0, hz1, hz2⟩ := info_parts Tryz.info5
  refine wpList_append_own _ hgd s x 72 ho B 5 i0 (.int .u8 0) 1 1 Tryz.underlying72 hi hz0 hz1 hz2 rfl (by decide) _ n (bs l) hs (hown.alloc _) ⟨w.heap.size, 0, none⟩ 1 1 [.int .u8 c.toNat] hx rfl (news_one w _ _) (by intro u hu; simp at hu; subst hu; rfl) (by unfold maxLen; omega) (by omega) (by simp; omega) ?_
  intro v' w' hown' hgrow _
  have hlt := hown.lt
  have hb : Below B w w' := ((Below.refl B w).alloc hB _).grown hgrow (by simp; omega) (fun k hk => (hlt k hk).1)
  rcases hown'.2 with ⟨_, hx⟩ | ⟨g, c', cur, rfl, _⟩
  · simp at hx
  · exact h _ _ _ (by rw [bs_append]; exact hown') hb
/-- Blocks of cells that are no bytes stay. -/
def Keeps (w w' : World) : Prop := ∀ b t cs, t ≠ 5 → Blk w b t cs → Blk w' b t cs
theorem Keeps.refl (w : World) : Keeps w w := fun _ _ _ _ h => h
theorem Keeps.trans {a b c : World} (h : Keeps a b) (k : Keeps b c) : Keeps a c := fun x t cs ht hx => k x t cs ht (h x t cs ht hx)
theorem Keeps.of_below {w w' : World} (h : Below w.heap.size w w') : Keeps w w' := fun _ _ _ _ hx => hx.below h hx.lt
theorem Keeps.setRow {w : World} {g : Nat} {cur : Array Value} (hh : w.heap[g]? = some (.cells cur 5 (0, 0))) (new : Array Value) : Keeps w (w.setRow g new) := by
  intro b t cs ht hx
  by_cases hb : b = g
  · subst hb
    unfold Blk at hx
    rw [hh] at hx
    simp only [Option.some.injEq, Obj.cells.injEq] at hx
    exact absurd hx.2.1.symm ht
  · show (w.setRow g new).heap[b]? = _
    rw [← hx]
    simp only [World.setRow]
    first | rw [Array.getElem?_modify, if_neg (fun e => hb e.symm)] | simp [Array.getElem?_setIfInBounds, Ne.symm hb]
theorem Keeps.of_grown {w w' : World} {g : Nat} {cur : Array Value} (hh : w.heap[g]? = some (.cells cur 5 (0, 0))) (hg : w.grownBy w' (some g)) : Keeps w w' := by
  intro b t cs ht hx
  by_cases hb : b = g
  · subst hb
    unfold Blk at hx
    rw [hh] at hx
    simp only [Option.some.injEq, Obj.cells.injEq] at hx
    exact absurd hx.2.1.symm ht
  · exact (hg.block b hx.lt (by simpa using hb)).trans hx

theorem size_mk (l : List UInt8) : (ByteArray.mk l.toArray).size = l.length := by simp [ByteArray.size]
/-- A slice of bytes that the call owns; its row may bear a mark behind its end (as a conversion's row does). -/
def ownT (w : World) (B : Nat) (v : Value) (n : Nat) (l : List UInt8) : Prop :=
  l.length = n ∧ ((v = .slice none 0 0 ∧ n = 0) ∨ ∃ g cap cur, v = .slice (some ⟨g, 0, none⟩) n cap ∧ B ≤ g ∧ w.heap[g]? = some (.cells cur 5 (0, 0)) ∧ n ≤ cap ∧ cap ≤ maxLen ∧ cur.size = cap ∧ cur.toList.take n = bs l)

theorem ownT_of {w : World} {B n : Nat} {v : Value} {l : List UInt8} (h : w.ownsRow B 5 1 v n (bs l)) : ownT w B v n l := by
  refine ⟨by have := h.1; simp [bs_len] at this; exact this, ?_⟩
  rcases h.2 with h1 | ⟨g, cap, cur, hv, hg, hh, hnc, hcm, hcs, ht⟩
  · exact .inl h1
  · exact .inr ⟨g, cap, cur, hv, hg, hh, hnc, hcm, by simpa using hcs, by simpa using ht⟩

theorem ownT.kept {w w' : World} {B n : Nat} {v : Value} {l : List UInt8} (h : ownT w B v n l) (hb : ∀ k, k < w.heap.size → w'.heap[k]? = w.heap[k]?) : ownT w' B v n l := by
  refine ⟨h.1, ?_⟩
  rcases h.2 with h1 | ⟨g, cap, cur, hv, hg, hh, rest⟩
  · exact .inl h1
  · exact .inr ⟨g, cap, cur, hv, hg, by rw [hb g (Array.getElem?_eq_some_iff.1 hh).1]; exact hh, rest⟩
theorem ownT.below {w w' : World} {B n : Nat} {v : Value} {l : List UInt8} (h : ownT w B v n l) (hb : Below w.heap.size w w') : ownT w' B v n l := h.kept hb.block
theorem ownT.drewN {w : World} {B n : Nat} {v : Value} {l : List UInt8} (h : ownT w B v n l) (k : Nat) : ownT (w.drewN k) B v n l := h

theorem frozenT {w : World} {g : Nat} {cur : Array Value} {fz : Nat × Nat} (hh : w.heap[g]? = some (.cells cur 5 fz)) (hf : fz.2 = 0 ∨ cur.size ≤ fz.1) (i : Nat) (hi : i < cur.size) : w.frozen? ⟨g, i, none⟩ = false := by
  obtain ⟨lo, hi'⟩ := fz
  simp only [World.frozen?, hh, Bool.and_eq_false_iff, decide_eq_false_iff_not]
  rcases hf with h | h <;> simp only at h
  · right; omega
  · left; omega

theorem ownT.cell {w : World} {B n cap : Nat} {A : Option Addr} {l : List UInt8} (h : ownT w B (.slice A n cap) n l) (j : Nat) (hj : j < l.length) :
    ∃ g, A = some ⟨g, 0, none⟩ ∧ w.cell? ⟨g, j, none⟩ = some (.int .u8 (l[j]).toNat) := by
  have hl := h.1
  rcases h.2 with ⟨h2, h3⟩ | ⟨g, c', cur, hv, hg, hh, hnc, hcm, hcs, ht⟩
  · omega
  · simp only [Value.slice.injEq, true_and] at hv
    obtain ⟨rfl, rfl⟩ := hv
    refine ⟨g, rfl, ?_⟩
    rw [cell_of_row w g j cur 5 (0, 0) hh]
    have : (cur.toList.take n)[j]? = (bs l)[j]? := by rw [ht]
    rw [List.getElem?_take, if_pos (by omega)] at this
    simpa [bs, hj] using this

theorem ownT.cap {w : World} {B n cap : Nat} {A : Option Addr} {l : List UInt8} (h : ownT w B (.slice A n cap) n l) : n ≤ cap := by
  rcases h.2 with ⟨h2, h3⟩ | ⟨g, c', cur, hv, hg, hh, hnc, hcm, hcs, ht⟩
  · simp only [Value.slice.injEq] at h2; omega
  · simp only [Value.slice.injEq, true_and] at hv; omega

theorem ownT.shorter {w : World} {B n cap : Nat} {A : Option Addr} {l : List UInt8} (h : ownT w B (.slice A n cap) n l) (m : Nat) (hm : m ≤ n) : ownT w B (.slice A m cap) m (l.take m) := by
  refine ⟨by rw [List.length_take, h.1]; omega, ?_⟩
  rcases h.2 with ⟨h2, h3⟩ | ⟨g, c', cur, hv, hg, hh, hnc, hcm, hcs, ht⟩
  · simp only [Value.slice.injEq] at h2
    exact .inl ⟨by rw [h2.1, h2.2.2, show m = 0 by omega], by omega⟩
  · simp only [Value.slice.injEq, true_and] at hv
    obtain ⟨rfl, rfl⟩ := hv
    refine .inr ⟨g, cap, cur, rfl, hg, hh, by omega, hcm, hcs, ?_⟩
    have := congrArg (List.take m) ht
    rw [List.take_take, Nat.min_eq_left hm] at this
    rw [this]; simp [bs]

theorem storeT (P : Program) (g o : Nat) (fz : Nat × Nat) : ∀ (vs : List Value) (i : Nat) (cur : Array Value) (w : World), w.heap[g]? = some (.cells cur 5 fz) → (fz.2 = 0 ∨ cur.size ≤ fz.1) → o + i + vs.length ≤ cur.size → (∀ v ∈ vs, v.oneCell' = true) →
    (storeCells ⟨g, o, none⟩ vs i).run P w = .ok () (w.setRow g (cur.toList.take (o + i) ++ vs ++ cur.toList.drop (o + i + vs.length)).toArray) := by
  intro vs
  induction vs with
  | nil =>
    intro i cur w hg _ _ _
    have e : (cur.toList.take (o + i) ++ ([] : List Value) ++ cur.toList.drop (o + i + ([] : List Value).length)).toArray = cur := by simp
    rw [e, setRow_self w g cur 5 fz hg]
    rfl
  | cons v rest ih =>
    intro i cur w hg hf hl h1
    simp only [List.length_cons] at hl
    have hadd : (⟨g, o, none⟩ : Addr).add i = ⟨g, o + i, none⟩ := by unfold Addr.add; split <;> simp_all
    have hcell : w.cell? ⟨g, o + i, none⟩ = some (cur[o + i]'(by omega)) := by simp [World.cell?, hg, show o + i < cur.size by omega]
    have hst : (store ((⟨g, o, none⟩ : Addr).add i) v).run P w = .ok () (w.setRow g (cur.setIfInBounds (o + i) v)) := by
      rw [hadd, run_store P w _ v _ (h1 v (by simp)), hcell]
      simp [frozenT hg hf (o + i) (by omega), setCell_eq_setRow w g (o + i) cur 5 fz v hg]
    have hr := ih (i + 1) (cur.setIfInBounds (o + i) v) (w.setRow g (cur.setIfInBounds (o + i) v)) (setRow_heap w g cur _ 5 _ hg) (by simpa using hf) (by simp; omega) (fun x hx => h1 x (by simp [hx]))
    simp only [storeCells, Sem.run_bind, hst, Result.andThen_ok, hr, setRow_setRow]
    have e : (cur.setIfInBounds (o + i) v).toList.take (o + (i + 1)) ++ rest ++ (cur.setIfInBounds (o + i) v).toList.drop (o + (i + 1) + rest.length) = cur.toList.take (o + i) ++ v :: rest ++ cur.toList.drop (o + i + (v :: rest).length) := by
      rw [Array.toList_setIfInBounds, show o + (i + 1) = (o + i) + 1 by omega, List.take_succ_eq_append_getElem (by simp; omega)]
      simp only [List.getElem_set_self, List.length_cons]
      rw [List.take_set_of_le (by omega), List.drop_set_of_lt (by omega)]
      simp [Nat.add_assoc, Nat.add_comm 1]
    rw [e]

theorem strCells_bs (l : List UInt8) : Lib.strCells ⟨l.toArray⟩ = bs l := rfl

/-- append(u, v...), v a string. -/
theorem run_append_T (w : World) (ty : TypeId) (B : Nat) (v : Value) (n : Nat) (l m : List UInt8) (hown : ownT w B v n l) (hn : n + m.length ≤ 1000000000000) (hB : B ≤ w.heap.size) :
    ∃ A' cap' w', (Builtin.append_ #[72, 9] ty #[v, .string ⟨m.toArray⟩]).run Tryz.prog w = .ok (.slice A' (n + m.length) cap') w' ∧ ownT w' B (.slice A' (n + m.length) cap') (n + m.length) (l ++ m) ∧ Below B w w' ∧ Keeps w w' := by
  obtain ⟨i0, hi, hz0, hz1, hz2⟩ := info_parts Tryz.info5
  have hms : (ByteArray.mk m.toArray).size = m.length := size_mk m
  have hml : n + m.length ≤ maxLen := by unfold maxLen; omega
  have hll : (l ++ m).length = n + m.length := by rw [List.length_append, hown.1]
  have grow : ∀ old, ownT (w.drew.alloc (.cells ((bs l).toArray ++ (bs m).toArray ++ Builtin.zeroCells (Value.int .u8 0).cells (grownCap w (n + m.length) old 5 - (n + m.length))) 5)) B (.slice (some ⟨w.heap.size, 0, none⟩) (n + m.length) (grownCap w (n + m.length) old 5)) (n + m.length) (l ++ m) ∧
      Below B w (w.drew.alloc (.cells ((bs l).toArray ++ (bs m).toArray ++ Builtin.zeroCells (Value.int .u8 0).cells (grownCap w (n + m.length) old 5 - (n + m.length))) 5)) ∧ Keeps w (w.drew.alloc (.cells ((bs l).toArray ++ (bs m).toArray ++ Builtin.zeroCells (Value.int .u8 0).cells (grownCap w (n + m.length) old 5 - (n + m.length))) 5)) := by
    intro old
    have hge := grownCap_ge w (n + m.length) old 5
    refine ⟨⟨hll, .inr ⟨w.heap.size, _, _, rfl, hB, heap_alloc_new w.drew _, hge, grownCap_le_maxLen w _ old 5 hml, ?_, ?_⟩⟩, ((Below.refl B w).drew).alloc hB _, Keeps.of_below (((Below.refl w.heap.size w).drew).alloc (Nat.le_refl _) _)⟩
    · have hz : (Value.int IntKind.u8 0).cells.size = 1 := rfl
      simp only [Array.size_append, List.size_toArray, size_zeroCells, hz, bs_len, hown.1]
      omega
    · simp only [Array.toList_append, List.append_assoc]
      rw [← List.append_assoc, ← bs_append, ← hll, ← bs_len (l ++ m)]
      exact List.take_left
  rcases hown.2 with ⟨rfl, rfl⟩ | ⟨g, cap, cur, rfl, hg, hh, hnc, hcm, hcs, htk⟩
  · obtain rfl : l = [] := List.length_eq_zero_iff.1 hown.1
    cases m with
    | nil =>
      refine ⟨none, 0, w, ?_, ⟨rfl, .inl ⟨rfl, rfl⟩⟩, Below.refl _ _, Keeps.refl _⟩
      generalize hss : (ByteArray.mk ([] : List UInt8).toArray) = ss at *
      have hm : ss.size = 0 := hms
      have hn0 : Lib.strCells ss = [] := List.eq_nil_of_length_eq_zero (by rw [Lib.strCells_length]; exact hm)
      have hf := Lib.run_firstCells_string (P := Tryz.prog) w 1 ss
      rw [hm, hn0] at hf
      simp [Builtin.append_, run_underlying Tryz.underlying72, run_underlying Tryz.underlying9, sizeOf, typeInfo, hi, hz1, Builtin.lenOf, hm, hf]
    | cons c t =>
      have hr := run_append_nil_string (P := Tryz.prog) w 72 9 ty 5 i0 (.int .u8 0) Tryz.underlying72 Tryz.underlying9 hi hz0 ⟨(c :: t).toArray⟩ (by rw [size_mk]; simp) (by rw [size_mk]; omega) (by rw [hz2, size_mk]; omega)
      have hg := grow 0
      simp only [hms, Nat.zero_add] at hr hg ⊢
      have e1 : ((ByteArray.mk (c :: t).toArray).data.map fun b => Value.int .u8 b.toNat) = (bs (c :: t)).toArray := by apply Array.ext'; simp [bs]
      rw [e1] at hr
      refine ⟨_, _, _, hr, ?_, ?_, ?_⟩
      · have := hg.1; simpa [bs] using this
      · have := hg.2.1; simpa [bs] using this
      · have := hg.2.2; simpa [bs] using this
  · by_cases hroom : n + m.length ≤ cap
    · have hst := storeT Tryz.prog g n (0, 0) (bs m) 0 cur w hh (.inl rfl) (by rw [bs_len]; omega) (by intro u hu; simp [bs] at hu; obtain ⟨x, _, rfl⟩ := hu; rfl)
      have hf := Lib.run_firstCells_string (P := Tryz.prog) w 1 ⟨m.toArray⟩
      simp only [hms, strCells_bs] at hf
      simp only [Nat.add_zero, bs_len] at hst
      refine ⟨some ⟨g, 0, none⟩, cap, w.setRow g (cur.toList.take n ++ bs m ++ cur.toList.drop (n + m.length)).toArray, ?_, ?_, ?_, ?_⟩
      · simp [Builtin.append_, run_underlying Tryz.underlying72, run_underlying Tryz.underlying9, sizeOf, typeInfo, hi, hz1, Builtin.lenOf, hms, hroom, hf, Addr.add_lit, hst]
      · refine ⟨hll, .inr ⟨g, cap, _, rfl, hg, setRow_heap w g cur _ 5 (0, 0) hh, hroom, hcm, ?_, ?_⟩⟩
        · simp only [List.size_toArray, List.length_append, List.length_take, List.length_drop, Array.length_toList, bs_len]
          omega
        · rw [htk, ← bs_append, ← hll, ← bs_len (l ++ m)]
          exact List.take_left
      · exact below_setRow (Below.refl B w) hg _
      · exact Keeps.setRow hh _
    · have hc : ∀ j u, (bs l)[j]? = some u → w.cell? ((⟨g, 0, none⟩ : Addr).add j) = some u := by
        intro j u hu
        have hj : j < l.length := by
          rcases Nat.lt_or_ge j (bs l).length with h | h
          · simpa [bs_len] using h
          · rw [List.getElem?_eq_none h] at hu; cases hu
        have hadd : (⟨g, 0, none⟩ : Addr).add j = ⟨g, j, none⟩ := by unfold Addr.add; split <;> simp_all
        obtain ⟨g', he, hcc⟩ := hown.cell j hj
        simp only [Option.some.injEq, Addr.mk.injEq, and_true] at he
        subst he
        rw [hadd, hcc, ← hu]; simp [bs, hj]
      have hr := Lib.run_append_grow_string (P := Tryz.prog) w 72 9 ty 5 i0 (.int .u8 0) Tryz.underlying72 Tryz.underlying9 hi hz0 ⟨g, 0, none⟩ n cap (bs l) (by rw [hz1, bs_len, hown.1]; omega) hc ⟨m.toArray⟩ (by rw [size_mk]; omega) (by rw [size_mk]; omega) (by rw [hz2, size_mk]; exact growslice_fits (by omega) (by omega))
      have hg := grow cap
      simp only [hms] at hr
      exact ⟨_, _, _, hr, hg.1, hg.2.1, hg.2.2⟩

theorem append_T {ops : Array Oper} {rest : List Oper} {o : Oper} {a : Act} {Q : Exit → Act → World → Prop} (w : World) (hgd : o.guard = none) (sl x : Operand)
    (ho : o.op = .call { callee := .builtin .append, args := #[sl, x], argTypes := #[72, 9] })
    (B : Nat) (v : Value) (n : Nat) (l m : List UInt8) (hs : a.eval sl = v) (hown : ownT w B v n l) (hx : a.eval x = .string ⟨m.toArray⟩) (hn : n + m.length ≤ 1000000000000) (hB : B ≤ w.heap.size)
    (h : ∀ A' cap' w', ownT w' B (.slice A' (n + m.length) cap') (n + m.length) (l ++ m) → Below B w w' → Keeps w w' → wpList Tryz.prog ops Q rest (a.put o.dst (.slice A' (n + m.length) cap')) w') :
    wpList Tryz.prog ops Q (o :: rest) a w := by
  refine wpList_plain hgd fun K hK => ?_
  obtain ⟨A', cap', w', hr, h2, h3, h4⟩ := run_append_T w o.type B v n l m hown hn hB
  unfold Oper.wp execOp
  simp only [ho, resolve, invoke, builtin, Sem.run_bind, Sem.run_pure, Result.andThen_ok, List.map_toArray, List.map_cons, List.map_nil, hs, hx, hr]
  exact hK _ _ (h A' cap' w' h2 h3 h4)


theorem ownT_to {w : World} {B n : Nat} {v : Value} {l : List UInt8} (h : ownT w B v n l) : w.ownsRow B 5 1 v n (bs l) := by
  refine ⟨by rw [bs_len, h.1]; omega, ?_⟩
  rcases h.2 with h1 | ⟨g, cap, cur, hv, hg, hh, hnc, hcm, hcs, ht⟩
  · exact .inl h1
  · exact .inr ⟨g, cap, cur, hv, hg, hh, hnc, hcm, by simpa using hcs, by simpa using ht⟩

/-- append(u, v...), v a string: at an own row. -/
theorem append_str {ops : Array Oper} {rest : List Oper} {o : Oper} {a : Act} {Q : Exit → Act → World → Prop} (w : World) (hgd : o.guard = none) (sl x : Operand)
    (ho : o.op = .call { callee := .builtin .append, args := #[sl, x], argTypes := #[72, 9] })
    (B : Nat) (v : Value) (n : Nat) (l : List UInt8) (m : ByteArray) (hs : a.eval sl = v) (hown : w.ownsRow B 5 1 v n (bs l)) (hx : a.eval x = .string m) (hn : n + m.size ≤ 1000000000000) (hB : B ≤ w.heap.size)
    (h : ∀ A' cap' w', w'.ownsRow B 5 1 (.slice A' (n + m.size) cap') (n + m.size) (bs (l ++ m.data.toList)) → Below B w w' → Keeps w w' → wpList Tryz.prog ops Q rest (a.put o.dst (.slice A' (n + m.size) cap')) w') :
    wpList Tryz.prog ops Q (o :: rest) a w := by
  have hm : m = ⟨m.data.toList.toArray⟩ := by cases m; simp
  have hl : m.data.toList.length = m.size := by simp
  refine append_T w hgd sl x ho B v n l m.data.toList hs (ownT_of hown) (by rw [hx, ← hm]) (by rw [hl]; exact hn) hB ?_
  intro A' cap' w' h1 h2 h3
  rw [hl] at h1 ⊢
  exact h A' cap' w' (ownT_to h1) h2 h3

/-- append(u, u[i:j]...). -/
theorem append_self {ops : Array Oper} {rest : List Oper} {o : Oper} {a : Act} {Q : Exit → Act → World → Prop} (w : World) (hgd : o.guard = none) (s x : Operand)
    (ho : o.op = .call { callee := .builtin .append, args := #[s, x], argTypes := #[72, 72] })
    (B : Nat) (g n cap : Nat) (l : List UInt8) (i m c : Nat) (hs : a.eval s = .slice (some ⟨g, 0, none⟩) n cap) (hown : w.ownsRow B 5 1 (.slice (some ⟨g, 0, none⟩) n cap) n (bs l))
    (hx : a.eval x = .slice (some ⟨g, i, none⟩) m c) (him : i + m ≤ n) (hn : n + m ≤ 1000000000000) (hB : B ≤ w.heap.size)
    (h : ∀ A' cap' w', w'.ownsRow B 5 1 (.slice A' (n + m) cap') (n + m) (bs (l ++ (l.drop i).take m)) → Below B w w' → Keeps w w' → wpList Tryz.prog ops Q rest (a.put o.dst (.slice A' (n + m) cap')) w') :
    wpList Tryz.prog ops Q (o :: rest) a w := by
  obtain ⟨i0, hi, hz0, hz1, hz2⟩ := info_parts Tryz.info5
  have hl : l.length = n := by have := hown.1; rw [bs_len] at this; omega
  have hml : ((l.drop i).take m).length = m := by simp; omega
  refine wpList_append_own _ hgd s x 72 ho B 5 i0 (.int .u8 0) 1 1 Tryz.underlying72 hi hz0 hz1 hz2 rfl (by decide) _ n (bs l) hs hown ⟨g, i, none⟩ m c (bs ((l.drop i).take m)) hx (by rw [bs_len, hml]; omega) ?_ (by intro u hu; simp only [bs, List.mem_map] at hu; obtain ⟨x, _, rfl⟩ := hu; rfl) (by unfold maxLen; omega) (by omega) hB ?_
  · intro j u hu
    have hj : j < m := by
      rcases Nat.lt_or_ge j (bs ((l.drop i).take m)).length with h | h
      · rw [bs_len, hml] at h; exact h
      · rw [List.getElem?_eq_none h] at hu; cases hu
    have hadd : (⟨g, i, none⟩ : Addr).add j = ⟨g, i + j, none⟩ := by unfold Addr.add; split <;> simp_all
    obtain ⟨g', he, hcc⟩ := own_cell hown (j := i + j) (by omega)
    simp only [Option.some.injEq, Addr.mk.injEq, and_true] at he
    subst he
    rw [hadd, hcc, ← hu]
    simp [bs, List.getElem?_take, hj, List.getElem?_drop]
  · intro v' w' hown' hgrow0 _
    have hgrow : w.grownBy w' (some g) := hgrow0
    have hgB : B ≤ g := (hown.lt g rfl).1
    have hbl : Below B w w' := (Below.refl B w).grown hgrow hB (fun k hk => by cases hk; exact hgB)
    have hkp : Keeps w w' := by
      rcases hown.2 with ⟨h2, h3⟩ | ⟨g', c', cur, hv, hg, hh, _⟩
      · cases h2
      · simp only [Value.slice.injEq, Option.some.injEq, Addr.mk.injEq, and_true, true_and] at hv
        obtain ⟨rfl, rfl⟩ := hv
        exact Keeps.of_grown hh hgrow
    rcases hown'.2 with ⟨hv, hz⟩ | ⟨g2, c', cur, rfl, _⟩
    · obtain rfl : m = 0 := by omega
      subst hv
      have h0 : n = 0 := by omega
      subst h0
      exact h none 0 w' (by rw [bs_append]; exact hown') hbl hkp
    · exact h _ _ _ (by rw [bs_append]; exact hown') hbl hkp
end Go.Proofs.YtgklmcinbaghmaaGreatDoor
