/-
  Our own text, in the proofs of the laws of package word (cayleylaw01). Proved here: own rows of bytes with a marked tail: append, string, []byte. Conditions: the arguments read as the row says and the listed tables lie as the program lays them; none other.
-/
import Derived.Test.YtflieikbhgneoaaGreatDoorWm
import Derived.Lib.AppendStr
import Derived.Lib.ConvBytes
import Derived.Laws.CopyOwn
namespace Go.Proofs.YtflieikbhgneoaaGreatDoor
open Go Go.RowKit

/-- A slice of bytes that the call owns; its row may bear a mark behind its end (as a conversion's row does). -/
def ownT (w : World) (B : Nat) (v : Value) (n : Nat) (l : List UInt8) : Prop :=
  l.length = n ∧ ((v = .slice none 0 0 ∧ n = 0) ∨ ∃ g cap cur fz, v = .slice (some ⟨g, 0, none⟩) n cap ∧ B ≤ g ∧ w.heap[g]? = some (.cells cur 5 fz) ∧ (fz.2 = 0 ∨ cur.size ≤ fz.1) ∧ n ≤ cap ∧ cap ≤ maxLen ∧ cur.size = cap ∧ cur.toList.take n = bs l)

theorem ownT_of {w : World} {B n : Nat} {v : Value} {l : List UInt8} (h : w.ownsRow B 5 1 v n (bs l)) : ownT w B v n l := by
  refine ⟨by have := h.1; simp [bs_len] at this; exact this, ?_⟩
  rcases h.2 with h1 | ⟨g, cap, cur, hv, hg, hh, hnc, hcm, hcs, ht⟩
  · exact .inl h1
  · exact .inr ⟨g, cap, cur, (0, 0), hv, hg, hh, .inl rfl, hnc, hcm, by simpa using hcs, by simpa using ht⟩

theorem ownT.kept {w w' : World} {B n : Nat} {v : Value} {l : List UInt8} (h : ownT w B v n l) (hb : ∀ k, k < w.heap.size → w'.heap[k]? = w.heap[k]?) : ownT w' B v n l := by
  refine ⟨h.1, ?_⟩
  rcases h.2 with h1 | ⟨g, cap, cur, fz, hv, hg, hh, rest⟩
  · exact .inl h1
  · exact .inr ⟨g, cap, cur, fz, hv, hg, by rw [hb g (Array.getElem?_eq_some_iff.1 hh).1]; exact hh, rest⟩
theorem ownT.below {w w' : World} {B n : Nat} {v : Value} {l : List UInt8} (h : ownT w B v n l) (hb : Below w.heap.size w w') : ownT w' B v n l := h.kept hb.block
theorem ownT.drewN {w : World} {B n : Nat} {v : Value} {l : List UInt8} (h : ownT w B v n l) (k : Nat) : ownT (w.drewN k) B v n l := h

theorem frozenT {w : World} {g : Nat} {cur : Array Value} {fz : Nat × Nat} (hh : w.heap[g]? = some (.cells cur 5 fz)) (hf : fz.2 = 0 ∨ cur.size ≤ fz.1) (i : Nat) (hi : i < cur.size) : w.frozen? ⟨g, i, none⟩ = false := by
  obtain ⟨lo, hi'⟩ := fz
  simp only [World.frozen?, hh, Bool.and_eq_false_iff, decide_eq_false_iff_not]
  rcases hf with h | h <;> simp only at h
  · right; omega
  · left; omega

theorem ownT.cell {w : World} {B n cap : Nat} {A : Option Addr} {l : List UInt8} (h : ownT w B (.slice A n cap) n l) (j : Nat) (hj : j < l.length) :
    ∃ g, A = some ⟨g, 0, none⟩ ∧ w.cell? ⟨g, j, none⟩ = some (.int .u8 (l[j]).toNat) := by
  have hl := h.1
  rcases h.2 with ⟨h2, h3⟩ | ⟨g, c', cur, fz, hv, hg, hh, hfz, hnc, hcm, hcs, ht⟩
  · omega
  · simp only [Value.slice.injEq, true_and] at hv
    obtain ⟨rfl, rfl⟩ := hv
    refine ⟨g, rfl, ?_⟩
    rw [cell_of_row w g j cur 5 fz hh]
    have : (cur.toList.take n)[j]? = (bs l)[j]? := by rw [ht]
    rw [List.getElem?_take, if_pos (by omega)] at this
    simpa [bs, hj] using this

theorem ownT.cap {w : World} {B n cap : Nat} {A : Option Addr} {l : List UInt8} (h : ownT w B (.slice A n cap) n l) : n ≤ cap := by
  rcases h.2 with ⟨h2, h3⟩ | ⟨g, c', cur, fz, hv, hg, hh, hfz, hnc, hcm, hcs, ht⟩
  · simp only [Value.slice.injEq] at h2; omega
  · simp only [Value.slice.injEq, true_and] at hv; omega

theorem ownT.shorter {w : World} {B n cap : Nat} {A : Option Addr} {l : List UInt8} (h : ownT w B (.slice A n cap) n l) (m : Nat) (hm : m ≤ n) : ownT w B (.slice A m cap) m (l.take m) := by
  refine ⟨by rw [List.length_take, h.1]; omega, ?_⟩
  rcases h.2 with ⟨h2, h3⟩ | ⟨g, c', cur, fz, hv, hg, hh, hfz, hnc, hcm, hcs, ht⟩
  · simp only [Value.slice.injEq] at h2
    exact .inl ⟨by rw [h2.1, h2.2.2, show m = 0 by omega], by omega⟩
  · simp only [Value.slice.injEq, true_and] at hv
    obtain ⟨rfl, rfl⟩ := hv
    refine .inr ⟨g, cap, cur, fz, rfl, hg, hh, hfz, by omega, hcm, hcs, ?_⟩
    have := congrArg (List.take m) ht
    rw [List.take_take, Nat.min_eq_left hm] at this
    rw [this]; simp [bs]

theorem storeT (P : Program) (g o : Nat) (fz : Nat × Nat) : ∀ (vs : List Value) (i : Nat) (cur : Array Value) (w : World), w.heap[g]? = some (.cells cur 5 fz) → (fz.2 = 0 ∨ cur.size ≤ fz.1) → o + i + vs.length ≤ cur.size → (∀ v ∈ vs, v.oneCell' = true) →
    (storeCells ⟨g, o, none⟩ vs i).run P w = .ok () (w.setRow g (cur.toList.take (o + i) ++ vs ++ cur.toList.drop (o + i + vs.length)).toArray) := by
  intro vs
  induction vs with
  | nil =>
    intro i cur w hg _ _ _
    have e : (cur.toList.take (o + i) ++ ([] : List Value) ++ cur.toList.drop (o + i + ([] : List Value).length)).toArray = cur := by simp
    rw [e, setRow_self w g cur 5 fz hg]
    rfl
  | cons v rest ih =>
    intro i cur w hg hf hl h1
    simp only [List.length_cons] at hl
    have hadd : (⟨g, o, none⟩ : Addr).add i = ⟨g, o + i, none⟩ := by unfold Addr.add; split <;> simp_all
    have hcell : w.cell? ⟨g, o + i, none⟩ = some (cur[o + i]'(by omega)) := by simp [World.cell?, hg, show o + i < cur.size by omega]
    have hst : (store ((⟨g, o, none⟩ : Addr).add i) v).run P w = .ok () (w.setRow g (cur.setIfInBounds (o + i) v)) := by
      rw [hadd, run_store P w _ v _ (h1 v (by simp)), hcell]
      simp [frozenT hg hf (o + i) (by omega), setCell_eq_setRow w g (o + i) cur 5 fz v hg]
    have hr := ih (i + 1) (cur.setIfInBounds (o + i) v) (w.setRow g (cur.setIfInBounds (o + i) v)) (setRow_heap w g cur _ 5 _ hg) (by simpa using hf) (by simp; omega) (fun x hx => h1 x (by simp [hx]))
    simp only [storeCells, Sem.run_bind, hst, Result.andThen_ok, hr, setRow_setRow]
    have e : (cur.setIfInBounds (o + i) v).toList.take (o + (i + 1)) ++ rest ++ (cur.setIfInBounds (o + i) v).toList.drop (o + (i + 1) + rest.length) = cur.toList.take (o + i) ++ v :: rest ++ cur.toList.drop (o + i + (v :: rest).length) := by
      rw [Array.toList_setIfInBounds, show o + (i + 1) = (o + i) + 1 by omega, List.take_succ_eq_append_getElem (by simp; omega)]
      simp only [List.getElem_set_self, List.length_cons]
      rw [List.take_set_of_le (by omega), List.drop_set_of_lt (by omega)]
      simp [Nat.add_assoc, Nat.add_comm 1]
    rw [e]

theorem strCells_bs (l : List UInt8) : Lib.strCells ⟨l.toArray⟩ = bs l := rfl

/-- append(u, v...), v a string. -/
theorem run_append_T (w : World) (ty : TypeId) (B : Nat) (v : Value) (n : Nat) (l m : List UInt8) (hown : ownT w B v n l) (hn : n + m.length ≤ 1000000000000) (hB : B ≤ w.heap.size) :
    ∃ A' cap' w', (Builtin.append_ #[48, 9] ty #[v, .string ⟨m.toArray⟩]).run Tryz.prog w = .ok (.slice A' (n + m.length) cap') w' ∧ ownT w' B (.slice A' (n + m.length) cap') (n + m.length) (l ++ m) ∧ Below B w w' := by
  obtain ⟨i0, hi, hz0, hz1, hz2⟩ := info_parts Tryz.info5
  have hms : (ByteArray.mk m.toArray).size = m.length := size_mk m
  have hml : n + m.length ≤ maxLen := by unfold maxLen; omega
  have hll : (l ++ m).length = n + m.length := by rw [List.length_append, hown.1]
  have grow : ∀ old, ownT (w.drew.alloc (.cells ((bs l).toArray ++ (bs m).toArray ++ Builtin.zeroCells (Value.int .u8 0).cells (grownCap w (n + m.length) old 5 - (n + m.length))) 5)) B (.slice (some ⟨w.heap.size, 0, none⟩) (n + m.length) (grownCap w (n + m.length) old 5)) (n + m.length) (l ++ m) ∧
      Below B w (w.drew.alloc (.cells ((bs l).toArray ++ (bs m).toArray ++ Builtin.zeroCells (Value.int .u8 0).cells (grownCap w (n + m.length) old 5 - (n + m.length))) 5)) := by
    intro old
    have hge := grownCap_ge w (n + m.length) old 5
    refine ⟨⟨hll, .inr ⟨w.heap.size, _, _, (0, 0), rfl, hB, heap_alloc_new w.drew _, .inl rfl, hge, grownCap_le_maxLen w _ old 5 hml, ?_, ?_⟩⟩, ((Below.refl B w).drew).alloc hB _⟩
    · have hz : (Value.int IntKind.u8 0).cells.size = 1 := rfl
      simp only [Array.size_append, List.size_toArray, size_zeroCells, hz, bs_len, hown.1]
      omega
    · simp only [Array.toList_append, List.append_assoc]
      rw [← List.append_assoc, ← bs_append, ← hll, ← bs_len (l ++ m)]
      exact List.take_left
  rcases hown.2 with ⟨rfl, rfl⟩ | ⟨g, cap, cur, fz, rfl, hg, hh, hfz, hnc, hcm, hcs, htk⟩
  · obtain rfl : l = [] := List.length_eq_zero_iff.1 hown.1
    cases m with
    | nil =>
      refine ⟨none, 0, w, ?_, ⟨rfl, .inl ⟨rfl, rfl⟩⟩, Below.refl _ _⟩
      generalize hss : (ByteArray.mk ([] : List UInt8).toArray) = ss at *
      have hm : ss.size = 0 := hms
      have hn0 : Lib.strCells ss = [] := List.eq_nil_of_length_eq_zero (by rw [Lib.strCells_length]; exact hm)
      have hf := Lib.run_firstCells_string (P := Tryz.prog) w 1 ss
      rw [hm, hn0] at hf
      simp [Builtin.append_, run_underlying Tryz.underlying48, run_underlying Tryz.underlying9, sizeOf, typeInfo, hi, hz1, Builtin.lenOf, hm, hf]
    | cons c t =>
      have hr := run_append_nil_string (P := Tryz.prog) w 48 9 ty 5 i0 (.int .u8 0) Tryz.underlying48 Tryz.underlying9 hi hz0 ⟨(c :: t).toArray⟩ (by rw [size_mk]; simp) (by rw [size_mk]; omega) (by rw [hz2, size_mk]; omega)
      have hg := grow 0
      simp only [hms, Nat.zero_add] at hr hg ⊢
      have e1 : ((ByteArray.mk (c :: t).toArray).data.map fun b => Value.int .u8 b.toNat) = (bs (c :: t)).toArray := by apply Array.ext'; simp [bs]
      rw [e1] at hr
      refine ⟨_, _, _, hr, ?_, ?_⟩
      · have := hg.1; simpa [bs] using this
      · have := hg.2; simpa [bs] using this
  · by_cases hroom : n + m.length ≤ cap
    · have hst := storeT Tryz.prog g n fz (bs m) 0 cur w hh hfz (by rw [bs_len]; omega) (by intro u hu; simp [bs] at hu; obtain ⟨x, _, rfl⟩ := hu; rfl)
      have hf := Lib.run_firstCells_string (P := Tryz.prog) w 1 ⟨m.toArray⟩
      simp only [hms, strCells_bs] at hf
      simp only [Nat.add_zero, bs_len] at hst
      refine ⟨some ⟨g, 0, none⟩, cap, w.setRow g (cur.toList.take n ++ bs m ++ cur.toList.drop (n + m.length)).toArray, ?_, ?_, ?_⟩
      · simp [Builtin.append_, run_underlying Tryz.underlying48, run_underlying Tryz.underlying9, sizeOf, typeInfo, hi, hz1, Builtin.lenOf, hms, hroom, hf, Addr.add_lit, hst]
      · refine ⟨hll, .inr ⟨g, cap, _, fz, rfl, hg, setRow_heap w g cur _ 5 fz hh, ?_, hroom, hcm, ?_, ?_⟩⟩
        · rcases hfz with h | h
          · exact .inl h
          · refine .inr ?_
            simp only [List.size_toArray, List.length_append, List.length_take, List.length_drop, Array.length_toList, bs_len]
            omega
        · simp only [List.size_toArray, List.length_append, List.length_take, List.length_drop, Array.length_toList, bs_len]
          omega
        · rw [htk, ← bs_append, ← hll, ← bs_len (l ++ m)]
          exact List.take_left
      · exact below_setRow (Below.refl B w) hg _
    · have hc : ∀ j u, (bs l)[j]? = some u → w.cell? ((⟨g, 0, none⟩ : Addr).add j) = some u := by
        intro j u hu
        have hj : j < l.length := by
          rcases Nat.lt_or_ge j (bs l).length with h | h
          · simpa [bs_len] using h
          · rw [List.getElem?_eq_none h] at hu; cases hu
        have hadd : (⟨g, 0, none⟩ : Addr).add j = ⟨g, j, none⟩ := by unfold Addr.add; split <;> simp_all
        obtain ⟨g', he, hcc⟩ := hown.cell j hj
        simp only [Option.some.injEq, Addr.mk.injEq, and_true] at he
        subst he
        rw [hadd, hcc, ← hu]; simp [bs, hj]
      have hr := Lib.run_append_grow_string (P := Tryz.prog) w 48 9 ty 5 i0 (.int .u8 0) Tryz.underlying48 Tryz.underlying9 hi hz0 ⟨g, 0, none⟩ n cap (bs l) (by rw [hz1, bs_len, hown.1]; omega) hc ⟨m.toArray⟩ (by rw [size_mk]; omega) (by rw [size_mk]; omega) (by rw [hz2, size_mk]; exact growslice_fits (by omega) (by omega))
      have hg := grow cap
      simp only [hms] at hr
      exact ⟨_, _, _, hr, hg.1, hg.2⟩

theorem append_T {ops : Array Oper} {rest : List Oper} {o : Oper} {a : Act} {Q : Exit → Act → World → Prop} (w : World) (hgd : o.guard = none) (sl x : Operand)
    (ho : o.op = .call { callee := .builtin .append, args := #[sl, x], argTypes := #[48, 9] })
    (B : Nat) (v : Value) (n : Nat) (l m : List UInt8) (hs : a.eval sl = v) (hown : ownT w B v n l) (hx : a.eval x = .string ⟨m.toArray⟩) (hn : n + m.length ≤ 1000000000000) (hB : B ≤ w.heap.size)
    (h : ∀ A' cap' w', ownT w' B (.slice A' (n + m.length) cap') (n + m.length) (l ++ m) → Below B w w' → wpList Tryz.prog ops Q rest (a.put o.dst (.slice A' (n + m.length) cap')) w') :
    wpList Tryz.prog ops Q (o :: rest) a w := by
  refine wpList_plain hgd fun K hK => ?_
  obtain ⟨A', cap', w', hr, h2, h3⟩ := run_append_T w o.type B v n l m hown hn hB
  unfold Oper.wp execOp
  simp only [ho, resolve, invoke, builtin, Sem.run_bind, Sem.run_pure, Result.andThen_ok, List.map_toArray, List.map_cons, List.map_nil, hs, hx, hr]
  exact hK _ _ (h A' cap' w' h2 h3)

/-- string(u). -/
theorem run_string_T (w : World) (B : Nat) (A : Option Addr) (n cap : Nat) (l : List UInt8) (hown : ownT w B (.slice A n cap) n l) :
    (convert 48 9 (.slice A n cap)).run Tryz.prog w = .ok (.string ⟨l.toArray⟩) w := by
  cases l with
  | nil =>
    obtain rfl : n = 0 := hown.1.symm
    rw [run_convert_bytes_string w 48 9 5 A 0 cap Tryz.underlying48 Tryz.underlying5 Tryz.underlying9]
    cases A with
    | none => simp [Conv.bytesToString, Sem.run_pure]; rfl
    | some ad =>
      rw [run_bytesToString w ad 0 cap [] (by simpa using run_loadCells_list (P := Tryz.prog) (w := w) ad [] (by simp))]
      rfl
  | cons c t =>
    obtain ⟨g, rfl, _⟩ := hown.cell 0 (by simp)
    have hl := hown.1
    rw [run_convert_bytes_string w 48 9 5 _ n cap Tryz.underlying48 Tryz.underlying5 Tryz.underlying9]
    have hc : ∀ j u, (bs (c :: t))[j]? = some u → w.cell? ((⟨g, 0, none⟩ : Addr).add j) = some u := by
      intro j u hu
      have hj : j < (c :: t).length := by
        rcases Nat.lt_or_ge j (bs (c :: t)).length with h | h
        · simpa [bs_len] using h
        · rw [List.getElem?_eq_none h] at hu; cases hu
      have hadd : (⟨g, 0, none⟩ : Addr).add j = ⟨g, j, none⟩ := by unfold Addr.add; split <;> simp_all
      obtain ⟨g', he, hcc⟩ := hown.cell j hj
      simp only [Option.some.injEq, Addr.mk.injEq, and_true] at he
      subst he
      rw [hadd, hcc, ← hu]; simp only [bs, List.getElem?_map, List.getElem?_eq_getElem hj, Option.map_some]
    have hrun := run_loadCells_list (P := Tryz.prog) (w := w) (⟨g, 0, none⟩ : Addr) (bs (c :: t)) hc
    rw [bs_len, hl] at hrun
    have e2 : bs (c :: t) = ((c :: t).map fun c => (c.toNat : Int)).map (Value.int .u8) := by simp [bs]
    rw [e2] at hrun
    rw [run_bytesToString w _ n cap _ hrun, foldl_push_bytes]
    congr 2
    show ByteArray.mk (#[] ++ (c :: t).toArray) = _
    simp

/-- []byte(s): the value, the world. -/
theorem bytes_T (w : World) (l : List UInt8) :
    ∃ w', (convert 9 48 (.string ⟨l.toArray⟩)).run Tryz.prog w = .ok (.slice (some ⟨w.heap.size, 0, none⟩) l.length (grownCap w l.length 0 5)) w' ∧
      (l.length ≤ 1000000000000 → ownT w' w.heap.size (.slice (some ⟨w.heap.size, 0, none⟩) l.length (grownCap w l.length 0 5)) l.length l) ∧ Below w.heap.size w w' := by
  refine ⟨_, Lib.run_convert_string_bytes w 9 48 5 ⟨l.toArray⟩ Tryz.underlying9 Tryz.underlying48 Tryz.underlying5, fun hl => ?_, ?_⟩
  · have hge := grownCap_ge w l.length 0 5
    have hsz : (Lib.bytesCells w 5 ⟨l.toArray⟩).size = grownCap w l.length 0 5 := by simp [Lib.bytesCells, ByteArray.size]; omega
    refine ⟨rfl, .inr ⟨w.heap.size, _, _, _, rfl, Nat.le_refl _, Lib.bytesWorld_at_new w 5 _, .inr (Nat.le_refl _), hge, grownCap_le_maxLen w _ 0 5 (by unfold maxLen; omega), hsz, ?_⟩⟩
    simp only [Lib.bytesCells, Array.toList_append]
    rw [List.take_left' (by simp)]
    simp [bs]
  · exact ⟨rfl, rfl, rfl, by rw [Lib.bytesWorld_size]; omega, fun k hk => Lib.bytesWorld_at_old w 5 _ k hk⟩
end Go.Proofs.YtflieikbhgneoaaGreatDoor
