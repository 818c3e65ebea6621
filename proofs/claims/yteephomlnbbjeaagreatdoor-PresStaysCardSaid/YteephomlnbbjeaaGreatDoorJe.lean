/-
  Our own text, in the proofs of the laws of package pres (cayleylaw03). Proved here: own rows of bytes with a marked tail: append, string, []byte; rows of bytes, of strings and of cells in memory: read, append, []byte(s), string(b); a struct in a box; isTooLong, slices.ContainsFunc of it, isRelator and Check of package pres; isRelator and Check of package pres. Conditions: the arguments lie in memory as the slices say; bounds; the listed tables lie as the program lays them.
-/
import Derived.Test.YteephomlnbbjeaaGreatDoorJd
import Derived.Lib.AppendStr
import Derived.Lib.ConvBytes
import Derived.Laws.CopyOwn
import Derived.WalkSpells
import Derived.WalkLawsBesides
import Derived.WalkSmall
import Derived.OwnWalk
import Derived.Laws.BytesString
import Derived.Laws.BitsAllLaws
import Derived.Laws.EntriesVeiled
import Derived.ArgAppend
import Derived.Deep.QuietTactic
import Derived.BigQuiet
import Derived.RegionTactic
import Derived.BigRegion
import Derived.Outline
set_option linter.unusedVariables false
set_option linter.unusedSimpArgs false
set_option linter.unusedSectionVars false
namespace Go.Proofs.YteephomlnbbjeaaGreatDoor
open Go Go.RowKit

/-- A slice of bytes that the call owns; its row may bear a mark behind its end (as a conversion's row does). -/
def ownT (w : World) (B : Nat) (v : Value) (n : Nat) (l : List UInt8) : Prop :=
  l.length = n ∧ ((v = .slice none 0 0 ∧ n = 0) ∨ ∃ g cap cur fz, v = .slice (some ⟨g, 0, none⟩) n cap ∧ B ≤ g ∧ w.heap[g]? = some (.cells cur 5 fz) ∧ (fz.2 = 0 ∨ cur.size ≤ fz.1) ∧ n ≤ cap ∧ cap ≤ maxLen ∧ cur.size = cap ∧ cur.toList.take n = bs l)

theorem ownT_of {w : World} {B n : Nat} {v : Value} {l : List UInt8} (h : w.ownsRow B 5 1 v n (bs l)) : ownT w B v n l := by
  refine ⟨by have := h.1; simp [bs_len] at this; exact this, ?_⟩
  rcases h.2 with h1 | ⟨g, cap, cur, hv, hg, hh, hnc, hcm, hcs, ht⟩
  · exact .inl h1
  · exact .inr ⟨g, cap, cur, (0, 0), hv, hg, hh, .inl rfl, hnc, hcm, by simpa using hcs, by simpa using ht⟩

theorem ownT.kept {w w' : World} {B n : Nat} {v : Value} {l : List UInt8} (h : ownT w B v n l) (hb : ∀ k, k < w.heap.size → w'.heap[k]? = w.heap[k]?) : ownT w' B v n l := by
  refine ⟨h.1, ?_⟩
  rcases h.2 with h1 | ⟨g, cap, cur, fz, hv, hg, hh, rest⟩
  · exact .inl h1
  · exact .inr ⟨g, cap, cur, fz, hv, hg, by rw [hb g (Array.getElem?_eq_some_iff.1 hh).1]; exact hh, rest⟩
theorem ownT.below {w w' : World} {B n : Nat} {v : Value} {l : List UInt8} (h : ownT w B v n l) (hb : Below w.heap.size w w') : ownT w' B v n l := h.kept hb.block
theorem ownT.drewN {w : World} {B n : Nat} {v : Value} {l : List UInt8} (h : ownT w B v n l) (k : Nat) : ownT (w.drewN k) B v n l := h

theorem frozenT {w : World} {g : Nat} {cur : Array Value} {fz : Nat × Nat} (hh : w.heap[g]? = some (.cells cur 5 fz)) (hf : fz.2 = 0 ∨ cur.size ≤ fz.1) (i : Nat) (hi : i < cur.size) : w.frozen? ⟨g, i, none⟩ = false := by
  obtain ⟨lo, hi'⟩ := fz
  simp only [World.frozen?, hh, Bool.and_eq_false_iff, decide_eq_false_iff_not]
  rcases hf with h | h <;> simp only at h
  · right; omega
  · left; omega

theorem ownT.cell {w : World} {B n cap : Nat} {A : Option Addr} {l : List UInt8} (h : ownT w B (.slice A n cap) n l) (j : Nat) (hj : j < l.length) :
    ∃ g, A = some ⟨g, 0, none⟩ ∧ w.cell? ⟨g, j, none⟩ = some (.int .u8 (l[j]).toNat) := by
  have hl := h.1
  rcases h.2 with ⟨h2, h3⟩ | ⟨g, c', cur, fz, hv, hg, hh, hfz, hnc, hcm, hcs, ht⟩
  · omega
  · simp only [Value.slice.injEq, true_and] at hv
    obtain ⟨rfl, rfl⟩ := hv
    refine ⟨g, rfl, ?_⟩
    rw [cell_of_row w g j cur 5 fz hh]
    have : (cur.toList.take n)[j]? = (bs l)[j]? := by rw [ht]
    rw [List.getElem?_take, if_pos (by omega)] at this
    simpa [bs, hj] using this

theorem ownT.cap {w : World} {B n cap : Nat} {A : Option Addr} {l : List UInt8} (h : ownT w B (.slice A n cap) n l) : n ≤ cap := by
  rcases h.2 with ⟨h2, h3⟩ | ⟨g, c', cur, fz, hv, hg, hh, hfz, hnc, hcm, hcs, ht⟩
  · simp only [Value.slice.injEq] at h2; omega
  · simp only [Value.slice.injEq, true_and] at hv; omega

theorem ownT.shorter {w : World} {B n cap : Nat} {A : Option Addr} {l : List UInt8} (h : ownT w B (.slice A n cap) n l) (m : Nat) (hm : m ≤ n) : ownT w B (.slice A m cap) m (l.take m) := by
  refine ⟨by rw [List.length_take, h.1]; omega, ?_⟩
  rcases h.2 with ⟨h2, h3⟩ | ⟨g, c', cur, fz, hv, hg, hh, hfz, hnc, hcm, hcs, ht⟩
  · simp only [Value.slice.injEq] at h2
    exact .inl ⟨by rw [h2.1, h2.2.2, show m = 0 by omega], by omega⟩
  · simp only [Value.slice.injEq, true_and] at hv
    obtain ⟨rfl, rfl⟩ := hv
    refine .inr ⟨g, cap, cur, fz, rfl, hg, hh, hfz, by omega, hcm, hcs, ?_⟩
    have := congrArg (List.take m) ht
    rw [List.take_take, Nat.min_eq_left hm] at this
    rw [this]; simp [bs]

theorem storeT (P : Program) (g o : Nat) (fz : Nat × Nat) : ∀ (vs : List Value) (i : Nat) (cur : Array Value) (w : World), w.heap[g]? = some (.cells cur 5 fz) → (fz.2 = 0 ∨ cur.size ≤ fz.1) → o + i + vs.length ≤ cur.size → (∀ v ∈ vs, v.oneCell' = true) →
    (storeCells ⟨g, o, none⟩ vs i).run P w = .ok () (w.setRow g (cur.toList.take (o + i) ++ vs ++ cur.toList.drop (o + i + vs.length)).toArray) := by
  intro vs
  induction vs with
  | nil =>
    intro i cur w hg _ _ _
    have e : (cur.toList.take (o + i) ++ ([] : List Value) ++ cur.toList.drop (o + i + ([] : List Value).length)).toArray = cur := by simp
    rw [e, setRow_self w g cur 5 fz hg]
    rfl
  | cons v rest ih =>
    intro i cur w hg hf hl h1
    simp only [List.length_cons] at hl
    have hadd : (⟨g, o, none⟩ : Addr).add i = ⟨g, o + i, none⟩ := by unfold Addr.add; split <;> simp_all
    have hcell : w.cell? ⟨g, o + i, none⟩ = some (cur[o + i]'(by omega)) := by simp [World.cell?, hg, show o + i < cur.size by omega]
    have hst : (store ((⟨g, o, none⟩ : Addr).add i) v).run P w = .ok () (w.setRow g (cur.setIfInBounds (o + i) v)) := by
      rw [hadd, run_store P w _ v _ (h1 v (by simp)), hcell]
      simp [frozenT hg hf (o + i) (by omega), setCell_eq_setRow w g (o + i) cur 5 fz v hg]
    have hr := ih (i + 1) (cur.setIfInBounds (o + i) v) (w.setRow g (cur.setIfInBounds (o + i) v)) (setRow_heap w g cur _ 5 _ hg) (by simpa using hf) (by simp; omega) (fun x hx => h1 x (by simp [hx]))
    simp only [storeCells, Sem.run_bind, hst, Result.andThen_ok, hr, setRow_setRow]
    have e : (cur.setIfInBounds (o + i) v).toList.take (o + (i + 1)) ++ rest ++ (cur.setIfInBounds (o + i) v).toList.drop (o + (i + 1) + rest.length) = cur.toList.take (o + i) ++ v :: rest ++ cur.toList.drop (o + i + (v :: rest).length) := by
      rw [Array.toList_setIfInBounds, show o + (i + 1) = (o + i) + 1 by omega, List.take_succ_eq_append_getElem (by simp; omega)]
      simp only [List.getElem_set_self, List.length_cons]
      rw [List.take_set_of_le (by omega), List.drop_set_of_lt (by omega)]
      simp [Nat.add_assoc, Nat.add_comm 1]
    rw [e]

theorem strCells_bs (l : List UInt8) : Lib.strCells ⟨l.toArray⟩ = bs l := rfl

/-- append(u, v...), v a string. -/
theorem run_append_T (w : World) (ty : TypeId) (B : Nat) (v : Value) (n : Nat) (l m : List UInt8) (hown : ownT w B v n l) (hn : n + m.length ≤ 1000000000000) (hB : B ≤ w.heap.size) :
    ∃ A' cap' w', (Builtin.append_ #[82, 9] ty #[v, .string ⟨m.toArray⟩]).run Tryz.prog w = .ok (.slice A' (n + m.length) cap') w' ∧ ownT w' B (.slice A' (n + m.length) cap') (n + m.length) (l ++ m) ∧ Below B w w' := by
  obtain ⟨i0, hi, hz0, hz1, hz2⟩ := info_parts Tryz.info5
  have hms : (ByteArray.mk m.toArray).size = m.length := size_mk m
  have hml : n + m.length ≤ maxLen := by unfold maxLen; omega
  have hll : (l ++ m).length = n + m.length := by rw [List.length_append, hown.1]
  have grow : ∀ old, ownT (w.drew.alloc (.cells ((bs l).toArray ++ (bs m).toArray ++ Builtin.zeroCells (Value.int .u8 0).cells (grownCap w (n + m.length) old 5 - (n + m.length))) 5)) B (.slice (some ⟨w.heap.size, 0, none⟩) (n + m.length) (grownCap w (n + m.length) old 5)) (n + m.length) (l ++ m) ∧
      Below B w (w.drew.alloc (.cells ((bs l).toArray ++ (bs m).toArray ++ Builtin.zeroCells (Value.int .u8 0).cells (grownCap w (n + m.length) old 5 - (n + m.length))) 5)) := by
    intro old
    have hge := grownCap_ge w (n + m.length) old 5
    refine ⟨⟨hll, .inr ⟨w.heap.size, _, _, (0, 0), rfl, hB, heap_alloc_new w.drew _, .inl rfl, hge, grownCap_le_maxLen w _ old 5 hml, ?_, ?_⟩⟩, ((Below.refl B w).drew).alloc hB _⟩
    · have hz : (Value.int IntKind.u8 0).cells.size = 1 := rfl
      simp only [Array.size_append, List.size_toArray, size_zeroCells, hz, bs_len, hown.1]
      omega
    · simp only [Array.toList_append, List.append_assoc]
      rw [← List.append_assoc, ← bs_append, ← hll, ← bs_len (l ++ m)]
      exact List.take_left
  rcases hown.2 with ⟨rfl, rfl⟩ | ⟨g, cap, cur, fz, rfl, hg, hh, hfz, hnc, hcm, hcs, htk⟩
  · obtain rfl : l = [] := List.length_eq_zero_iff.1 hown.1
    cases m with
    | nil =>
      refine ⟨none, 0, w, ?_, ⟨rfl, .inl ⟨rfl, rfl⟩⟩, Below.refl _ _⟩
      generalize hss : (ByteArray.mk ([] : List UInt8).toArray) = ss at *
      have hm : ss.size = 0 := hms
      have hn0 : Lib.strCells ss = [] := List.eq_nil_of_length_eq_zero (by rw [Lib.strCells_length]; exact hm)
      have hf := Lib.run_firstCells_string (P := Tryz.prog) w 1 ss
      rw [hm, hn0] at hf
      simp [Builtin.append_, run_underlying Tryz.underlying82, run_underlying Tryz.underlying9, sizeOf, typeInfo, hi, hz1, Builtin.lenOf, hm, hf]
    | cons c t =>
      have hr := run_append_nil_string (P := Tryz.prog) w 82 9 ty 5 i0 (.int .u8 0) Tryz.underlying82 Tryz.underlying9 hi hz0 ⟨(c :: t).toArray⟩ (by rw [size_mk]; simp) (by rw [size_mk]; omega) (by rw [hz2, size_mk]; omega)
      have hg := grow 0
      simp only [hms, Nat.zero_add] at hr hg ⊢
      have e1 : ((ByteArray.mk (c :: t).toArray).data.map fun b => Value.int .u8 b.toNat) = (bs (c :: t)).toArray := by apply Array.ext'; simp [bs]
      rw [e1] at hr
      refine ⟨_, _, _, hr, ?_, ?_⟩
      · have := hg.1; simpa [bs] using this
      · have := hg.2; simpa [bs] using this
  · by_cases hroom : n + m.length ≤ cap
    · have hst := storeT Tryz.prog g n fz (bs m) 0 cur w hh hfz (by rw [bs_len]; omega) (by intro u hu; simp [bs] at hu; obtain ⟨x, _, rfl⟩ := hu; rfl)
      have hf := Lib.run_firstCells_string (P := Tryz.prog) w 1 ⟨m.toArray⟩
      simp only [hms, strCells_bs] at hf
      simp only [Nat.add_zero, bs_len] at hst
      refine ⟨some ⟨g, 0, none⟩, cap, w.setRow g (cur.toList.take n ++ bs m ++ cur.toList.drop (n + m.length)).toArray, ?_, ?_, ?_⟩
      · simp [Builtin.append_, run_underlying Tryz.underlying82, run_underlying Tryz.underlying9, sizeOf, typeInfo, hi, hz1, Builtin.lenOf, hms, hroom, hf, Addr.add_lit, hst]
      · refine ⟨hll, .inr ⟨g, cap, _, fz, rfl, hg, setRow_heap w g cur _ 5 fz hh, ?_, hroom, hcm, ?_, ?_⟩⟩
        · rcases hfz with h | h
          · exact .inl h
          · refine .inr ?_
            simp only [List.size_toArray, List.length_append, List.length_take, List.length_drop, Array.length_toList, bs_len]
            omega
        · simp only [List.size_toArray, List.length_append, List.length_take, List.length_drop, Array.length_toList, bs_len]
          omega
        · rw [htk, ← bs_append, ← hll, ← bs_len (l ++ m)]
          exact List.take_left
      · exact below_setRow (Below.refl B w) hg _
    · have hc : ∀ j u, (bs l)[j]? = some u → w.cell? ((⟨g, 0, none⟩ : Addr).add j) = some u := by
        intro j u hu
        have hj : j < l.length := by
          rcases Nat.lt_or_ge j (bs l).length with h | h
          · simpa [bs_len] using h
          · rw [List.getElem?_eq_none h] at hu; cases hu
        have hadd : (⟨g, 0, none⟩ : Addr).add j = ⟨g, j, none⟩ := by unfold Addr.add; split <;> simp_all
        obtain ⟨g', he, hcc⟩ := hown.cell j hj
        simp only [Option.some.injEq, Addr.mk.injEq, and_true] at he
        subst he
        rw [hadd, hcc, ← hu]; simp [bs, hj]
      have hr := Lib.run_append_grow_string (P := Tryz.prog) w 82 9 ty 5 i0 (.int .u8 0) Tryz.underlying82 Tryz.underlying9 hi hz0 ⟨g, 0, none⟩ n cap (bs l) (by rw [hz1, bs_len, hown.1]; omega) hc ⟨m.toArray⟩ (by rw [size_mk]; omega) (by rw [size_mk]; omega) (by rw [hz2, size_mk]; exact growslice_fits (by omega) (by omega))
      have hg := grow cap
      simp only [hms] at hr
      exact ⟨_, _, _, hr, hg.1, hg.2⟩

theorem append_T {ops : Array Oper} {rest : List Oper} {o : Oper} {a : Act} {Q : Exit → Act → World → Prop} (w : World) (hgd : o.guard = none) (sl x : Operand)
    (ho : o.op = .call { callee := .builtin .append, args := #[sl, x], argTypes := #[82, 9] })
    (B : Nat) (v : Value) (n : Nat) (l m : List UInt8) (hs : a.eval sl = v) (hown : ownT w B v n l) (hx : a.eval x = .string ⟨m.toArray⟩) (hn : n + m.length ≤ 1000000000000) (hB : B ≤ w.heap.size)
    (h : ∀ A' cap' w', ownT w' B (.slice A' (n + m.length) cap') (n + m.length) (l ++ m) → Below B w w' → wpList Tryz.prog ops Q rest (a.put o.dst (.slice A' (n + m.length) cap')) w') :
    wpList Tryz.prog ops Q (o :: rest) a w := by
  refine wpList_plain hgd fun K hK => ?_
  obtain ⟨A', cap', w', hr, h2, h3⟩ := run_append_T w o.type B v n l m hown hn hB
  unfold Oper.wp execOp
  simp only [ho, resolve, invoke, builtin, Sem.run_bind, Sem.run_pure, Result.andThen_ok, List.map_toArray, List.map_cons, List.map_nil, hs, hx, hr]
  exact hK _ _ (h A' cap' w' h2 h3)

/-- string(u). -/
theorem run_string_T (w : World) (B : Nat) (A : Option Addr) (n cap : Nat) (l : List UInt8) (hown : ownT w B (.slice A n cap) n l) :
    (convert 82 9 (.slice A n cap)).run Tryz.prog w = .ok (.string ⟨l.toArray⟩) w := by
  cases l with
  | nil =>
    obtain rfl : n = 0 := hown.1.symm
    rw [run_convert_bytes_string w 82 9 5 A 0 cap Tryz.underlying82 Tryz.underlying5 Tryz.underlying9]
    cases A with
    | none => simp [Conv.bytesToString, Sem.run_pure]; rfl
    | some ad =>
      rw [run_bytesToString w ad 0 cap [] (by simpa using run_loadCells_list (P := Tryz.prog) (w := w) ad [] (by simp))]
      rfl
  | cons c t =>
    obtain ⟨g, rfl, _⟩ := hown.cell 0 (by simp)
    have hl := hown.1
    rw [run_convert_bytes_string w 82 9 5 _ n cap Tryz.underlying82 Tryz.underlying5 Tryz.underlying9]
    have hc : ∀ j u, (bs (c :: t))[j]? = some u → w.cell? ((⟨g, 0, none⟩ : Addr).add j) = some u := by
      intro j u hu
      have hj : j < (c :: t).length := by
        rcases Nat.lt_or_ge j (bs (c :: t)).length with h | h
        · simpa [bs_len] using h
        · rw [List.getElem?_eq_none h] at hu; cases hu
      have hadd : (⟨g, 0, none⟩ : Addr).add j = ⟨g, j, none⟩ := by unfold Addr.add; split <;> simp_all
      obtain ⟨g', he, hcc⟩ := hown.cell j hj
      simp only [Option.some.injEq, Addr.mk.injEq, and_true] at he
      subst he
      rw [hadd, hcc, ← hu]; simp only [bs, List.getElem?_map, List.getElem?_eq_getElem hj, Option.map_some]
    have hrun := run_loadCells_list (P := Tryz.prog) (w := w) (⟨g, 0, none⟩ : Addr) (bs (c :: t)) hc
    rw [bs_len, hl] at hrun
    have e2 : bs (c :: t) = ((c :: t).map fun c => (c.toNat : Int)).map (Value.int .u8) := by simp [bs]
    rw [e2] at hrun
    rw [run_bytesToString w _ n cap _ hrun, foldl_push_bytes]
    congr 2
    show ByteArray.mk (#[] ++ (c :: t).toArray) = _
    simp

/-- []byte(s): the value, the world. -/
theorem bytes_T (w : World) (l : List UInt8) :
    ∃ w', (convert 9 82 (.string ⟨l.toArray⟩)).run Tryz.prog w = .ok (.slice (some ⟨w.heap.size, 0, none⟩) l.length (grownCap w l.length 0 5)) w' ∧
      (l.length ≤ 1000000000000 → ownT w' w.heap.size (.slice (some ⟨w.heap.size, 0, none⟩) l.length (grownCap w l.length 0 5)) l.length l) ∧ Below w.heap.size w w' := by
  refine ⟨_, Lib.run_convert_string_bytes w 9 82 5 ⟨l.toArray⟩ Tryz.underlying9 Tryz.underlying82 Tryz.underlying5, fun hl => ?_, ?_⟩
  · have hge := grownCap_ge w l.length 0 5
    have hsz : (Lib.bytesCells w 5 ⟨l.toArray⟩).size = grownCap w l.length 0 5 := by simp [Lib.bytesCells, ByteArray.size]; omega
    refine ⟨rfl, .inr ⟨w.heap.size, _, _, _, rfl, Nat.le_refl _, Lib.bytesWorld_at_new w 5 _, .inr (Nat.le_refl _), hge, grownCap_le_maxLen w _ 0 5 (by unfold maxLen; omega), hsz, ?_⟩⟩
    simp only [Lib.bytesCells, Array.toList_append]
    rw [List.take_left' (by simp)]
    simp [bs]
  · exact ⟨rfl, rfl, rfl, by rw [Lib.bytesWorld_size]; omega, fun k hk => Lib.bytesWorld_at_old w 5 _ k hk⟩
end Go.Proofs.YteephomlnbbjeaaGreatDoor

namespace Go.Proofs.YteephomlnbbjeaaGreatDoor
open Go Go.RowKit

theorem bs_get (l : List UInt8) (i : Nat) (h : i < l.length) : (bs l)[i]? = some (.int .u8 (l[i]).toNat) := by simp [bs, h]



theorem ret_bool {a b : Bool} (h : a = b) : Ending.returned (.bool a) = .returned (.bool b) := by rw [h]



/-- A row of bytes that can be read. -/
def RowAt (w : World) (A : Option Addr) (l : List UInt8) : Prop :=
  ∀ i (h : i < l.length), ∃ b o, A = some ⟨b, o, none⟩ ∧ w.cell? ⟨b, o + i, none⟩ = some (.int .u8 (l[i]).toNat)
theorem RowAt.below {w w' : World} {A : Option Addr} {l : List UInt8} (h : RowAt w A l) (hb : Below w.heap.size w w') : RowAt w' A l := by
  intro i hi
  obtain ⟨b, o, hA, hc⟩ := h i hi
  exact ⟨b, o, hA, (hb.cell (p := ⟨b, o + i, none⟩) (lt_of_cell hc)).trans hc⟩
theorem RowAt.grown {w w' : World} {A : Option Addr} {l : List UInt8} {row : Option Nat} (h : RowAt w A l) (hg : w.grownBy w' row) (hne : ∀ a, A = some a → row ≠ some a.block) : RowAt w' A l := by
  intro i hi
  obtain ⟨b, o, hA, hc⟩ := h i hi
  exact ⟨b, o, hA, hg.cell hc (fun e => hne _ hA e.symm)⟩
theorem RowAt.drewN {w : World} {A : Option Addr} {l : List UInt8} (h : RowAt w A l) (k : Nat) : RowAt (w.drewN k) A l := h

theorem rowAt_own {w : World} {B n cap : Nat} {A : Option Addr} {l : List UInt8} (h : w.ownsRow B 5 1 (.slice A n cap) n (bs l)) : RowAt w A l := by
  intro i hi
  have hl : l.length = n := by have := h.1; simpa [bs_len] using this
  rcases h.2 with ⟨h2, h3⟩ | ⟨g, c', cur, hv, hg, hh, hnc, hcm, hcs, ht⟩
  · omega
  · simp only [Value.slice.injEq, true_and] at hv
    obtain ⟨rfl, rfl⟩ := hv
    refine ⟨g, 0, rfl, ?_⟩
    rw [Nat.zero_add, cell_of_row w g i cur 5 (0, 0) hh]
    have : (cur.toList.take (n * 1))[i]? = (bs l)[i]? := by rw [ht]
    rw [List.getElem?_take, if_pos (by omega), bs_get l i hi] at this
    simpa using this

theorem own_shape {w : World} {B e s n cap : Nat} {A : Option Addr} {xs : List Value} (h : w.ownsRow B e s (.slice A n cap) n xs) : (A = none ∧ n = 0 ∧ cap = 0) ∨ ∃ g, A = some ⟨g, 0, none⟩ ∧ B ≤ g ∧ g < w.heap.size := by
  rcases h.2 with ⟨h2, h3⟩ | ⟨g, c', cur, hv, hg, hh, _⟩
  · simp only [Value.slice.injEq] at h2; exact .inl ⟨h2.1, h3, h2.2.2⟩
  · simp only [Value.slice.injEq, true_and] at hv
    exact .inr ⟨g, hv.1, hg, (Array.getElem?_eq_some_iff.1 hh).1⟩



theorem add_lit (b o i : Nat) : (⟨b, o, none⟩ : Addr).add i = ⟨b, o + i, none⟩ := by unfold Addr.add; split <;> simp_all

/-- string(u). -/
theorem run_string_row (w : World) (A : Option Addr) (cap : Nat) (l : List UInt8) (h : RowAt w A l) :
    (convert 82 9 (.slice A l.length cap)).run Tryz.prog w = .ok (.string ⟨l.toArray⟩) w := by
  cases l with
  | nil =>
    rw [run_convert_bytes_string w 82 9 5 A _ cap Tryz.underlying82 Tryz.underlying5 Tryz.underlying9]
    cases A with
    | none => simp [Conv.bytesToString, Sem.run_pure]; rfl
    | some ad =>
      rw [run_bytesToString w ad _ cap [] (by simpa using run_loadCells_list (P := Tryz.prog) (w := w) ad [] (by simp))]
      rfl
  | cons c t =>
    obtain ⟨b, o, rfl, _⟩ := h 0 (by simp)
    rw [run_convert_bytes_string w 82 9 5 _ _ cap Tryz.underlying82 Tryz.underlying5 Tryz.underlying9]
    have hc : ∀ j u, (bs (c :: t))[j]? = some u → w.cell? ((⟨b, o, none⟩ : Addr).add j) = some u := by
      intro j u hu
      have hj : j < (c :: t).length := by
        rcases Nat.lt_or_ge j (bs (c :: t)).length with h | h
        · simpa [bs_len] using h
        · rw [List.getElem?_eq_none h] at hu; cases hu
      obtain ⟨b', o', he, hcc⟩ := h j hj
      simp only [Option.some.injEq, Addr.mk.injEq, and_true] at he
      obtain ⟨rfl, rfl⟩ := he
      rw [add_lit, hcc, ← hu, bs_get _ _ hj]
    have hrun := run_loadCells_list (P := Tryz.prog) (w := w) (⟨b, o, none⟩ : Addr) (bs (c :: t)) hc
    rw [bs_len] at hrun
    have e2 : bs (c :: t) = ((c :: t).map fun c => (c.toNat : Int)).map (Value.int .u8) := by simp [bs]
    rw [e2] at hrun
    rw [run_bytesToString w _ _ cap _ hrun, foldl_push_bytes]
    congr 2
    show ByteArray.mk (#[] ++ (c :: t).toArray) = _
    simp

/-- []byte(s): the value, the world. -/
theorem run_bytes (w : World) (l : List UInt8) :
    ∃ w' cap, (convert 9 82 (.string ⟨l.toArray⟩)).run Tryz.prog w = .ok (.slice (some ⟨w.heap.size, 0, none⟩) l.length cap) w' ∧ RowAt w' (some ⟨w.heap.size, 0, none⟩) l ∧ Below w.heap.size w w' ∧ l.length ≤ cap := by
  refine ⟨_, _, Lib.run_convert_string_bytes w 9 82 5 ⟨l.toArray⟩ Tryz.underlying9 Tryz.underlying82 Tryz.underlying5, ?_, ?_, grownCap_ge w l.length 0 5⟩
  · intro i hi
    refine ⟨w.heap.size, 0, rfl, ?_⟩
    rw [Nat.zero_add, cell_of_row _ w.heap.size i _ 5 _ (Lib.bytesWorld_at_new w 5 _)]
    simp only [Lib.bytesCells]
    rw [Array.getElem?_append_left (by simpa [ByteArray.size] using hi)]
    simp [hi]
  · exact ⟨rfl, rfl, rfl, by rw [Lib.bytesWorld_size]; omega, fun k hk => Lib.bytesWorld_at_old w 5 _ k hk⟩



/-- The block of a slice's row. -/
def blk (A : Option Addr) : Option Nat := A.map (·.block)
theorem ownBlock_slice (A : Option Addr) (n c : Nat) : (Value.slice A n c).ownBlock = blk A := by cases A <;> rfl
/-- Behind an append: the row stands where it stood, or is new. -/
def Moved (w : World) (A A' : Option Addr) : Prop := blk A' = blk A ∨ ∀ k, blk A' = some k → w.heap.size ≤ k
theorem Moved.refl (w : World) (A : Option Addr) : Moved w A A := .inl rfl
theorem Moved.trans {w w1 : World} {A B C : Option Addr} (h1 : Moved w A B) (h2 : Moved w1 B C) (hs : w.heap.size ≤ w1.heap.size) : Moved w A C := by
  rcases h2 with h2 | h2
  · rcases h1 with h1 | h1
    · exact .inl (h2.trans h1)
    · exact .inr fun k hk => h1 k (h2 ▸ hk)
  · exact .inr fun k hk => Nat.le_trans hs (h2 k hk)
theorem grown_trans {w w1 w2 : World} {A A1 : Option Addr} (h1 : w.grownBy w1 (blk A)) (h2 : w1.grownBy w2 (blk A1)) (hm : Moved w A A1) : w.grownBy w2 (blk A) :=
  ⟨h2.os.trans h1.os, h2.tape.trans h1.tape, h2.output.trans h1.output, Nat.le_trans h1.size h2.size, fun k hk hne => by
    rw [h2.block k (by have := h1.size; omega) (fun e => by rcases hm with h | h; exact hne (e.trans h); have := h k e.symm; omega), h1.block k hk hne]⟩
theorem grown_refl (w : World) (r : Option Nat) : w.grownBy w r := ⟨rfl, rfl, rfl, Nat.le_refl _, fun _ _ _ => rfl⟩
theorem grown_drewN {w w' : World} {r : Option Nat} (h : w.grownBy w' r) (n : Nat) : w.grownBy (w'.drewN n) r := ⟨h.os, h.tape, h.output, h.size, h.block⟩
theorem grown_below {w w1 w2 : World} {r : Option Nat} (h : w.grownBy w1 r) (hb : Below w1.heap.size w1 w2) : w.grownBy w2 r :=
  ⟨hb.os.trans h.os, hb.tape.trans h.tape, hb.output.trans h.output, Nat.le_trans h.size hb.size, fun k hk hne => (hb.block k (by have := h.size; omega)).trans (h.block k hk hne)⟩

theorem own_base {w : World} {B B' e s n : Nat} {v : Value} {xs : List Value} (h : w.ownsRow B e s v n xs) (hb : B' ≤ B) : w.ownsRow B' e s v n xs := by
  obtain ⟨h1, h2⟩ := h
  refine ⟨h1, ?_⟩
  rcases h2 with h2 | ⟨g, cap, cur, hv, hg, r⟩
  · exact .inl h2
  · exact .inr ⟨g, cap, cur, hv, Nat.le_trans hb hg, r⟩

/-- append to a row of the call's own, elements of whatever type: where the row stands behind it. -/
theorem append_gen {P : Program} {ops : Array Oper} {rest : List Oper} {o : Oper} {a : Act} {Q : Exit → Act → World → Prop} (w : World) (hgd : o.guard = none) (s x : Operand) (t : TypeId)
    (ho : o.op = .call { callee := .builtin .append, args := #[s, x], argTypes := #[t, t] })
    (e : TypeId) (i : TypeInfo) (z : Value) (size bytes : Nat) (h1 : P.underlying t = some (.slice e)) (h2 : P.info? e = some i) (h3 : i.zero = some z) (h4 : i.size = size) (h5 : i.bytes = bytes) (h6 : z.cells.size = size) (h7 : 0 < size)
    (B : Nat) (A : Option Addr) (n cap : Nat) (xs : List Value) (hs : a.eval s = .slice A n cap) (hown : w.ownsRow B e size (.slice A n cap) n xs)
    (ad : Addr) (m c : Nat) (news : List Value) (hx : a.eval x = .slice (some ad) m c) (hn : news.length = m * size) (hc : ∀ j u, news[j]? = some u → w.cell? (ad.add j) = some u) (h1c : ∀ u ∈ news, u.oneCell' = true)
    (b1 : n + m ≤ maxLen) (b2 : (n + m) * bytes ≤ 140737488355328) (hB : B ≤ w.heap.size)
    (h : ∀ A' cap' w', w'.ownsRow B e size (.slice A' (n + m) cap') (n + m) (xs ++ news) → w.grownBy w' (blk A) → Moved w A A' → wpList P ops Q rest (a.put o.dst (.slice A' (n + m) cap')) w') :
    wpList P ops Q (o :: rest) a w := by
  have hsh := own_shape hown
  rcases Nat.lt_or_ge cap (n + m) with hfull | hroom
  · refine wpList_append_grows w hgd s x t ho e i z size bytes h1 h2 h3 h4 h5 h6 h7 A n cap xs hs ?_ hown.1 ?_ ad m c news hx hn hc h1c hfull b1 b2 ?_
    · intro hA; rcases hsh with ⟨_, h2, h3⟩ | ⟨g, h, _⟩
      · exact ⟨h2, h3⟩
      · rw [h] at hA; cases hA
    · intro b hb j u hj
      subst hb
      exact hown.cells (g := b.block) rfl j u hj |> fun hh => by
        rcases hsh with ⟨h, _⟩ | ⟨g, h, _⟩
        · cases h
        · cases h; exact hh
    · intro v' w' hown' hgrow
      rcases hown'.2 with ⟨rfl, h0⟩ | ⟨g, c', cur, rfl, hg, _⟩
      · omega
      · exact h _ _ w' (own_base hown' hB) ⟨hgrow.os, hgrow.tape, hgrow.output, hgrow.size, fun k hk _ => hgrow.block k hk (by simp)⟩ (.inr fun k hk => by cases hk; exact hg)
  · cases A with
    | none =>
      rcases hsh with ⟨_, rfl, rfl⟩ | ⟨g, h, _⟩
      · obtain rfl : m = 0 := by omega
        obtain rfl : news = [] := List.eq_nil_of_length_eq_zero (by simpa using hn)
        refine wpList_append_own w hgd s x t ho B e i z size bytes h1 h2 h3 h4 h5 h6 h7 _ 0 xs hs hown ad 0 c [] hx hn hc h1c b1 b2 hB ?_
        intro v' w' hown' hgrow hiff
        obtain rfl : v' = .slice none 0 0 := hiff.2 ⟨rfl, rfl⟩
        exact h none 0 w' hown' hgrow (.inl rfl)
      · cases h
    | some b =>
      obtain ⟨g, hg⟩ : ∃ g, some b = some ⟨g, 0, none⟩ := by
        rcases hsh with ⟨h, _⟩ | ⟨g, h, _⟩
        · cases h
        · exact ⟨g, h⟩
      cases hg
      refine wpList_append_fits _ hgd s x t ho B e i size h1 h2 h4 g n cap xs hs hown ad m c news hx hn hc h1c hroom ?_
      intro w' hown' hgrow
      exact h _ _ _ hown' hgrow (.inl rfl)

/-- append of one byte, by its literal slice, to a row of the call's own. -/
theorem append_one {ops : Array Oper} {rest : List Oper} {o : Oper} {a : Act} {Q : Exit → Act → World → Prop} (w : World) (hgd : o.guard = none) (s x : Operand)
    (ho : o.op = .call { callee := .builtin .append, args := #[s, x], argTypes := #[82, 82] })
    (B : Nat) (A : Option Addr) (n cap : Nat) (l : List UInt8) (c : UInt8) (hs : a.eval s = .slice A n cap) (hown : w.ownsRow B 5 1 (.slice A n cap) n (bs l))
    (v : Value) (hv : v = .int .u8 c.toNat) (hx : a.eval x = .slice (some ⟨w.heap.size, 0, none⟩) 1 1) (hn : n ≤ 1000000000000) (hB : B ≤ w.heap.size)
    (h : ∀ A' cap' w', w'.ownsRow B 5 1 (.slice A' (n + 1) cap') (n + 1) (bs (l ++ [c])) → w.grownBy w' (blk A) → Moved w A A' → wpList Tryz.prog ops Q rest (a.put o.dst (.slice A' (n + 1) cap')) w') :
    wpList Tryz.prog ops Q (o :: rest) a (w.alloc (.cells #[v] 5)) := by
  subst hv
  obtain ⟨i0, hi, hz0, hz1, hz2⟩ := info_parts Tryz.info5
  refine append_gen _ hgd s x 82 ho 5 i0 (.int .u8 0) 1 1 Tryz.underlying82 hi hz0 hz1 hz2 rfl (by decide) B A n cap (bs l) hs (hown.alloc _) ⟨w.heap.size, 0, none⟩ 1 1 [.int .u8 c.toNat] hx rfl (news_one w _ _) (by intro u hu; simp at hu; subst hu; rfl) (by unfold maxLen; omega) (by omega) (by simp; omega) ?_
  intro A' cap' w' hown' hgrow hm
  refine h A' cap' w' (by rw [bs_append]; exact hown') (grown_trans (World.grownBy_alloc w _ (blk A)) hgrow (.inl rfl)) ?_
  rcases hm with hm | hm
  · exact .inl hm
  · exact .inr fun k hk => by have := hm k hk; simp at this; omega

theorem own_empty (w : World) (B e sz : Nat) (hB : B ≤ w.heap.size) : (w.alloc (.cells #[] e)).ownsRow B e sz (.slice (some ⟨w.heap.size, 0, none⟩) 0 0) 0 [] :=
  World.ownsRow_made w #[] 0 hB (by unfold maxLen; omega) (by simp)
theorem below_of_grown {w w1 w2 : World} {B : Nat} {A : Option Addr} (h : Below B w w1) (hg : w1.grownBy w2 (blk A)) (hB : B ≤ w1.heap.size) (hA : ∀ a, A = some a → B ≤ a.block) : Below B w w2 :=
  h.grown hg hB (fun k hk => by cases A with
    | none => cases hk
    | some a => cases hk; exact hA a rfl)
theorem own_ge {w : World} {B e sz n cap : Nat} {A : Option Addr} {xs : List Value} (h : w.ownsRow B e sz (.slice A n cap) n xs) : ∀ a, A = some a → B ≤ a.block := by
  intro a ha
  rcases own_shape h with ⟨h, _⟩ | ⟨g, h, hg, _⟩
  · rw [h] at ha; cases ha
  · rw [h] at ha; cases ha; exact hg
/-- A struct that lies in a box of the call's own, and whatever comes behind. -/
structure Boxd (w : World) (cs : Array Value) (t : TypeId) (wr : World) : Prop where
  below : Below (w.heap.size + 1) (w.alloc (.cells cs t)) wr
theorem Boxd.start (w : World) (cs : Array Value) (t : TypeId) : Boxd w cs t (w.alloc (.cells cs t)) := ⟨Below.refl _ _⟩
theorem Boxd.on {w : World} {cs : Array Value} {t : TypeId} {wr w' : World} (h : Boxd w cs t wr) (hb : Below wr.heap.size wr w') : Boxd w cs t w' :=
  ⟨h.below.trans (hb.mono (by have := h.below.size; simpa using this))⟩
theorem Boxd.on' {w : World} {cs : Array Value} {t : TypeId} {wr w' : World} (h : Boxd w cs t wr) (hb : Below (w.heap.size + 1) wr w') : Boxd w cs t w' := ⟨h.below.trans hb⟩
theorem Boxd.drewN {w : World} {cs : Array Value} {t : TypeId} {wr : World} (h : Boxd w cs t wr) (n : Nat) : Boxd w cs t (wr.drewN n) := ⟨h.below.drewN n⟩
theorem Boxd.old {w : World} {cs : Array Value} {t : TypeId} {wr : World} (h : Boxd w cs t wr) : Below w.heap.size w wr :=
  ((Below.refl _ w).alloc (Nat.le_refl _) _).trans (h.below.mono (by omega))
theorem Boxd.cell {w : World} {cs : Array Value} {t : TypeId} {wr : World} (h : Boxd w cs t wr) (i : Nat) : wr.cell? ⟨w.heap.size, i, none⟩ = cs[i]? := by
  rw [h.below.cell (p := ⟨w.heap.size, i, none⟩) (by simp)]
  exact cell_of_row _ w.heap.size i cs t (0, 0) (heap_alloc_new w _)
theorem Boxd.size {w : World} {cs : Array Value} {t : TypeId} {wr : World} (h : Boxd w cs t wr) : w.heap.size < wr.heap.size := by
  have := h.below.size; simp at this; omega

theorem all_take_succL {α : Type} (l : List α) (q : α → Bool) (n : Nat) (h : n < l.length) : (l.take (n + 1)).all q = ((l.take n).all q && q l[n]) := by
  rw [List.take_succ_eq_append_getElem h]; simp only [List.all_append, List.all_cons, List.all_nil, Bool.and_true]
theorem all_noL {α : Type} (l : List α) (q : α → Bool) (n : Nat) (h : n < l.length) (hq : q l[n] = false) : l.all q = false := by
  rw [List.all_eq_false]; exact ⟨l[n], List.getElem_mem _, by simp [hq]⟩


end Go.Proofs.YteephomlnbbjeaaGreatDoor

namespace Go.Proofs.YteephomlnbbjeaaGreatDoor
open Go Go.RowKit

/-! WORDS, PRESENTATIONS, CELLS, AS LISTS. -/
structure Pr where
  k : Int
  rels : List (List UInt8)
structure Cel where
  conj : List UInt8
  rel : Int
  inv : Bool
  deriving DecidableEq

def relB (k : Int) (l : List UInt8) : Bool := decide (l ≠ []) && ((checkI k l == 0) && (red l == l))
def longB (l : List UInt8) : Bool := decide (200 < l.length)
def chkP (p : Pr) : Int := if p.k < 1 ∨ 8 < p.k then 1 else if 60 < p.rels.length ∨ p.rels.any longB = true then 2 else if p.rels.all (relB p.k) then 0 else 4

/-- A row of strings that can be read. -/
def StrsAt (w : World) (A : Option Addr) (l : List (List UInt8)) : Prop :=
  ∀ i (h : i < l.length), ∃ b o, A = some ⟨b, o, none⟩ ∧ w.cell? ⟨b, o + i, none⟩ = some (.string ⟨(l[i]).toArray⟩) ∧ (l[i]).length ≤ 140737488351232
theorem StrsAt.below {w w' : World} {A : Option Addr} {l : List (List UInt8)} (h : StrsAt w A l) (hb : Below w.heap.size w w') : StrsAt w' A l := by
  intro i hi
  obtain ⟨b, o, hA, hc, hl⟩ := h i hi
  exact ⟨b, o, hA, (hb.cell (p := ⟨b, o + i, none⟩) (lt_of_cell hc)).trans hc, hl⟩
theorem StrsAt.drewN {w : World} {A : Option Addr} {l : List (List UInt8)} (h : StrsAt w A l) (k : Nat) : StrsAt (w.drewN k) A l := h

theorem any_take_succL {α : Type} (l : List α) (q : α → Bool) (n : Nat) (h : n < l.length) : (l.take (n + 1)).any q = ((l.take n).any q || q l[n]) := by
  rw [List.take_succ_eq_append_getElem h]; simp only [List.any_append, List.any_cons, List.any_nil, Bool.or_false]
theorem any_yesL {α : Type} (l : List α) (q : α → Bool) (n : Nat) (h : n < l.length) (hq : q l[n] = true) : l.any q = true := by
  rw [List.any_eq_true]; exact ⟨l[n], List.getElem_mem _, hq⟩

theorem isTooLong_any (l : List UInt8) (w : World) (hs : l.length ≤ 140737488351232) :
    Calls Tryz.prog 64 #[.string ⟨l.toArray⟩] w fun e w' => e = .returned (.bool (longB l)) ∧ w = w' := by
  have HS : (ByteArray.mk l.toArray).size = l.length := size_mk l
  have HR : Hid (longB l = decide (200 < l.length)) := Lib.hid rfl
  go_enter Tryz.func64, Tryz.ntmps64
  go_wp2
  go_ret
  exact ⟨ret_bool (by rw [HR.out]; simp; omega), rfl⟩

set_option maxHeartbeats 400000 in
theorem contains_long (A : Option Addr) (cap : Nat) (l : List (List UInt8)) (w : World) (h : StrsAt w A l) (hm : l.length ≤ maxLen) :
    Calls Tryz.prog 66 #[.slice A l.length cap, .func (.func 64) #[] #[]] w fun e w' => (∃ r : Int, e = .returned (.int .i64 r) ∧ decide (0 ≤ r) = l.any longB) ∧ w = w' := by
  unfold maxLen at hm
  have HH := Lib.hid h
  clear h
  go_enter Tryz.func66, Tryz.ntmps66
  go_wp2
  go_loop [5, 8] (fun _ i => ∃ n : Nat, n ≤ l.length ∧ i = .int .i64 n ∧ (l.take n).any longB = false) (fun _ i => l.length - (intOf i).toNat)
  case atStart => exact ⟨0, Nat.zero_le _, rfl, rfl⟩
  case round =>
    obtain ⟨n, hn, rfl, hall⟩ := hrel
    have HA := Lib.hid hall
    clear hall
    by_cases hlt : n < l.length
    · have HS := Lib.hid (any_take_succL l longB n hlt)
      have HY := Lib.hid (any_yesL l longB n hlt)
      obtain ⟨b, o, rfl, hc, hl⟩ := HH.out n hlt
      have hI := isTooLong_any l[n] w hl
      clear hl
      cases hb : longB l[n] with
      | false =>
        rw [hb] at hI HS
        clear hb
        generalize l[n] = r at *
        go_wp2_with fail
        refine hI.mono ?_
        rintro e w1 ⟨rfl, rfl⟩
        go_wp2
        go_round
        case rel => exact ⟨n + 1, by omega, by go_num, by rw [HS.out, HA.out]; rfl⟩
        case measure => simp [intOf]; omega
      | true =>
        rw [hb] at hI
        have HZ := Lib.hid (HY.out hb)
        clear hb
        generalize l[n] = r at *
        go_wp2_with fail
        refine hI.mono ?_
        rintro e w1 ⟨rfl, rfl⟩
        go_wp2
        go_ret
        exact ⟨⟨_, rfl, by rw [HZ.out]; simp⟩, rfl⟩
    · obtain rfl : n = l.length := by omega
      have HZ : Hid (l.any longB = false) := Lib.hid (by have := HA.out; rwa [List.take_length] at this)
      go_wp2
      go_ret
      exact ⟨⟨-1, rfl, by rw [HZ.out]; decide⟩, rfl⟩

theorem anyLong (A : Option Addr) (cap : Nat) (l : List (List UInt8)) (w : World) (h : StrsAt w A l) (hm : l.length ≤ maxLen) :
    Calls Tryz.prog 20 #[.slice A l.length cap, .func (.func 64) #[] #[]] w fun e w' => e = .returned (.bool (l.any longB)) ∧ w = w' := by
  have hI := contains_long A cap l w h hm
  clear h
  generalize l.any longB = q at *
  go_enter Tryz.func20, Tryz.ntmps20
  go_wp2_with fail
  refine hI.mono ?_
  rintro e w1 ⟨⟨r, rfl, hq⟩, rfl⟩
  subst hq
  go_wp2
  go_ret
  exact ⟨rfl, rfl⟩
end Go.Proofs.YteephomlnbbjeaaGreatDoor

namespace Go.Proofs.YteephomlnbbjeaaGreatDoor
open Go Go.RowKit

theorem letterB_8 {k : Int} (h : k ≤ 8) {c : UInt8} (hc : letterB k c = true) : letterB 8 c = true := by
  simp only [letterB, Bool.and_eq_true, decide_eq_true_eq] at *; omega
theorem isW_of_check {k : Int} {l : List UInt8} (h : (checkI k l == 0) = true) : isW l = true := by
  unfold checkI at h
  split at h
  · simp at h
  · split at h
    · simp at h
    · rename_i h1 h2
      split at h
      · rename_i h3
        simp only [isW, Bool.and_eq_true, decide_eq_true_eq]
        refine ⟨by omega, ?_⟩
        rw [List.all_eq_true] at *
        exact fun c hc => letterB_8 (by omega) (h3 c hc)
      · simp at h

set_option maxHeartbeats 400000 in
theorem isRelator_any (k : Int) (l : List UInt8) (w : World) (ht : Tabs w) (hs : l.length ≤ 140737488351232) :
    Calls Tryz.prog 65 #[.int .i64 k, .string ⟨l.toArray⟩] w fun e w' => e = .returned (.bool (relB k l)) ∧ Below w.heap.size w w' := by
  have HT := Lib.hid ht
  clear ht
  have hC := check_any k ⟨l.toArray⟩ w HT.out (by rw [size_mk]; unfold maxLen; omega)
  change Calls Tryz.prog 76 #[.int .i64 k, .string ⟨l.toArray⟩] w (fun e w' => e = .returned (.int .i64 (checkI k l)) ∧ w = w') at hC
  by_cases hl : l = []
  · subst hl
    go_enter Tryz.func65, Tryz.ntmps65
    go_wp2
    go_ret
    exact ⟨rfl, Below.refl _ _⟩
  have hne : (l == []) = false := by simpa using hl
  have hne2 : (!(l == [])) = true := by simpa using hl
  cases hc : (checkI k l == 0) with
  | false =>
    have HR : Hid (relB k l = false) := Lib.hid (by simp only [relB, hc]; simp)
    generalize checkI k l = c at *
    go_enter Tryz.func65, Tryz.ntmps65
    go_wp2_with fail
    refine hC.mono ?_
    rintro e w1 ⟨rfl, rfl⟩
    go_wp2
    go_ret
    exact ⟨ret_bool HR.out.symm, Below.refl _ _⟩
  | true =>
    have hR := Reduce_yes ⟨l.toArray⟩ w HT.out (isW_of_check hc) (by rw [size_mk]; omega)
    change Calls Tryz.prog 118 #[.string ⟨l.toArray⟩] w (fun e w' => e = .returned (.string ⟨(red l).toArray⟩) ∧ Below w.heap.size w w') at hR
    have HR : Hid (relB k l = (red l == l)) := Lib.hid (by simp only [relB, hc]; simp [hl])
    generalize checkI k l = c at *
    generalize red l = r at *
    go_enter Tryz.func65, Tryz.ntmps65
    go_wp2_with fail
    refine hC.mono ?_
    rintro e w1 ⟨rfl, rfl⟩
    go_wp2_with fail
    refine hR.mono ?_
    rintro e w1 ⟨rfl, hb⟩
    have HB := Lib.hid hb
    clear hb
    go_wp2
    go_ret
    exact ⟨ret_bool (by rw [HR.out]), HB.out⟩

/-! CHECK. -/
abbrev prV (k : Int) (R : Option Addr) (n rc : Nat) : Value := .agg #[.int .i64 k, .slice R n rc]
abbrev prC (k : Int) (R : Option Addr) (n rc : Nat) : Array Value := #[.int .i64 k, .slice R n rc]
theorem chkP_arg {p : Pr} (h : p.k < 1 ∨ 8 < p.k) : chkP p = 1 := by unfold chkP; rw [if_pos h]
theorem chkP_lim {p : Pr} (h1 : 1 ≤ p.k) (h2 : p.k ≤ 8) (h : 60 < p.rels.length ∨ p.rels.any longB = true) : chkP p = 2 := by unfold chkP; rw [if_neg (by omega), if_pos h]
theorem chkP_rest {p : Pr} (h1 : 1 ≤ p.k) (h2 : p.k ≤ 8) (h3 : p.rels.length ≤ 60) (h4 : p.rels.any longB = false) : chkP p = if p.rels.all (relB p.k) then 0 else 4 := by
  unfold chkP; rw [if_neg (by omega), if_neg (by rw [h4]; simp; omega)]

set_option maxHeartbeats 1000000 in
set_option maxRecDepth 100000 in
theorem Check_any (p : Pr) (R : Option Addr) (rc : Nat) (w : World) (ht : Tabs w) (hr : StrsAt w R p.rels) (hm : p.rels.length ≤ maxLen) :
    Calls Tryz.prog 18 #[prV p.k R p.rels.length rc] w fun e w' => e = .returned (.int .i64 (chkP p)) ∧ Below w.heap.size w w' := by
  have HT := Lib.hid ht
  clear ht
  have HBX := Lib.hid (Boxd.start w (prC p.k R p.rels.length rc) 24)
  have HM := Lib.hid hm
  unfold maxLen at hm
  by_cases h1 : p.k < 1
  · have HR := Lib.hid (chkP_arg (p := p) (.inl h1))
    have hd : decide (p.k < 1) = true := by simpa using h1
    clear hr
    generalize p.rels.length = n at *
    go_enter Tryz.func18, Tryz.ntmps18
    go_wp2
    go_ret
    exact ⟨ret_int HR.out.symm, HBX.out.old⟩
  have hd1 : decide (p.k < 1) = false := by simpa using h1
  by_cases h2 : 8 < p.k
  · have HR := Lib.hid (chkP_arg (p := p) (.inr h2))
    have hd : decide (8 < p.k) = true := by simpa using h2
    clear hr
    generalize p.rels.length = n at *
    go_enter Tryz.func18, Tryz.ntmps18
    go_wp2
    go_ret
    exact ⟨ret_int HR.out.symm, HBX.out.old⟩
  have hd2 : decide (8 < p.k) = false := by simpa using h2
  by_cases h3 : 60 < p.rels.length
  · have HR := Lib.hid (chkP_lim (p := p) (by omega) (by omega) (.inl h3))
    have hd : decide ((60 : Int) < (p.rels.length : Int)) = true := by simp; omega
    have hd' : decide (60 < p.rels.length) = true := by simpa using h3
    clear hr
    generalize p.rels.length = n at *
    go_enter Tryz.func18, Tryz.ntmps18
    go_wp2
    go_ret
    exact ⟨ret_int HR.out.symm, HBX.out.old⟩
  have hd3 : decide ((60 : Int) < (p.rels.length : Int)) = false := by simp; omega
  have hd3' : decide (60 < p.rels.length) = false := by simpa using h3
  have HREL := Lib.hid hr
  have hA := anyLong R rc p.rels _ (hr.below HBX.out.old) hm
  clear hr
  cases h4 : p.rels.any longB with
  | true =>
    have HR := Lib.hid (chkP_lim (p := p) (by omega) (by omega) (.inr h4))
    rw [h4] at hA
    clear h4
    generalize p.rels.length = n at *
    go_enter Tryz.func18, Tryz.ntmps18
    go_wp2_with fail
    refine hA.mono ?_
    rintro e w1 ⟨rfl, rfl⟩
    go_wp2
    go_ret
    exact ⟨ret_int HR.out.symm, HBX.out.old⟩
  | false =>
  have HR := Lib.hid (chkP_rest (p := p) (by omega) (by omega) (by omega) h4)
  rw [h4] at hA
  clear h4
  go_enter Tryz.func18, Tryz.ntmps18
  go_wp2_with fail
  refine hA.mono ?_
  rintro e w1 ⟨rfl, rfl⟩
  go_wp2
  go_loopw [4, 25] (fun _ i wr => ∃ n : Nat, n ≤ p.rels.length ∧ i = .int .i64 n ∧ (p.rels.take n).all (relB p.k) = true ∧ Boxd w (prC p.k R p.rels.length rc) 24 wr) (fun _ i _ => p.rels.length - (intOf i).toNat)
  case atStart => exact ⟨0, Nat.zero_le _, rfl, rfl, HBX.out⟩
  case round =>
    obtain ⟨n, hn, rfl, hall, hbx⟩ := hrel
    have HA := Lib.hid hall
    have HX := Lib.hid hbx
    clear hall hbx
    by_cases hlt : n < p.rels.length
    · have HS := Lib.hid (all_take_succL p.rels (relB p.k) n hlt)
      have HN := Lib.hid (all_noL p.rels (relB p.k) n hlt)
      obtain ⟨b, o, hR, hc, hl⟩ := (HREL.out.below HX.out.old) n hlt
      have c0 := HX.out.cell 0
      have hsz := HX.out.size
      have hI := isRelator_any p.k p.rels[n] wr (HT.out.on HX.out.old) hl
      subst hR
      simp only [List.getElem?_toArray, List.getElem?_cons_zero] at c0
      clear hl
      cases hb : relB p.k p.rels[n] with
      | false =>
        rw [hb] at hI
        have HZ := Lib.hid (HN.out hb)
        clear hb
        generalize p.rels[n] = r at *
        go_wp2_with fail
        refine hI.mono ?_
        rintro e w1 ⟨rfl, hb⟩
        have HB := Lib.hid (HX.out.on hb).old
        clear hb
        go_wp2
        go_ret
        exact ⟨ret_int (by rw [HR.out, HZ.out]; rfl), HB.out⟩
      | true =>
        rw [hb] at hI HS
        clear hb
        generalize p.rels[n] = r at *
        go_wp2_with fail
        refine hI.mono ?_
        rintro e w1 ⟨rfl, hb⟩
        have HB := Lib.hid hb
        clear hb
        go_wp2
        go_roundw
        case rel => exact ⟨n + 1, by omega, by go_num, by rw [HS.out, HA.out]; rfl, HX.out.on HB.out⟩
        case measure => simp [intOf]; omega
    · obtain rfl : n = p.rels.length := by omega
      have HZ : Hid (p.rels.all (relB p.k) = true) := Lib.hid (by have := HA.out; rwa [List.take_length] at this)
      go_wp2
      go_ret
      exact ⟨ret_int (by rw [HR.out, HZ.out]; rfl), HX.out.old⟩
end Go.Proofs.YteephomlnbbjeaaGreatDoor
