/-
  Our own text, in the proofs of the laws of package disk (cayleylaw04). Proved here: a map with keys of type int that the call has made, as a partial function from numbers to values: made, asked with 'ok', written. No condition.
-/
import Derived.Test.YtbcckfggnlmhoaaIc
import Derived.Maps.OwnOps
import Derived.Maps.Views
namespace Go.Proofs.Ytbcckfggnlmhoaa
open Go Go.RowKit

/-- Whatever the elements are: each reads as itself. -/
def heldR (v : Value) : Option (DataW Value × List MemPlace) := some (.held v, [])
/-- What a map's datum says of a key. -/
def memoD (f : Int → Option Value) (k : Int) (z : DataW Value) : DataW Value := match f k with | some v => .held v | none => z
/-- Block mb is a map of at most n entries, which reads as f. -/
def MemoAt (w : World) (mb n : Nat) (f : Int → Option Value) : Prop :=
  ∃ D : DataW Value, Maps.IsMap D ∧ w.ownsMap Try.prog 3 heldR mb n D ∧ ∀ (k : Int) (z : DataW Value), (Lit.int .i64 k).wf = true → D.atKey (.int .i64 k) z = memoD f k z

theorem keyed3 : Maps.Keyed Try.prog 3 := Maps.int_keyed Try.underlying3

theorem memo_made (w : World) : MemoAt (w.alloc (.map #[] 0)) w.heap.size 0 (fun _ => none) :=
  ⟨.map [], ⟨[], rfl⟩, World.ownsMap_made _ _ _ _, fun _ _ _ => rfl⟩
theorem MemoAt.kept {w w' : World} {mb n : Nat} {f : Int → Option Value} (h : MemoAt w mb n f) {row : Option Nat} (hg : w.grownBy w' row) (hne : some mb ≠ row) : MemoAt w' mb n f := by
  obtain ⟨D, h1, h2, h3⟩ := h
  exact ⟨D, h1, h2.kept hg hne, h3⟩
theorem MemoAt.lt {w : World} {mb n : Nat} {f : Int → Option Value} (h : MemoAt w mb n f) : mb < w.heap.size := by
  obtain ⟨D, h1, h2, h3⟩ := h
  exact h2.lt
theorem MemoAt.block {w w' : World} {mb n : Nat} {f : Int → Option Value} (h : MemoAt w mb n f) (hb : w'.heap[mb]? = w.heap[mb]?) : MemoAt w' mb n f := by
  obtain ⟨D, h1, ⟨es, clock, h2, h4⟩, h3⟩ := h
  exact ⟨D, h1, ⟨es, clock, hb.trans h2, h4⟩, h3⟩
theorem MemoAt.mono {w : World} {mb n m : Nat} {f : Int → Option Value} (h : MemoAt w mb n f) (hn : n ≤ m) : MemoAt w mb m f := by
  obtain ⟨D, h1, h2, h3⟩ := h
  exact ⟨D, h1, h2.mono hn, h3⟩

theorem MemoAt.look {w : World} {mb n : Nat} {f : Int → Option Value} (h : MemoAt w mb n f) {T e : TypeId} (ht : Try.prog.underlying T = some (.map 3 e)) {z : Value} (hz : (zeroValue e).run Try.prog w = .ok z w)
    (k : Int) (hk : (Lit.int .i64 k).wf = true) :
    (f k = none ∧ (Instr.lookup T (.map (some mb)) (.int .i64 k) true).run Try.prog w = .ok (.tuple #[z, .bool false]) w) ∨
    (∃ v, f k = some v ∧ (Instr.lookup T (.map (some mb)) (.int .i64 k) true).run Try.prog w = .ok (.tuple #[v, .bool true]) w) := by
  obtain ⟨D, h1, ⟨es, clock, hb, F, _, rfl⟩, h3⟩ := h
  have hkey := Maps.keyOf_int_mk (P := Try.prog) Try.underlying3 hk
  rcases Maps.fit_look true keyed3 ht hz hb F hkey with ⟨hrun, _, hat⟩ | ⟨e0, y, _, _, hrun, hRv, hat, _⟩
  · left
    refine ⟨?_, hrun⟩
    have h4 := h3 k .nil hk
    have h5 := h3 k (.held .nilFunc) hk
    rw [hat] at h4 h5
    unfold memoD at h4 h5
    cases hf : f k with
    | none => rfl
    | some v => rw [hf] at h4; cases h4
  · right
    refine ⟨e0.val, ?_, hrun⟩
    have h4 := h3 k .nil hk
    rw [hat] at h4
    simp only [heldR, Option.some.injEq] at hRv
    subst hRv
    unfold memoD at h4
    cases hf : f k with
    | none => rw [hf] at h4; cases h4
    | some v => rw [hf] at h4; simp only [DataW.held.injEq] at h4; rw [h4]

theorem MemoAt.look_none {w : World} {mb n : Nat} {f : Int → Option Value} (h : MemoAt w mb n f) {T e : TypeId} (ht : Try.prog.underlying T = some (.map 3 e)) {z : Value} (hz : (zeroValue e).run Try.prog w = .ok z w)
    (k : Int) (hk : (Lit.int .i64 k).wf = true) (hf : f k = none) : (Instr.lookup T (.map (some mb)) (.int .i64 k) true).run Try.prog w = .ok (.tuple #[z, .bool false]) w := by
  rcases h.look ht hz k hk with ⟨_, h2⟩ | ⟨v, h1, _⟩
  · exact h2
  · rw [hf] at h1; cases h1
theorem MemoAt.look_some {w : World} {mb n : Nat} {f : Int → Option Value} (h : MemoAt w mb n f) {T e : TypeId} (ht : Try.prog.underlying T = some (.map 3 e)) {z : Value} (hz : (zeroValue e).run Try.prog w = .ok z w)
    (k : Int) (hk : (Lit.int .i64 k).wf = true) {v : Value} (hf : f k = some v) : (Instr.lookup T (.map (some mb)) (.int .i64 k) true).run Try.prog w = .ok (.tuple #[v, .bool true]) w := by
  rcases h.look ht hz k hk with ⟨h1, _⟩ | ⟨u, h1, h2⟩
  · rw [hf] at h1; cases h1
  · rw [hf] at h1; cases h1; exact h2

/-- f, and v at k. -/
def putF (f : Int → Option Value) (k : Int) (v : Value) : Int → Option Value := fun j => if j = k then some v else f j

theorem MemoAt.put {w : World} {mb n : Nat} {f : Int → Option Value} (h : MemoAt w mb n f) {T e : TypeId} (ht : Try.prog.underlying T = some (.map 3 e)) (hn : n < maxLen)
    (k : Int) (hk : (Lit.int .i64 k).wf = true) (v : Value) :
    ∃ w', (Instr.mapUpdate T (.map (some mb)) (.int .i64 k) v).run Try.prog w = .ok () w' ∧ MemoAt w' mb (n + 1) (putF f k v) ∧ w.grownBy w' (some mb) := by
  obtain ⟨D, h1, h2, h3⟩ := h
  have hkey := Maps.keyOf_int_mk (P := Try.prog) Try.underlying3 hk
  obtain ⟨w', hr, ho, hg⟩ := h2.update keyed3 ht hn hkey (val := v) (d := .held v) (ps := []) rfl
  refine ⟨w', hr, ⟨_, ?_, ho, ?_⟩, hg⟩
  · obtain ⟨es, rfl⟩ := h1
    exact ⟨_, rfl⟩
  · intro j z hj
    by_cases hjk : j = k
    · subst hjk
      rw [Maps.atKey_put_same h1 (keyed3.key hkey)]
      simp [memoD, putF]
    · rw [Maps.atKey_put_other (by simpa using hjk), h3 j z hj]
      simp [memoD, putF, hjk]

theorem run_makeMap_hint (w : World) (T k e : TypeId) (ht : Try.prog.underlying T = some (.map k e)) (n : Int) : (Instr.makeMap T (some (.int .i64 n))).run Try.prog w = .ok (.map (some w.heap.size)) (w.alloc (.map #[] 0)) := by
  simp [Instr.makeMap, run_underlying ht, asInt, asIntOf, Result.andThen]

theorem wpList_mapUpdate_memo (w : World) {ops : Array Oper} {rest : List Oper} {o : Oper} {a : Act} {Q : Exit → Act → World → Prop}
    (hg : o.guard = none) (m x v : Operand) (T : TypeId) (hop : o.op = Op.mapUpdate T m x v) (e : TypeId) (ht : Try.prog.underlying T = some (.map 3 e)) (mb n : Nat) (f : Int → Option Value)
    (hm : a.eval m = .map (some mb)) (h : MemoAt w mb n f) (hn : n < maxLen) (k : Int) (hx : a.eval x = .int .i64 k) (hk : (Lit.int .i64 k).wf = true) (val : Value) (hv : a.eval v = val)
    (hK : ∀ w', MemoAt w' mb (n + 1) (putF f k val) → w.grownBy w' (some mb) → wpList Try.prog ops Q rest (a.put o.dst undef) w') :
    wpList Try.prog ops Q (o :: rest) a w := by
  refine wpList_plain hg fun K' hK' => ?_
  obtain ⟨w', hrun, r1, r2⟩ := h.put ht hn k hk val
  unfold Oper.wp
  simp [execOp, hop, hm, hx, hv, hrun, Result.andThen]
  exact hK' _ _ (hK w' r1 r2)
end Go.Proofs.Ytbcckfggnlmhoaa
