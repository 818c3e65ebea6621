/-
  Our own text, in the proofs of the laws of package disk (cayleylaw04). Proved here: rows of bytes in memory: read, append, []byte(s), string(b). Conditions: none but bounds.
-/
import Derived.Test.YtbcckfggnlmhoaaAa
import Derived.Test.YtbcckfggnlmhoaaRows
import Derived.WalkKit
import Derived.WalkSpells
import Derived.WalkLawsBesides
import Derived.WalkSmall
import Derived.OwnWalk
import Derived.Laws.BytesString
import Derived.Laws.BitsAllLaws
import Derived.Laws.EntriesVeiled
import Derived.Lib.AppendStr
import Derived.Lib.ConvBytes
import Derived.Laws.CopyOwn
import Derived.ArgAppend
import Derived.Deep.QuietTactic
import Derived.BigQuiet
namespace Go.Proofs.Ytbcckfggnlmhoaa
open Go Go.RowKit

theorem Try.info5 : (Try.prog.info? 5).map (fun i => (i.zero, i.size, i.bytes)) = some (some (.int .u8 0), 1, 1) := by kernel_rfl

theorem lt_of_cell {w : World} {a : Addr} {v : Value} (h : w.cell? a = some v) : a.block < w.heap.size := by
  rcases Nat.lt_or_ge a.block w.heap.size with h' | h'
  · exact h'
  · simp [World.cell?, Array.getElem?_eq_none h'] at h
theorem _root_.Go.RowKit.Below.drewN {B : Nat} {a w : World} (h : Below B a w) (n : Nat) : Below B a (w.drewN n) := ⟨h.os, h.tape, h.output, h.size, h.block⟩

/-- The cells of a row of bytes. -/
def bs (l : List UInt8) : List Value := l.map fun c => Value.int .u8 c.toNat
theorem bs_append (l m : List UInt8) : bs (l ++ m) = bs l ++ bs m := by simp [bs]
theorem bs_len (l : List UInt8) : (bs l).length = l.length := by simp [bs]
theorem bs_get (l : List UInt8) (i : Nat) (h : i < l.length) : (bs l)[i]? = some (.int .u8 (l[i]).toNat) := by simp [bs, h]
theorem bs_set (l : List UInt8) (n : Nat) (c : UInt8) : bs (l.set n c) = (bs l).set n (.int .u8 c.toNat) := by simp [bs, List.map_set]

theorem ret_int {k : IntKind} {a b : Int} (h : a = b) : Ending.returned (.int k a) = .returned (.int k b) := by rw [h]
theorem ret_bool {a b : Bool} (h : a = b) : Ending.returned (.bool a) = .returned (.bool b) := by rw [h]
theorem ret_str {a b : List UInt8} (h : a = b) : Ending.returned (.string ⟨a.toArray⟩) = .returned (.string ⟨b.toArray⟩) := by rw [h]
theorem size_mk (l : List UInt8) : (ByteArray.mk l.toArray).size = l.length := by simp [ByteArray.size]

/-- A row of bytes that can be read. -/
def RowAt (w : World) (A : Option Addr) (l : List UInt8) : Prop :=
  ∀ i (h : i < l.length), ∃ b o, A = some ⟨b, o, none⟩ ∧ w.cell? ⟨b, o + i, none⟩ = some (.int .u8 (l[i]).toNat)
theorem RowAt.below {w w' : World} {A : Option Addr} {l : List UInt8} (h : RowAt w A l) (hb : Below w.heap.size w w') : RowAt w' A l := by
  intro i hi
  obtain ⟨b, o, hA, hc⟩ := h i hi
  exact ⟨b, o, hA, (hb.cell (p := ⟨b, o + i, none⟩) (lt_of_cell hc)).trans hc⟩
theorem RowAt.grown {w w' : World} {A : Option Addr} {l : List UInt8} {row : Option Nat} (h : RowAt w A l) (hg : w.grownBy w' row) (hne : ∀ a, A = some a → row ≠ some a.block) : RowAt w' A l := by
  intro i hi
  obtain ⟨b, o, hA, hc⟩ := h i hi
  exact ⟨b, o, hA, hg.cell hc (fun e => hne _ hA e.symm)⟩
theorem RowAt.drewN {w : World} {A : Option Addr} {l : List UInt8} (h : RowAt w A l) (k : Nat) : RowAt (w.drewN k) A l := h

theorem rowAt_own {w : World} {B n cap : Nat} {A : Option Addr} {l : List UInt8} (h : w.ownsRow B 5 1 (.slice A n cap) n (bs l)) : RowAt w A l := by
  intro i hi
  have hl : l.length = n := by have := h.1; simpa [bs_len] using this
  rcases h.2 with ⟨h2, h3⟩ | ⟨g, c', cur, hv, hg, hh, hnc, hcm, hcs, ht⟩
  · omega
  · simp only [Value.slice.injEq, true_and] at hv
    obtain ⟨rfl, rfl⟩ := hv
    refine ⟨g, 0, rfl, ?_⟩
    rw [Nat.zero_add, cell_of_row w g i cur 5 (0, 0) hh]
    have : (cur.toList.take (n * 1))[i]? = (bs l)[i]? := by rw [ht]
    rw [List.getElem?_take, if_pos (by omega), bs_get l i hi] at this
    simpa using this

theorem own_shape {w : World} {B e s n cap : Nat} {A : Option Addr} {xs : List Value} (h : w.ownsRow B e s (.slice A n cap) n xs) : (A = none ∧ n = 0 ∧ cap = 0) ∨ ∃ g, A = some ⟨g, 0, none⟩ ∧ B ≤ g ∧ g < w.heap.size := by
  rcases h.2 with ⟨h2, h3⟩ | ⟨g, c', cur, hv, hg, hh, _⟩
  · simp only [Value.slice.injEq] at h2; exact .inl ⟨h2.1, h3, h2.2.2⟩
  · simp only [Value.slice.injEq, true_and] at hv
    exact .inr ⟨g, hv.1, hg, (Array.getElem?_eq_some_iff.1 hh).1⟩

theorem foldl_push_bytes (l : List UInt8) : ∀ s : ByteArray, (l.map fun c => (c.toNat : Int)).foldl (fun (r : ByteArray) n => r.push (UInt8.ofNat n.toNat)) s = ⟨s.data ++ l.toArray⟩ := by
  induction l with
  | nil => intro s; simp
  | cons c l ih =>
    intro s
    rw [List.map_cons, List.foldl_cons, ih]
    cases s with | mk d =>
    show ByteArray.mk (d.push _ ++ l.toArray) = ByteArray.mk (d ++ (c :: l).toArray)
    congr 1
    apply Array.ext'
    simp

theorem add_lit (b o i : Nat) : (⟨b, o, none⟩ : Addr).add i = ⟨b, o + i, none⟩ := by unfold Addr.add; split <;> simp_all

/-- string(u). -/
theorem run_string_row (w : World) (A : Option Addr) (cap : Nat) (l : List UInt8) (h : RowAt w A l) :
    (convert 58 9 (.slice A l.length cap)).run Try.prog w = .ok (.string ⟨l.toArray⟩) w := by
  cases l with
  | nil =>
    rw [run_convert_bytes_string w 58 9 5 A _ cap Try.underlying58 Try.underlying5 Try.underlying9]
    cases A with
    | none => simp [Conv.bytesToString, Sem.run_pure]; rfl
    | some ad =>
      rw [run_bytesToString w ad _ cap [] (by simpa using run_loadCells_list (P := Try.prog) (w := w) ad [] (by simp))]
      rfl
  | cons c t =>
    obtain ⟨b, o, rfl, _⟩ := h 0 (by simp)
    rw [run_convert_bytes_string w 58 9 5 _ _ cap Try.underlying58 Try.underlying5 Try.underlying9]
    have hc : ∀ j u, (bs (c :: t))[j]? = some u → w.cell? ((⟨b, o, none⟩ : Addr).add j) = some u := by
      intro j u hu
      have hj : j < (c :: t).length := by
        rcases Nat.lt_or_ge j (bs (c :: t)).length with h | h
        · simpa [bs_len] using h
        · rw [List.getElem?_eq_none h] at hu; cases hu
      obtain ⟨b', o', he, hcc⟩ := h j hj
      simp only [Option.some.injEq, Addr.mk.injEq, and_true] at he
      obtain ⟨rfl, rfl⟩ := he
      rw [add_lit, hcc, ← hu, bs_get _ _ hj]
    have hrun := run_loadCells_list (P := Try.prog) (w := w) (⟨b, o, none⟩ : Addr) (bs (c :: t)) hc
    rw [bs_len] at hrun
    have e2 : bs (c :: t) = ((c :: t).map fun c => (c.toNat : Int)).map (Value.int .u8) := by simp [bs]
    rw [e2] at hrun
    rw [run_bytesToString w _ _ cap _ hrun, foldl_push_bytes]
    congr 2
    show ByteArray.mk (#[] ++ (c :: t).toArray) = _
    simp

/-- []byte(s): the value, the world. -/
theorem run_bytes (w : World) (l : List UInt8) :
    ∃ w' cap, (convert 9 58 (.string ⟨l.toArray⟩)).run Try.prog w = .ok (.slice (some ⟨w.heap.size, 0, none⟩) l.length cap) w' ∧ RowAt w' (some ⟨w.heap.size, 0, none⟩) l ∧ Below w.heap.size w w' ∧ l.length ≤ cap := by
  refine ⟨_, _, Lib.run_convert_string_bytes w 9 58 5 ⟨l.toArray⟩ Try.underlying9 Try.underlying58 Try.underlying5, ?_, ?_, grownCap_ge w l.length 0 5⟩
  · intro i hi
    refine ⟨w.heap.size, 0, rfl, ?_⟩
    rw [Nat.zero_add, cell_of_row _ w.heap.size i _ 5 _ (Lib.bytesWorld_at_new w 5 _)]
    simp only [Lib.bytesCells]
    rw [Array.getElem?_append_left (by simpa [ByteArray.size] using hi)]
    simp [hi]
  · exact ⟨rfl, rfl, rfl, by rw [Lib.bytesWorld_size]; omega, fun k hk => Lib.bytesWorld_at_old w 5 _ k hk⟩

theorem news_one (w : World) (v : Value) (t : TypeId) : ∀ (j : Nat) u, ([v] : List Value)[j]? = some u → (w.alloc (.cells #[v] t)).cell? ((⟨w.heap.size, 0, none⟩ : Addr).add j) = some u := by
  intro j u hu
  match j, hu with
  | 0, hu =>
    simp at hu; subst hu
    have hb : (w.alloc (.cells #[v] t)).heap[w.heap.size]? = some (.cells #[v] t (0, 0)) := heap_alloc_new w _
    have := cell_of_row (w.alloc (.cells #[v] t)) w.heap.size 0 #[v] t (0, 0) hb
    simp [Addr.add, this]

/-- The block of a slice's row. -/
def blk (A : Option Addr) : Option Nat := A.map (·.block)
theorem ownBlock_slice (A : Option Addr) (n c : Nat) : (Value.slice A n c).ownBlock = blk A := by cases A <;> rfl
/-- Behind an append: the row stands where it stood, or is new. -/
def Moved (w : World) (A A' : Option Addr) : Prop := blk A' = blk A ∨ ∀ k, blk A' = some k → w.heap.size ≤ k
theorem Moved.refl (w : World) (A : Option Addr) : Moved w A A := .inl rfl
theorem Moved.trans {w w1 : World} {A B C : Option Addr} (h1 : Moved w A B) (h2 : Moved w1 B C) (hs : w.heap.size ≤ w1.heap.size) : Moved w A C := by
  rcases h2 with h2 | h2
  · rcases h1 with h1 | h1
    · exact .inl (h2.trans h1)
    · exact .inr fun k hk => h1 k (h2 ▸ hk)
  · exact .inr fun k hk => Nat.le_trans hs (h2 k hk)
theorem grown_trans {w w1 w2 : World} {A A1 : Option Addr} (h1 : w.grownBy w1 (blk A)) (h2 : w1.grownBy w2 (blk A1)) (hm : Moved w A A1) : w.grownBy w2 (blk A) :=
  ⟨h2.os.trans h1.os, h2.tape.trans h1.tape, h2.output.trans h1.output, Nat.le_trans h1.size h2.size, fun k hk hne => by
    rw [h2.block k (by have := h1.size; omega) (fun e => by rcases hm with h | h; exact hne (e.trans h); have := h k e.symm; omega), h1.block k hk hne]⟩
theorem grown_refl (w : World) (r : Option Nat) : w.grownBy w r := ⟨rfl, rfl, rfl, Nat.le_refl _, fun _ _ _ => rfl⟩
theorem grown_drewN {w w' : World} {r : Option Nat} (h : w.grownBy w' r) (n : Nat) : w.grownBy (w'.drewN n) r := ⟨h.os, h.tape, h.output, h.size, h.block⟩
theorem grown_below {w w1 w2 : World} {r : Option Nat} (h : w.grownBy w1 r) (hb : Below w1.heap.size w1 w2) : w.grownBy w2 r :=
  ⟨hb.os.trans h.os, hb.tape.trans h.tape, hb.output.trans h.output, Nat.le_trans h.size hb.size, fun k hk hne => (hb.block k (by have := h.size; omega)).trans (h.block k hk hne)⟩

theorem own_base {w : World} {B B' e s n : Nat} {v : Value} {xs : List Value} (h : w.ownsRow B e s v n xs) (hb : B' ≤ B) : w.ownsRow B' e s v n xs := by
  obtain ⟨h1, h2⟩ := h
  refine ⟨h1, ?_⟩
  rcases h2 with h2 | ⟨g, cap, cur, hv, hg, r⟩
  · exact .inl h2
  · exact .inr ⟨g, cap, cur, hv, Nat.le_trans hb hg, r⟩

/-- append to a row of the call's own, elements of whatever type: where the row stands behind it. -/
theorem append_gen {P : Program} {ops : Array Oper} {rest : List Oper} {o : Oper} {a : Act} {Q : Exit → Act → World → Prop} (w : World) (hgd : o.guard = none) (s x : Operand) (t : TypeId)
    (ho : o.op = .call { callee := .builtin .append, args := #[s, x], argTypes := #[t, t] })
    (e : TypeId) (i : TypeInfo) (z : Value) (size bytes : Nat) (h1 : P.underlying t = some (.slice e)) (h2 : P.info? e = some i) (h3 : i.zero = some z) (h4 : i.size = size) (h5 : i.bytes = bytes) (h6 : z.cells.size = size) (h7 : 0 < size)
    (B : Nat) (A : Option Addr) (n cap : Nat) (xs : List Value) (hs : a.eval s = .slice A n cap) (hown : w.ownsRow B e size (.slice A n cap) n xs)
    (ad : Addr) (m c : Nat) (news : List Value) (hx : a.eval x = .slice (some ad) m c) (hn : news.length = m * size) (hc : ∀ j u, news[j]? = some u → w.cell? (ad.add j) = some u) (h1c : ∀ u ∈ news, u.oneCell' = true)
    (b1 : n + m ≤ maxLen) (b2 : (n + m) * bytes ≤ 140737488355328) (hB : B ≤ w.heap.size)
    (h : ∀ A' cap' w', w'.ownsRow B e size (.slice A' (n + m) cap') (n + m) (xs ++ news) → w.grownBy w' (blk A) → Moved w A A' → wpList P ops Q rest (a.put o.dst (.slice A' (n + m) cap')) w') :
    wpList P ops Q (o :: rest) a w := by
  have hsh := own_shape hown
  rcases Nat.lt_or_ge cap (n + m) with hfull | hroom
  · refine wpList_append_grows w hgd s x t ho e i z size bytes h1 h2 h3 h4 h5 h6 h7 A n cap xs hs ?_ hown.1 ?_ ad m c news hx hn hc h1c hfull b1 b2 ?_
    · intro hA; rcases hsh with ⟨_, h2, h3⟩ | ⟨g, h, _⟩
      · exact ⟨h2, h3⟩
      · rw [h] at hA; cases hA
    · intro b hb j u hj
      subst hb
      exact hown.cells (g := b.block) rfl j u hj |> fun hh => by
        rcases hsh with ⟨h, _⟩ | ⟨g, h, _⟩
        · cases h
        · cases h; exact hh
    · intro v' w' hown' hgrow
      rcases hown'.2 with ⟨rfl, h0⟩ | ⟨g, c', cur, rfl, hg, _⟩
      · omega
      · exact h _ _ w' (own_base hown' hB) ⟨hgrow.os, hgrow.tape, hgrow.output, hgrow.size, fun k hk _ => hgrow.block k hk (by simp)⟩ (.inr fun k hk => by cases hk; exact hg)
  · cases A with
    | none =>
      rcases hsh with ⟨_, rfl, rfl⟩ | ⟨g, h, _⟩
      · obtain rfl : m = 0 := by omega
        obtain rfl : news = [] := List.eq_nil_of_length_eq_zero (by simpa using hn)
        refine wpList_append_own w hgd s x t ho B e i z size bytes h1 h2 h3 h4 h5 h6 h7 _ 0 xs hs hown ad 0 c [] hx hn hc h1c b1 b2 hB ?_
        intro v' w' hown' hgrow hiff
        obtain rfl : v' = .slice none 0 0 := hiff.2 ⟨rfl, rfl⟩
        exact h none 0 w' hown' hgrow (.inl rfl)
      · cases h
    | some b =>
      obtain ⟨g, hg⟩ : ∃ g, some b = some ⟨g, 0, none⟩ := by
        rcases hsh with ⟨h, _⟩ | ⟨g, h, _⟩
        · cases h
        · exact ⟨g, h⟩
      cases hg
      refine wpList_append_fits _ hgd s x t ho B e i size h1 h2 h4 g n cap xs hs hown ad m c news hx hn hc h1c hroom ?_
      intro w' hown' hgrow
      exact h _ _ _ hown' hgrow (.inl rfl)

/-- append of one byte, by its literal slice, to a row of the call's own. -/
theorem append_one {ops : Array Oper} {rest : List Oper} {o : Oper} {a : Act} {Q : Exit → Act → World → Prop} (w : World) (hgd : o.guard = none) (s x : Operand)
    (ho : o.op = .call { callee := .builtin .append, args := #[s, x], argTypes := #[58, 58] })
    (B : Nat) (A : Option Addr) (n cap : Nat) (l : List UInt8) (c : UInt8) (hs : a.eval s = .slice A n cap) (hown : w.ownsRow B 5 1 (.slice A n cap) n (bs l))
    (v : Value) (hv : v = .int .u8 c.toNat) (hx : a.eval x = .slice (some ⟨w.heap.size, 0, none⟩) 1 1) (hn : n ≤ 1000000000000) (hB : B ≤ w.heap.size)
    (h : ∀ A' cap' w', w'.ownsRow B 5 1 (.slice A' (n + 1) cap') (n + 1) (bs (l ++ [c])) → w.grownBy w' (blk A) → Moved w A A' → wpList Try.prog ops Q rest (a.put o.dst (.slice A' (n + 1) cap')) w') :
    wpList Try.prog ops Q (o :: rest) a (w.alloc (.cells #[v] 5)) := by
  subst hv
  obtain ⟨i0, hi, hz0, hz1, hz2⟩ := info_parts Try.info5
  refine append_gen _ hgd s x 58 ho 5 i0 (.int .u8 0) 1 1 Try.underlying58 hi hz0 hz1 hz2 rfl (by decide) B A n cap (bs l) hs (hown.alloc _) ⟨w.heap.size, 0, none⟩ 1 1 [.int .u8 c.toNat] hx rfl (news_one w _ _) (by intro u hu; simp at hu; subst hu; rfl) (by unfold maxLen; omega) (by omega) (by simp; omega) ?_
  intro A' cap' w' hown' hgrow hm
  refine h A' cap' w' (by rw [bs_append]; exact hown') (grown_trans (World.grownBy_alloc w _ (blk A)) hgrow (.inl rfl)) ?_
  rcases hm with hm | hm
  · exact .inl hm
  · exact .inr fun k hk => by have := hm k hk; simp at this; omega
end Go.Proofs.Ytbcckfggnlmhoaa
