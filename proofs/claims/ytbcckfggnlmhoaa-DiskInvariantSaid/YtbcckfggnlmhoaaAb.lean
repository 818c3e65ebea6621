/-
  Our own text, in the proofs of the laws of package disk (cayleylaw04). Proved here: rows of bytes in memory: read, append, []byte(s), string(b); isWord and inverseLetter of the program; Index, IsWord, inverted of the reference; Index, inverted, IsWord of the reference; appendReduced of bytes (the program's), reduced (the reference's); reduced, Reduce and Invert of the reference; Reduce and Invert of the reference; slices.Reverse of bytes that the call owns; slices.Clone of bytes, inverseOf of bytes, reduced of the program; reduced, relator, isRel, isRelator, isPresentation of the program; isRel, isRelator, isPresentation of the program; isDisk of the program. Conditions: the arguments lie in memory as the slices say; bounds; where a presentation is named valid, it is.
-/
import Derived.Test.YtbcckfggnlmhoaaAa
import Derived.Test.YtbcckfggnlmhoaaRows
import Derived.WalkKit
import Derived.WalkSpells
import Derived.WalkLawsBesides
import Derived.WalkSmall
import Derived.OwnWalk
import Derived.Laws.BytesString
import Derived.Laws.BitsAllLaws
import Derived.Laws.EntriesVeiled
import Derived.Lib.AppendStr
import Derived.Lib.ConvBytes
import Derived.Laws.CopyOwn
import Derived.ArgAppend
import Derived.Deep.QuietTactic
import Derived.BigQuiet
import Derived.RegionTactic
import Derived.BigRegion
namespace Go.Proofs.Ytbcckfggnlmhoaa
open Go Go.RowKit

theorem Try.info5 : (Try.prog.info? 5).map (fun i => (i.zero, i.size, i.bytes)) = some (some (.int .u8 0), 1, 1) := by kernel_rfl

theorem lt_of_cell {w : World} {a : Addr} {v : Value} (h : w.cell? a = some v) : a.block < w.heap.size := by
  rcases Nat.lt_or_ge a.block w.heap.size with h' | h'
  · exact h'
  · simp [World.cell?, Array.getElem?_eq_none h'] at h
theorem _root_.Go.RowKit.Below.drewN {B : Nat} {a w : World} (h : Below B a w) (n : Nat) : Below B a (w.drewN n) := ⟨h.os, h.tape, h.output, h.size, h.block⟩

/-- The cells of a row of bytes. -/
def bs (l : List UInt8) : List Value := l.map fun c => Value.int .u8 c.toNat
theorem bs_append (l m : List UInt8) : bs (l ++ m) = bs l ++ bs m := by simp [bs]
theorem bs_len (l : List UInt8) : (bs l).length = l.length := by simp [bs]
theorem bs_get (l : List UInt8) (i : Nat) (h : i < l.length) : (bs l)[i]? = some (.int .u8 (l[i]).toNat) := by simp [bs, h]
theorem bs_set (l : List UInt8) (n : Nat) (c : UInt8) : bs (l.set n c) = (bs l).set n (.int .u8 c.toNat) := by simp [bs, List.map_set]

theorem ret_int {k : IntKind} {a b : Int} (h : a = b) : Ending.returned (.int k a) = .returned (.int k b) := by rw [h]
theorem ret_bool {a b : Bool} (h : a = b) : Ending.returned (.bool a) = .returned (.bool b) := by rw [h]
theorem ret_str {a b : List UInt8} (h : a = b) : Ending.returned (.string ⟨a.toArray⟩) = .returned (.string ⟨b.toArray⟩) := by rw [h]
theorem size_mk (l : List UInt8) : (ByteArray.mk l.toArray).size = l.length := by simp [ByteArray.size]

/-- A row of bytes that can be read. -/
def RowAt (w : World) (A : Option Addr) (l : List UInt8) : Prop :=
  ∀ i (h : i < l.length), ∃ b o, A = some ⟨b, o, none⟩ ∧ w.cell? ⟨b, o + i, none⟩ = some (.int .u8 (l[i]).toNat)
theorem RowAt.below {w w' : World} {A : Option Addr} {l : List UInt8} (h : RowAt w A l) (hb : Below w.heap.size w w') : RowAt w' A l := by
  intro i hi
  obtain ⟨b, o, hA, hc⟩ := h i hi
  exact ⟨b, o, hA, (hb.cell (p := ⟨b, o + i, none⟩) (lt_of_cell hc)).trans hc⟩
theorem RowAt.grown {w w' : World} {A : Option Addr} {l : List UInt8} {row : Option Nat} (h : RowAt w A l) (hg : w.grownBy w' row) (hne : ∀ a, A = some a → row ≠ some a.block) : RowAt w' A l := by
  intro i hi
  obtain ⟨b, o, hA, hc⟩ := h i hi
  exact ⟨b, o, hA, hg.cell hc (fun e => hne _ hA e.symm)⟩
theorem RowAt.drewN {w : World} {A : Option Addr} {l : List UInt8} (h : RowAt w A l) (k : Nat) : RowAt (w.drewN k) A l := h

theorem rowAt_own {w : World} {B n cap : Nat} {A : Option Addr} {l : List UInt8} (h : w.ownsRow B 5 1 (.slice A n cap) n (bs l)) : RowAt w A l := by
  intro i hi
  have hl : l.length = n := by have := h.1; simpa [bs_len] using this
  rcases h.2 with ⟨h2, h3⟩ | ⟨g, c', cur, hv, hg, hh, hnc, hcm, hcs, ht⟩
  · omega
  · simp only [Value.slice.injEq, true_and] at hv
    obtain ⟨rfl, rfl⟩ := hv
    refine ⟨g, 0, rfl, ?_⟩
    rw [Nat.zero_add, cell_of_row w g i cur 5 (0, 0) hh]
    have : (cur.toList.take (n * 1))[i]? = (bs l)[i]? := by rw [ht]
    rw [List.getElem?_take, if_pos (by omega), bs_get l i hi] at this
    simpa using this

theorem own_shape {w : World} {B e s n cap : Nat} {A : Option Addr} {xs : List Value} (h : w.ownsRow B e s (.slice A n cap) n xs) : (A = none ∧ n = 0 ∧ cap = 0) ∨ ∃ g, A = some ⟨g, 0, none⟩ ∧ B ≤ g ∧ g < w.heap.size := by
  rcases h.2 with ⟨h2, h3⟩ | ⟨g, c', cur, hv, hg, hh, _⟩
  · simp only [Value.slice.injEq] at h2; exact .inl ⟨h2.1, h3, h2.2.2⟩
  · simp only [Value.slice.injEq, true_and] at hv
    exact .inr ⟨g, hv.1, hg, (Array.getElem?_eq_some_iff.1 hh).1⟩

theorem foldl_push_bytes (l : List UInt8) : ∀ s : ByteArray, (l.map fun c => (c.toNat : Int)).foldl (fun (r : ByteArray) n => r.push (UInt8.ofNat n.toNat)) s = ⟨s.data ++ l.toArray⟩ := by
  induction l with
  | nil => intro s; simp
  | cons c l ih =>
    intro s
    rw [List.map_cons, List.foldl_cons, ih]
    cases s with | mk d =>
    show ByteArray.mk (d.push _ ++ l.toArray) = ByteArray.mk (d ++ (c :: l).toArray)
    congr 1
    apply Array.ext'
    simp

theorem add_lit (b o i : Nat) : (⟨b, o, none⟩ : Addr).add i = ⟨b, o + i, none⟩ := by unfold Addr.add; split <;> simp_all

/-- string(u). -/
theorem run_string_row (w : World) (A : Option Addr) (cap : Nat) (l : List UInt8) (h : RowAt w A l) :
    (convert 58 9 (.slice A l.length cap)).run Try.prog w = .ok (.string ⟨l.toArray⟩) w := by
  cases l with
  | nil =>
    rw [run_convert_bytes_string w 58 9 5 A _ cap Try.underlying58 Try.underlying5 Try.underlying9]
    cases A with
    | none => simp [Conv.bytesToString, Sem.run_pure]; rfl
    | some ad =>
      rw [run_bytesToString w ad _ cap [] (by simpa using run_loadCells_list (P := Try.prog) (w := w) ad [] (by simp))]
      rfl
  | cons c t =>
    obtain ⟨b, o, rfl, _⟩ := h 0 (by simp)
    rw [run_convert_bytes_string w 58 9 5 _ _ cap Try.underlying58 Try.underlying5 Try.underlying9]
    have hc : ∀ j u, (bs (c :: t))[j]? = some u → w.cell? ((⟨b, o, none⟩ : Addr).add j) = some u := by
      intro j u hu
      have hj : j < (c :: t).length := by
        rcases Nat.lt_or_ge j (bs (c :: t)).length with h | h
        · simpa [bs_len] using h
        · rw [List.getElem?_eq_none h] at hu; cases hu
      obtain ⟨b', o', he, hcc⟩ := h j hj
      simp only [Option.some.injEq, Addr.mk.injEq, and_true] at he
      obtain ⟨rfl, rfl⟩ := he
      rw [add_lit, hcc, ← hu, bs_get _ _ hj]
    have hrun := run_loadCells_list (P := Try.prog) (w := w) (⟨b, o, none⟩ : Addr) (bs (c :: t)) hc
    rw [bs_len] at hrun
    have e2 : bs (c :: t) = ((c :: t).map fun c => (c.toNat : Int)).map (Value.int .u8) := by simp [bs]
    rw [e2] at hrun
    rw [run_bytesToString w _ _ cap _ hrun, foldl_push_bytes]
    congr 2
    show ByteArray.mk (#[] ++ (c :: t).toArray) = _
    simp

/-- []byte(s): the value, the world. -/
theorem run_bytes (w : World) (l : List UInt8) :
    ∃ w' cap, (convert 9 58 (.string ⟨l.toArray⟩)).run Try.prog w = .ok (.slice (some ⟨w.heap.size, 0, none⟩) l.length cap) w' ∧ RowAt w' (some ⟨w.heap.size, 0, none⟩) l ∧ Below w.heap.size w w' ∧ l.length ≤ cap := by
  refine ⟨_, _, Lib.run_convert_string_bytes w 9 58 5 ⟨l.toArray⟩ Try.underlying9 Try.underlying58 Try.underlying5, ?_, ?_, grownCap_ge w l.length 0 5⟩
  · intro i hi
    refine ⟨w.heap.size, 0, rfl, ?_⟩
    rw [Nat.zero_add, cell_of_row _ w.heap.size i _ 5 _ (Lib.bytesWorld_at_new w 5 _)]
    simp only [Lib.bytesCells]
    rw [Array.getElem?_append_left (by simpa [ByteArray.size] using hi)]
    simp [hi]
  · exact ⟨rfl, rfl, rfl, by rw [Lib.bytesWorld_size]; omega, fun k hk => Lib.bytesWorld_at_old w 5 _ k hk⟩

theorem news_one (w : World) (v : Value) (t : TypeId) : ∀ (j : Nat) u, ([v] : List Value)[j]? = some u → (w.alloc (.cells #[v] t)).cell? ((⟨w.heap.size, 0, none⟩ : Addr).add j) = some u := by
  intro j u hu
  match j, hu with
  | 0, hu =>
    simp at hu; subst hu
    have hb : (w.alloc (.cells #[v] t)).heap[w.heap.size]? = some (.cells #[v] t (0, 0)) := heap_alloc_new w _
    have := cell_of_row (w.alloc (.cells #[v] t)) w.heap.size 0 #[v] t (0, 0) hb
    simp [Addr.add, this]

/-- The block of a slice's row. -/
def blk (A : Option Addr) : Option Nat := A.map (·.block)
theorem ownBlock_slice (A : Option Addr) (n c : Nat) : (Value.slice A n c).ownBlock = blk A := by cases A <;> rfl
/-- Behind an append: the row stands where it stood, or is new. -/
def Moved (w : World) (A A' : Option Addr) : Prop := blk A' = blk A ∨ ∀ k, blk A' = some k → w.heap.size ≤ k
theorem Moved.refl (w : World) (A : Option Addr) : Moved w A A := .inl rfl
theorem Moved.trans {w w1 : World} {A B C : Option Addr} (h1 : Moved w A B) (h2 : Moved w1 B C) (hs : w.heap.size ≤ w1.heap.size) : Moved w A C := by
  rcases h2 with h2 | h2
  · rcases h1 with h1 | h1
    · exact .inl (h2.trans h1)
    · exact .inr fun k hk => h1 k (h2 ▸ hk)
  · exact .inr fun k hk => Nat.le_trans hs (h2 k hk)
theorem grown_trans {w w1 w2 : World} {A A1 : Option Addr} (h1 : w.grownBy w1 (blk A)) (h2 : w1.grownBy w2 (blk A1)) (hm : Moved w A A1) : w.grownBy w2 (blk A) :=
  ⟨h2.os.trans h1.os, h2.tape.trans h1.tape, h2.output.trans h1.output, Nat.le_trans h1.size h2.size, fun k hk hne => by
    rw [h2.block k (by have := h1.size; omega) (fun e => by rcases hm with h | h; exact hne (e.trans h); have := h k e.symm; omega), h1.block k hk hne]⟩
theorem grown_refl (w : World) (r : Option Nat) : w.grownBy w r := ⟨rfl, rfl, rfl, Nat.le_refl _, fun _ _ _ => rfl⟩
theorem grown_drewN {w w' : World} {r : Option Nat} (h : w.grownBy w' r) (n : Nat) : w.grownBy (w'.drewN n) r := ⟨h.os, h.tape, h.output, h.size, h.block⟩
theorem grown_below {w w1 w2 : World} {r : Option Nat} (h : w.grownBy w1 r) (hb : Below w1.heap.size w1 w2) : w.grownBy w2 r :=
  ⟨hb.os.trans h.os, hb.tape.trans h.tape, hb.output.trans h.output, Nat.le_trans h.size hb.size, fun k hk hne => (hb.block k (by have := h.size; omega)).trans (h.block k hk hne)⟩

theorem own_base {w : World} {B B' e s n : Nat} {v : Value} {xs : List Value} (h : w.ownsRow B e s v n xs) (hb : B' ≤ B) : w.ownsRow B' e s v n xs := by
  obtain ⟨h1, h2⟩ := h
  refine ⟨h1, ?_⟩
  rcases h2 with h2 | ⟨g, cap, cur, hv, hg, r⟩
  · exact .inl h2
  · exact .inr ⟨g, cap, cur, hv, Nat.le_trans hb hg, r⟩

/-- append to a row of the call's own, elements of whatever type: where the row stands behind it. -/
theorem append_gen {P : Program} {ops : Array Oper} {rest : List Oper} {o : Oper} {a : Act} {Q : Exit → Act → World → Prop} (w : World) (hgd : o.guard = none) (s x : Operand) (t : TypeId)
    (ho : o.op = .call { callee := .builtin .append, args := #[s, x], argTypes := #[t, t] })
    (e : TypeId) (i : TypeInfo) (z : Value) (size bytes : Nat) (h1 : P.underlying t = some (.slice e)) (h2 : P.info? e = some i) (h3 : i.zero = some z) (h4 : i.size = size) (h5 : i.bytes = bytes) (h6 : z.cells.size = size) (h7 : 0 < size)
    (B : Nat) (A : Option Addr) (n cap : Nat) (xs : List Value) (hs : a.eval s = .slice A n cap) (hown : w.ownsRow B e size (.slice A n cap) n xs)
    (ad : Addr) (m c : Nat) (news : List Value) (hx : a.eval x = .slice (some ad) m c) (hn : news.length = m * size) (hc : ∀ j u, news[j]? = some u → w.cell? (ad.add j) = some u) (h1c : ∀ u ∈ news, u.oneCell' = true)
    (b1 : n + m ≤ maxLen) (b2 : (n + m) * bytes ≤ 140737488355328) (hB : B ≤ w.heap.size)
    (h : ∀ A' cap' w', w'.ownsRow B e size (.slice A' (n + m) cap') (n + m) (xs ++ news) → w.grownBy w' (blk A) → Moved w A A' → wpList P ops Q rest (a.put o.dst (.slice A' (n + m) cap')) w') :
    wpList P ops Q (o :: rest) a w := by
  have hsh := own_shape hown
  rcases Nat.lt_or_ge cap (n + m) with hfull | hroom
  · refine wpList_append_grows w hgd s x t ho e i z size bytes h1 h2 h3 h4 h5 h6 h7 A n cap xs hs ?_ hown.1 ?_ ad m c news hx hn hc h1c hfull b1 b2 ?_
    · intro hA; rcases hsh with ⟨_, h2, h3⟩ | ⟨g, h, _⟩
      · exact ⟨h2, h3⟩
      · rw [h] at hA; cases hA
    · intro b hb j u hj
      subst hb
      exact hown.cells (g := b.block) rfl j u hj |> fun hh => by
        rcases hsh with ⟨h, _⟩ | ⟨g, h, _⟩
        · cases h
        · cases h; exact hh
    · intro v' w' hown' hgrow
      rcases hown'.2 with ⟨rfl, h0⟩ | ⟨g, c', cur, rfl, hg, _⟩
      · omega
      · exact h _ _ w' (own_base hown' hB) ⟨hgrow.os, hgrow.tape, hgrow.output, hgrow.size, fun k hk _ => hgrow.block k hk (by simp)⟩ (.inr fun k hk => by cases hk; exact hg)
  · cases A with
    | none =>
      rcases hsh with ⟨_, rfl, rfl⟩ | ⟨g, h, _⟩
      · obtain rfl : m = 0 := by omega
        obtain rfl : news = [] := List.eq_nil_of_length_eq_zero (by simpa using hn)
        refine wpList_append_own w hgd s x t ho B e i z size bytes h1 h2 h3 h4 h5 h6 h7 _ 0 xs hs hown ad 0 c [] hx hn hc h1c b1 b2 hB ?_
        intro v' w' hown' hgrow hiff
        obtain rfl : v' = .slice none 0 0 := hiff.2 ⟨rfl, rfl⟩
        exact h none 0 w' hown' hgrow (.inl rfl)
      · cases h
    | some b =>
      obtain ⟨g, hg⟩ : ∃ g, some b = some ⟨g, 0, none⟩ := by
        rcases hsh with ⟨h, _⟩ | ⟨g, h, _⟩
        · cases h
        · exact ⟨g, h⟩
      cases hg
      refine wpList_append_fits _ hgd s x t ho B e i size h1 h2 h4 g n cap xs hs hown ad m c news hx hn hc h1c hroom ?_
      intro w' hown' hgrow
      exact h _ _ _ hown' hgrow (.inl rfl)

/-- append of one byte, by its literal slice, to a row of the call's own. -/
theorem append_one {ops : Array Oper} {rest : List Oper} {o : Oper} {a : Act} {Q : Exit → Act → World → Prop} (w : World) (hgd : o.guard = none) (s x : Operand)
    (ho : o.op = .call { callee := .builtin .append, args := #[s, x], argTypes := #[58, 58] })
    (B : Nat) (A : Option Addr) (n cap : Nat) (l : List UInt8) (c : UInt8) (hs : a.eval s = .slice A n cap) (hown : w.ownsRow B 5 1 (.slice A n cap) n (bs l))
    (v : Value) (hv : v = .int .u8 c.toNat) (hx : a.eval x = .slice (some ⟨w.heap.size, 0, none⟩) 1 1) (hn : n ≤ 1000000000000) (hB : B ≤ w.heap.size)
    (h : ∀ A' cap' w', w'.ownsRow B 5 1 (.slice A' (n + 1) cap') (n + 1) (bs (l ++ [c])) → w.grownBy w' (blk A) → Moved w A A' → wpList Try.prog ops Q rest (a.put o.dst (.slice A' (n + 1) cap')) w') :
    wpList Try.prog ops Q (o :: rest) a (w.alloc (.cells #[v] 5)) := by
  subst hv
  obtain ⟨i0, hi, hz0, hz1, hz2⟩ := info_parts Try.info5
  refine append_gen _ hgd s x 58 ho 5 i0 (.int .u8 0) 1 1 Try.underlying58 hi hz0 hz1 hz2 rfl (by decide) B A n cap (bs l) hs (hown.alloc _) ⟨w.heap.size, 0, none⟩ 1 1 [.int .u8 c.toNat] hx rfl (news_one w _ _) (by intro u hu; simp at hu; subst hu; rfl) (by unfold maxLen; omega) (by omega) (by simp; omega) ?_
  intro A' cap' w' hown' hgrow hm
  refine h A' cap' w' (by rw [bs_append]; exact hown') (grown_trans (World.grownBy_alloc w _ (blk A)) hgrow (.inl rfl)) ?_
  rcases hm with hm | hm
  · exact .inl hm
  · exact .inr fun k hk => by have := hm k hk; simp at this; omega
end Go.Proofs.Ytbcckfggnlmhoaa

namespace Go.Proofs.Ytbcckfggnlmhoaa
open Go Go.RowKit

theorem or_u8_32 (x : UInt8) : bits BinOp.or IntKind.u8 (x.toNat : Int) 32 = ((x ||| 32).toNat : Int) := by
  have := u8_or_nat x.toNat 32 x.toNat_lt (by decide)
  rw [show ((32 : Nat) : Int) = 32 from rfl] at this
  rw [this]; simp
theorem xor_u8_32 (x : UInt8) : bits BinOp.xor IntKind.u8 (x.toNat : Int) 32 = ((invc x).toNat : Int) := by
  have := u8_xor_nat x.toNat 32 x.toNat_lt (by decide)
  rw [show ((32 : Nat) : Int) = 32 from rfl] at this
  rw [this]; simp [invc]

theorem inverseLetter_any (c : UInt8) (w : World) : Calls Try.prog 52 #[.int .u8 c.toNat] w fun e w' => e = .returned (.int .u8 (invc c).toNat) ∧ w = w' := by
  have hx := Lib.hid (xor_u8_32 c)
  go_enter Try.func52, Try.ntmps52
  go_wp2
  go_ret
  exact ⟨ret_int hx.out, rfl⟩

theorem take_snoc (s : ByteArray) (k : Nat) (h : k < s.size) : s.data.toList.take (k + 1) = s.data.toList.take k ++ [s[k]] := by
  rw [List.take_succ_eq_append_getElem (by simpa using h)]; rfl
theorem all_take_succ (s : ByteArray) (p : UInt8 → Bool) (n : Nat) (h : n < s.size) :
    (s.data.toList.take (n + 1)).all p = ((s.data.toList.take n).all p && p s[n]) := by
  rw [take_snoc s n h]; simp [List.all_append]
theorem all_no (s : ByteArray) (p : UInt8 → Bool) (n : Nat) (h : n < s.size) (hp : p s[n] = false) : s.data.toList.all p = false := by
  rw [List.all_eq_false]
  exact ⟨s[n], by have : s[n] = s.data.toList[n]'(by simpa using h) := rfl
                  rw [this]; exact List.getElem_mem _, by simp [hp]⟩

set_option maxHeartbeats 400000 in
theorem isWord_any (k : Int) (s : ByteArray) (w : World) (hs : s.size ≤ maxLen) :
    Calls Try.prog 75 #[.int .i64 k, .string s] w fun e w' => e = .returned (.bool (isWd k s.data.toList)) ∧ w = w' := by
  unfold maxLen at hs
  by_cases h3 : 100000 < s.size
  · have HR : Hid (isWd k s.data.toList = false) := Lib.hid (by simp [isWd]; omega)
    go_enter Try.func75, Try.ntmps75
    go_wp2
    go_ret
    exact ⟨ret_bool HR.out.symm, rfl⟩
  have HR : Hid (isWd k s.data.toList = s.data.toList.all (letB k)) := Lib.hid (by
    have : s.size ≤ 100000 := by omega
    simp [isWd, this])
  go_enter Try.func75, Try.ntmps75
  go_wp2
  go_loop [12] (fun i => ∃ n : Nat, n ≤ s.size ∧ i = .int .i64 n ∧ (s.data.toList.take n).all (letB k) = true) (fun i => s.size - (intOf i).toNat)
  case atStart => exact ⟨0, Nat.zero_le _, rfl, rfl⟩
  case round =>
    obtain ⟨n, hn, rfl, hall⟩ := hrel
    have HA := Lib.hid hall
    clear hall
    by_cases hlt : n < s.size
    · have HS := Lib.hid (all_take_succ s (letB k) n hlt)
      have HO := Lib.hid (or_u8_32 s[n])
      have HN := Lib.hid (all_no s (letB k) n hlt)
      have HL : Hid (letB k s[n] = (!(decide ((s[n] ||| 32).toNat < 97)) && decide (((s[n] ||| 32).toNat : Int) - 97 < k))) := Lib.hid rfl
      have ho := HO.out
      have hm : (s[n] ||| 32).toNat < 256 := (s[n] ||| 32).toNat_lt
      generalize (s[n] ||| 32).toNat = m at *
      by_cases h97 : m < 97
      · have hd : decide (m < 97) = true := by simpa using h97
        have hd2 : decide ((m : Int) < 97) = true := by simp; omega
        go_wp2
        go_ret
        refine ⟨ret_bool ?_, rfl⟩
        rw [HR.out, HN.out (by rw [HL.out, hd]; rfl)]
      · have hd2 : decide ((m : Int) < 97) = false := by simp; omega
        by_cases hk : (m : Int) - 97 < k
        · have hd3 : decide (k ≤ (m : Int) - 97) = false := by simpa using hk
          go_wp2
          go_round
          case rel => exact ⟨n + 1, by omega, by go_num, by rw [HS.out, HA.out, HL.out]; simp [hk, h97]⟩
          case measure => simp [intOf]; omega
        · have hd3 : decide (k ≤ (m : Int) - 97) = true := by simpa using hk
          go_wp2
          go_ret
          refine ⟨ret_bool ?_, rfl⟩
          rw [HR.out, HN.out (by rw [HL.out]; simp; omega)]
    · have HZ := HA.out
      rw [List.take_of_length_le (by simp; omega)] at HZ
      have HZ := Lib.hid HZ
      go_wp2
      go_ret
      exact ⟨ret_bool (by rw [HR.out, HZ.out]), rfl⟩
end Go.Proofs.Ytbcckfggnlmhoaa

namespace Go.Proofs.Ytbcckfggnlmhoaa
open Go Go.RowKit

set_option maxHeartbeats 400000 in
theorem Index_any (k : Int) (c : UInt8) (w : World) : Calls Try.prog 72 #[.int .u8 c.toNat, .int .i64 k] w fun e w' => e = .returned (.int .i64 (idxI k c)) ∧ w = w' := by
  have hm : c.toNat < 256 := c.toNat_lt
  by_cases h97 : (97 : Int) ≤ (c.toNat : Int)
  · have hd : decide ((97 : Int) ≤ (c.toNat : Int)) = true := by simpa using h97
    have hd' : decide (97 ≤ c.toNat) = true := by simp; omega
    by_cases hk : (c.toNat : Int) - 97 < k
    · have hd2 : decide ((c.toNat : Int) - 97 < k) = true := by simpa using hk
      have HR : Hid (idxI k c = 2 * ((c.toNat : Int) - 97)) := Lib.hid (by unfold idxI; rw [if_pos ⟨h97, hk⟩])
      generalize c.toNat = m at *
      go_enter Try.func72, Try.ntmps72
      go_wp2
      go_ret
      exact ⟨ret_int HR.out.symm, rfl⟩
    · have hd2 : decide ((c.toNat : Int) - 97 < k) = false := by simpa using hk
      have hd3 : decide ((65 : Int) ≤ (c.toNat : Int)) = true := by simp; omega
      have hd3' : decide (65 ≤ c.toNat) = true := by simp; omega
      have hd4 : decide ((c.toNat : Int) - 65 < k) = false := by simp; omega
      have HR : Hid (idxI k c = -1) := Lib.hid (by unfold idxI; rw [if_neg (fun h => hk h.2), if_neg (fun h => by omega)])
      generalize c.toNat = m at *
      go_enter Try.func72, Try.ntmps72
      go_wp2
      go_ret
      exact ⟨ret_int HR.out.symm, rfl⟩
  · have hd : decide ((97 : Int) ≤ (c.toNat : Int)) = false := by simpa using h97
    have hd' : decide (97 ≤ c.toNat) = false := by simp; omega
    by_cases h65 : (65 : Int) ≤ (c.toNat : Int)
    · have hd3 : decide ((65 : Int) ≤ (c.toNat : Int)) = true := by simpa using h65
      have hd3' : decide (65 ≤ c.toNat) = true := by simp; omega
      by_cases hk : (c.toNat : Int) - 65 < k
      · have hd4 : decide ((c.toNat : Int) - 65 < k) = true := by simpa using hk
        have HR : Hid (idxI k c = 2 * ((c.toNat : Int) - 65) + 1) := Lib.hid (by unfold idxI; rw [if_neg (fun h => h97 h.1), if_pos ⟨h65, hk⟩])
        generalize c.toNat = m at *
        go_enter Try.func72, Try.ntmps72
        go_wp2
        go_ret
        exact ⟨ret_int HR.out.symm, rfl⟩
      · have hd4 : decide ((c.toNat : Int) - 65 < k) = false := by simpa using hk
        have HR : Hid (idxI k c = -1) := Lib.hid (by unfold idxI; rw [if_neg (fun h => h97 h.1), if_neg (fun h => hk h.2)])
        generalize c.toNat = m at *
        go_enter Try.func72, Try.ntmps72
        go_wp2
        go_ret
        exact ⟨ret_int HR.out.symm, rfl⟩
    · have hd3 : decide ((65 : Int) ≤ (c.toNat : Int)) = false := by simpa using h65
      have hd3' : decide (65 ≤ c.toNat) = false := by simp; omega
      have HR : Hid (idxI k c = -1) := Lib.hid (by unfold idxI; rw [if_neg (fun h => h97 h.1), if_neg (fun h => h65 h.1)])
      generalize c.toNat = m at *
      go_enter Try.func72, Try.ntmps72
      go_wp2
      go_ret
      exact ⟨ret_int HR.out.symm, rfl⟩

theorem invt_table2 : ∀ n, n < 256 → ((invt (UInt8.ofNat n)).toNat : Int) = IntKind.u8.wrap (IntKind.u8.wrap (((UInt8.ofNat n).toNat : Int) - (if 97 ≤ (UInt8.ofNat n).toNat then 97 else 65)) + (if 97 ≤ (UInt8.ofNat n).toNat then 65 else 97)) := by decide +kernel
theorem invt_wrap (c : UInt8) : ((invt c).toNat : Int) = IntKind.u8.wrap (IntKind.u8.wrap ((c.toNat : Int) - (if 97 ≤ c.toNat then 97 else 65)) + (if 97 ≤ c.toNat then 65 else 97)) :=
  all_u8 (fun c => ((invt c).toNat : Int) = IntKind.u8.wrap (IntKind.u8.wrap ((c.toNat : Int) - (if 97 ≤ c.toNat then 97 else 65)) + (if 97 ≤ c.toNat then 65 else 97))) invt_table2 c

set_option maxHeartbeats 400000 in
theorem inverted_any (c : UInt8) (w : World) : Calls Try.prog 55 #[.int .u8 c.toNat] w fun e w' => e = .returned (.int .u8 (invt c).toNat) ∧ w = w' := by
  have hm : c.toNat < 256 := c.toNat_lt
  have hw := invt_wrap c
  by_cases h97 : 97 ≤ c.toNat
  · rw [if_pos h97, if_pos h97] at hw
    have HW := Lib.hid hw
    have hd' : decide (97 ≤ c.toNat) = true := by simpa using h97
    clear hw
    generalize (invt c).toNat = r at *
    generalize c.toNat = m at *
    go_enter Try.func55, Try.ntmps55
    go_wp2
    go_ret
    refine ⟨ret_int ?_, rfl⟩
    rw [HW.out]
    show (m : Int) - 97 + 65 = (((m : Int) - 97) % 256 + 65) % 256
    omega
  · rw [if_neg h97, if_neg h97] at hw
    have HW := Lib.hid hw
    have hd' : decide (97 ≤ c.toNat) = false := by simpa using h97
    clear hw
    generalize (invt c).toNat = r at *
    generalize c.toNat = m at *
    go_enter Try.func55, Try.ntmps55
    go_wp2
    go_ret
    refine ⟨ret_int ?_, rfl⟩
    rw [HW.out]
    rfl

set_option maxHeartbeats 400000 in
theorem IsWord_any (k : Int) (s : ByteArray) (w : World) (h1 : 1 ≤ k) (h8 : k ≤ 8) (hs : s.size ≤ maxLen) :
    Calls Try.prog 71 #[.string s, .int .i64 k] w fun e w' => e = .returned (.bool (isWd k s.data.toList)) ∧ w = w' := by
  unfold maxLen at hs
  go_enter Try.func71, Try.ntmps71
  go_wp2
  go_loop [5] (fun i => ∃ n : Nat, n ≤ s.size ∧ i = .int .i64 n ∧ (s.data.toList.take n).all (letB k) = true) (fun i => s.size - (intOf i).toNat)
  case atStart => exact ⟨0, Nat.zero_le _, rfl, rfl⟩
  case round =>
    obtain ⟨n, hn, rfl, hall⟩ := hrel
    have HA := Lib.hid hall
    clear hall
    by_cases hlt : n < s.size
    · have HS := Lib.hid (all_take_succ s (letB k) n hlt)
      have HN := Lib.hid (all_no s (letB k) n hlt)
      have HL := Lib.hid (letB_idx k h1 h8 s[n])
      have hI := Index_any k s[n] w
      by_cases hi : 0 ≤ idxI k s[n]
      · have hd : decide (idxI k s[n] < 0) = false := by simpa using hi
        have HI := Lib.hid hi
        clear hi
        generalize idxI k s[n] = q at *
        go_wp2_with (go_at_call 72; refine hI.mono ?_; rintro e w' ⟨rfl, rfl⟩)
        go_round
        case rel => exact ⟨n + 1, by omega, by go_num, by rw [HS.out, HA.out, HL.out]; simpa using HI.out⟩
        case measure => simp [intOf]; omega
      · have hd : decide (idxI k s[n] < 0) = true := by simpa using hi
        have HI := Lib.hid hi
        clear hi
        generalize idxI k s[n] = q at *
        go_wp2_with (go_at_call 72; refine hI.mono ?_; rintro e w' ⟨rfl, rfl⟩)
        go_ret
        refine ⟨ret_bool ?_, rfl⟩
        unfold isWd
        rw [HN.out (by rw [HL.out]; simpa using HI.out)]; simp
    · have HZ := HA.out
      rw [List.take_of_length_le (by simp; omega)] at HZ
      have HZ := Lib.hid HZ
      have HR : Hid (isWd k s.data.toList = decide ((s.size : Int) ≤ 100000)) := Lib.hid (by
        unfold isWd; rw [HZ.out, Bool.and_true, Bool.eq_iff_iff]; simp; omega)
      go_wp2
      go_ret
      refine ⟨ret_bool ?_, rfl⟩
      rw [HR.out]
      try (simp; omega)
end Go.Proofs.Ytbcckfggnlmhoaa

namespace Go.Proofs.Ytbcckfggnlmhoaa
open Go Go.RowKit

theorem own_take {w : World} {B e sz n cap m : Nat} {A : Option Addr} {xs : List Value} (hm : m ≤ n) (h : w.ownsRow B e sz (.slice A n cap) n xs) :
    w.ownsRow B e sz (.slice A m cap) m (xs.take (m * sz)) := by
  obtain ⟨h1, h2⟩ := h
  refine ⟨by rw [List.length_take, h1]; exact Nat.min_eq_left (Nat.mul_le_mul_right _ hm), ?_⟩
  rcases h2 with ⟨h2, h3⟩ | ⟨g', c', cur, hv, hg, hh, hnc, hcm, hcs, ht⟩
  · simp only [Value.slice.injEq] at h2
    obtain ⟨rfl, rfl, rfl⟩ := h2
    obtain rfl : m = 0 := by omega
    exact .inl ⟨rfl, rfl⟩
  · simp only [Value.slice.injEq, true_and] at hv
    obtain ⟨rfl, rfl⟩ := hv
    refine .inr ⟨g', cap, cur, rfl, hg, hh, by omega, hcm, hcs, ?_⟩
    rw [← ht, List.take_take]
    congr 1
    exact (Nat.min_eq_left (Nat.mul_le_mul_right _ hm)).symm

theorem own_cap {w : World} {B e sz n cap : Nat} {A : Option Addr} {xs : List Value} (h : w.ownsRow B e sz (.slice A n cap) n xs) : n ≤ cap := by
  rcases h.2 with ⟨h2, h3⟩ | ⟨g', c', cur, hv, hg, hh, hnc, _⟩
  · omega
  · simp only [Value.slice.injEq, true_and] at hv; omega
theorem grun_take_succ {α : Type} [DecidableEq α] (f : α → α) (r l : List α) (k : Nat) (h : k < l.length) : grun f r (l.take (k + 1)) = gstp f (grun f r (l.take k)) l[k] := by
  rw [List.take_succ_eq_append_getElem h, grun_snoc]

theorem eq_nat_bool' (x y : UInt8) : ((x.toNat == y.toNat) : Bool) = decide (x = y) := by
  rw [Bool.eq_iff_iff]; simp only [beq_iff_eq, decide_eq_true_eq]
  exact UInt8.toNat_inj
theorem eq_nat_bool (x y : UInt8) : (((x.toNat : Int) == (y.toNat : Int)) : Bool) = decide (x = y) := by
  rw [Bool.eq_iff_iff]; simp only [beq_iff_eq, decide_eq_true_eq]
  constructor
  · intro h; exact UInt8.toNat_inj.1 (by exact_mod_cast h)
  · rintro rfl; rfl

/-- How appendReduced ends. -/
def AppP (w : World) (B : Nat) (A : Option Addr) (l : List UInt8) (e : Ending) (w' : World) : Prop :=
  ∃ A' cap', e = .returned (.slice A' l.length cap') ∧ w'.ownsRow B 5 1 (.slice A' l.length cap') l.length (bs l.reverse) ∧ w.grownBy w' (blk A) ∧ Moved w A A'

set_option maxHeartbeats 2000000 in
set_option maxRecDepth 100000 in
theorem appRed_any (B : Nat) (O : Option Addr) (oc : Nat) (r l : List UInt8) (A : Option Addr) (cap : Nat) (w : World) (hown : w.ownsRow B 5 1 (.slice O r.length oc) r.length (bs r.reverse))
    (hl : RowAt w A l) (hap : ∀ a, A = some a → blk O ≠ some a.block) (hlt : ∀ a, A = some a → a.block < w.heap.size) (hn : r.length + l.length ≤ 1000000000) (hB : B ≤ w.heap.size) :
    Calls Try.prog 50 #[.slice O r.length oc, .slice A l.length cap, .func (.func 52) #[] #[]] w (AppP w B O (run r l)) := by
  have HLT := Lib.hid hlt
  have HAP := Lib.hid hap
  have HL := Lib.hid hl
  have HO := Lib.hid hown
  clear hlt hap hl hown
  go_enter Try.func50, Try.ntmps50
  go_wp2
  go_loopw [0, 8, 9, 12] (fun out _ _ i wr => ∃ (k : Nat) (s : List UInt8) (O' : Option Addr) (n oc' : Nat), k ≤ l.length ∧ i = .int .i64 (k : Int) ∧ s = run r (l.take k) ∧ n = s.length ∧ n ≤ r.length + k ∧ out = .slice O' n oc' ∧ wr.ownsRow B 5 1 (.slice O' n oc') n (bs s.reverse) ∧ w.grownBy wr (blk O) ∧ Moved w O O')
    (fun _ _ _ i _ => l.length - (intOf i).toNat)
  case atStart => exact ⟨0, r, O, r.length, oc, Nat.zero_le _, rfl, rfl, rfl, by omega, rfl, HO.out, grown_refl _ _, Moved.refl _ _⟩
  case round =>
    obtain ⟨k, s, O', n, oc', hk, rfl, hs, hns, hnk, rfl, hown, hg, hmv⟩ := hrel
    have HS := Lib.hid hs
    have HG := Lib.hid hg
    have HMV := Lib.hid hmv
    have HOW := Lib.hid hown
    clear hs hg hmv hown
    by_cases hlt : k < l.length
    · have HSN : Hid (gstp invc s l[k] = run r (l.take (k + 1))) := Lib.hid (by rw [HS.out]; exact (grun_take_succ invc r l k hlt).symm)
      have hc2 := (HL.out.grown HG.out HAP.out) k hlt
      obtain ⟨b, o, hA, hc⟩ := hc2
      subst hA
      have HBW := Lib.hid HG.out.size
      cases s with
      | nil =>
        obtain rfl : n = 0 := by simpa using hns
        clear hns
        have hd : decide ((0 : Int) ≤ 0 - 1) = false := by decide
        have hd2 : decide ((0 : Int) ≤ -1) = false := by decide
        go_wp2
        go_quiet (fail)
        go_wp2_with (at_builtin; refine append_one (wr.drewN nq) rfl (.tmp 34) (.tmp 36) rfl B O' 0 oc' [] l[k] rfl (show (wr.drewN nq).ownsRow _ _ _ _ _ _ from HOW.out) _ rfl rfl (by omega) (Nat.le_trans hB HBW.out) ?_; intro A' cap' w1 hown1 hg1 hm1)
        have H1 := Lib.hid hown1
        have G1 := Lib.hid hg1
        have M1 := Lib.hid hm1
        clear hown1 hg1 hm1
        go_wp2
        go_roundw
        case rel => exact ⟨k + 1, [l[k]], A', 1, cap', by omega, by go_num, HSN.out, rfl, by omega, rfl, H1.out, grown_trans (grown_drewN HG.out nq) G1.out HMV.out, HMV.out.trans M1.out HBW.out⟩
        case measure => simp [intOf]; omega
      | cons x t =>
        obtain rfl : n = t.length + 1 := by simpa using hns
        clear hns
        obtain ⟨g, o2, hO, hx⟩ := rowAt_own HOW.out t.length (by simp)
        obtain rfl : o2 = 0 := by
          rcases own_shape HOW.out with ⟨h, _⟩ | ⟨g', h, _⟩
          · rw [hO] at h; cases h
          · rw [hO] at h; cases h; rfl
        subst hO
        have he : (x :: t).reverse[t.length]'(by simp) = x := by simp
        rw [he, Nat.zero_add] at hx
        clear he
        have hd : decide ((0 : Int) ≤ (t.length : Int)) = true := by simp
        have hcp := own_cap HOW.out
        have hE := eq_nat_bool x (invc l[k])
        have hE2 := eq_nat_bool' x (invc l[k])
        have HI : Hid (∀ m, Calls Try.prog 52 #[.int .u8 l[k].toNat] (wr.drewN m) fun e w'' => e = .returned (.int .u8 (invc l[k]).toNat) ∧ ∃ j, w'' = wr.drewN j) := Lib.hid fun m => Calls.quiet_of_same ((inverseLetter_any l[k] (wr.drewN m)).mono fun _ _ h => ⟨h.1, h.2.symm⟩)
        by_cases hcc : x = invc l[k]
        · have HSN2 : Hid (t = run r (l.take (k + 1))) := Lib.hid (by rw [← HSN.out, gstp_cons, if_pos hcc])
          have HT := Lib.hid (own_take (m := t.length) (by omega) HOW.out)
          rw [decide_eq_true hcc] at hE hE2
          clear hcc
          go_wp2
          go_quiet ((go_at_call 52; exact HI.out _))
          go_wp2
          go_roundw
          case rel => exact ⟨k + 1, t, _, t.length, oc', by omega, by go_num, HSN2.out, rfl, by omega, rfl, by show wr.ownsRow _ _ _ _ _ _; have := HT.out; simpa [bs] using this, grown_drewN HG.out nq, HMV.out⟩
          case measure => simp [intOf]; omega
        · have HSN2 : Hid (l[k] :: x :: t = run r (l.take (k + 1))) := Lib.hid (by rw [← HSN.out, gstp_cons, if_neg hcc])
          rw [decide_eq_false hcc] at hE hE2
          clear hcc
          go_wp2
          go_quiet ((go_at_call 52; exact HI.out _))
          go_wp2_with (at_builtin; refine append_one (wr.drewN nq) rfl (.tmp 34) (.tmp 36) rfl B _ (t.length + 1) oc' (x :: t).reverse l[k] rfl (show (wr.drewN nq).ownsRow _ _ _ _ _ _ from HOW.out) _ rfl rfl (by omega) (Nat.le_trans hB HBW.out) ?_; intro A' cap' w1 hown1 hg1 hm1)
          have H1 := Lib.hid hown1
          have G1 := Lib.hid hg1
          have M1 := Lib.hid hm1
          clear hown1 hg1 hm1
          go_wp2
          go_roundw
          case rel => exact ⟨k + 1, l[k] :: x :: t, A', t.length + 1 + 1, cap', by omega, by go_num, HSN2.out, rfl, by omega, rfl, by have := H1.out; simpa [bs] using this, grown_trans (grown_drewN HG.out nq) G1.out HMV.out, HMV.out.trans M1.out HBW.out⟩
          case measure => simp [intOf]; omega
    · have hk' : k = l.length := by omega
      subst hk'
      have HR : Hid (s = run r l) := Lib.hid (by rw [HS.out, List.take_length])
      go_wp2
      go_ret
      rw [← HR.out]
      subst hns
      exact ⟨O', oc', rfl, HOW.out, HG.out, HMV.out⟩
end Go.Proofs.Ytbcckfggnlmhoaa

namespace Go.Proofs.Ytbcckfggnlmhoaa
open Go Go.RowKit

theorem grun_take_succ' (f : UInt8 → UInt8) (r : List UInt8) (s : ByteArray) (k : Nat) (h : k < s.size) : grun f r (s.data.toList.take (k + 1)) = gstp f (grun f r (s.data.toList.take k)) s[k] := by
  rw [take_snoc s k h, grun_snoc]
theorem all_get {s : ByteArray} {p : UInt8 → Bool} (h : s.data.toList.all p = true) (k : Nat) (hk : k < s.size) : p s[k] = true := by
  refine List.all_eq_true.1 h _ ?_
  have : s[k] = s.data.toList[k]'(by simpa using hk) := rfl
  rw [this]; exact List.getElem_mem _

set_option maxHeartbeats 2000000 in
set_option maxRecDepth 100000 in
theorem refRed_any (B : Nat) (O : Option Addr) (oc : Nat) (r : List UInt8) (l : ByteArray) (w : World) (hown : w.ownsRow B 5 1 (.slice O r.length oc) r.length (bs r.reverse))
    (hall : l.data.toList.all (letB 8) = true) (hn : r.length + l.size ≤ 1000000000) (hB : B ≤ w.heap.size) :
    Calls Try.prog 54 #[.slice O r.length oc, .string l] w (AppP w B O (run r l.data.toList)) := by
  have HALL := Lib.hid hall
  have HO := Lib.hid hown
  clear hall hown
  go_enter Try.func54, Try.ntmps54
  go_wp2
  go_loopw [0, 5, 6] (fun out i _ wr => ∃ (k : Nat) (s : List UInt8) (O' : Option Addr) (n oc' : Nat), k ≤ l.size ∧ i = .int .i64 (k : Int) ∧ s = run r (l.data.toList.take k) ∧ n = s.length ∧ n ≤ r.length + k ∧ out = .slice O' n oc' ∧ wr.ownsRow B 5 1 (.slice O' n oc') n (bs s.reverse) ∧ w.grownBy wr (blk O) ∧ Moved w O O')
    (fun _ i _ _ => l.size - (intOf i).toNat)
  case atStart => exact ⟨0, r, O, r.length, oc, Nat.zero_le _, rfl, rfl, rfl, by omega, rfl, HO.out, grown_refl _ _, Moved.refl _ _⟩
  case round =>
    obtain ⟨k, s, O', n, oc', hk, rfl, hs, hns, hnk, rfl, hown, hg, hmv⟩ := hrel
    have HS := Lib.hid hs
    have HG := Lib.hid hg
    have HMV := Lib.hid hmv
    have HOW := Lib.hid hown
    clear hs hg hmv hown
    by_cases hlt : k < l.size
    · have HSN : Hid (gstp invc s l[k] = run r (l.data.toList.take (k + 1))) := Lib.hid (by rw [HS.out]; exact (grun_take_succ' invc r l k hlt).symm)
      have HIV := Lib.hid (invt_let (all_get HALL.out k hlt))
      have HBW := Lib.hid HG.out.size
      cases s with
      | nil =>
        obtain rfl : n = 0 := by simpa using hns
        clear hns
        have hd : decide ((0 : Int) < 0) = false := by decide
        go_wp2
        go_quiet (fail)
        go_wp2_with (at_builtin; refine append_one (wr.drewN nq) rfl (.tmp 33) (.tmp 37) rfl B O' 0 oc' [] l[k] rfl (show (wr.drewN nq).ownsRow _ _ _ _ _ _ from HOW.out) _ rfl rfl (by omega) (Nat.le_trans hB HBW.out) ?_; intro A' cap' w1 hown1 hg1 hm1)
        have H1 := Lib.hid hown1
        have G1 := Lib.hid hg1
        have M1 := Lib.hid hm1
        clear hown1 hg1 hm1
        go_wp2
        go_roundw
        case rel => exact ⟨k + 1, [l[k]], A', 1, cap', by omega, by go_num, HSN.out, rfl, by omega, rfl, H1.out, grown_trans (grown_drewN HG.out nq) G1.out HMV.out, HMV.out.trans M1.out HBW.out⟩
        case measure => simp [intOf]; omega
      | cons x t =>
        obtain rfl : n = t.length + 1 := by simpa using hns
        clear hns
        obtain ⟨g, o2, hO, hx⟩ := rowAt_own HOW.out t.length (by simp)
        obtain rfl : o2 = 0 := by
          rcases own_shape HOW.out with ⟨h, _⟩ | ⟨g', h, _⟩
          · rw [hO] at h; cases h
          · rw [hO] at h; cases h; rfl
        subst hO
        have he : (x :: t).reverse[t.length]'(by simp) = x := by simp
        rw [he, Nat.zero_add] at hx
        clear he
        have hd : decide ((0 : Int) < (t.length : Int) + 1) = true := by simp
        have hd2 : decide ((0 : Nat) < t.length + 1) = true := by simp
        have hcp := own_cap HOW.out
        have hE := eq_nat_bool x (invc l[k])
        have hE2 := eq_nat_bool' x (invc l[k])
        have HI : Hid (∀ m, Calls Try.prog 55 #[.int .u8 l[k].toNat] (wr.drewN m) fun e w'' => e = .returned (.int .u8 (invc l[k]).toNat) ∧ ∃ j, w'' = wr.drewN j) := Lib.hid (by rw [← HIV.out]; exact fun m => Calls.quiet_of_same ((inverted_any l[k] (wr.drewN m)).mono fun _ _ h => ⟨h.1, h.2.symm⟩))
        by_cases hcc : x = invc l[k]
        · have HSN2 : Hid (t = run r (l.data.toList.take (k + 1))) := Lib.hid (by rw [← HSN.out, gstp_cons, if_pos hcc])
          have HT := Lib.hid (own_take (m := t.length) (by omega) HOW.out)
          rw [decide_eq_true hcc] at hE hE2
          clear hcc
          go_wp2
          go_quiet ((go_at_call 55; exact HI.out _))
          go_wp2
          go_roundw
          case rel => exact ⟨k + 1, t, _, t.length, oc', by omega, by go_num, HSN2.out, rfl, by omega, rfl, by show wr.ownsRow _ _ _ _ _ _; have := HT.out; simpa [bs] using this, grown_drewN HG.out nq, HMV.out⟩
          case measure => simp [intOf]; omega
        · have HSN2 : Hid (l[k] :: x :: t = run r (l.data.toList.take (k + 1))) := Lib.hid (by rw [← HSN.out, gstp_cons, if_neg hcc])
          rw [decide_eq_false hcc] at hE hE2
          clear hcc
          go_wp2
          go_quiet ((go_at_call 55; exact HI.out _))
          go_wp2_with (at_builtin; refine append_one (wr.drewN nq) rfl (.tmp 33) (.tmp 37) rfl B _ (t.length + 1) oc' (x :: t).reverse l[k] rfl (show (wr.drewN nq).ownsRow _ _ _ _ _ _ from HOW.out) _ rfl rfl (by omega) (Nat.le_trans hB HBW.out) ?_; intro A' cap' w1 hown1 hg1 hm1)
          have H1 := Lib.hid hown1
          have G1 := Lib.hid hg1
          have M1 := Lib.hid hm1
          clear hown1 hg1 hm1
          go_wp2
          go_roundw
          case rel => exact ⟨k + 1, l[k] :: x :: t, A', t.length + 1 + 1, cap', by omega, by go_num, HSN2.out, rfl, by omega, rfl, by have := H1.out; simpa [bs] using this, grown_trans (grown_drewN HG.out nq) G1.out HMV.out, HMV.out.trans M1.out HBW.out⟩
          case measure => simp [intOf]; omega
    · have hk' : k = l.size := by omega
      subst hk'
      have HR : Hid (s = run r l.data.toList) := Lib.hid (by rw [HS.out, List.take_of_length_le (by simp)])
      go_wp2
      go_ret
      rw [← HR.out]
      subst hns
      exact ⟨O', oc', rfl, HOW.out, HG.out, HMV.out⟩
end Go.Proofs.Ytbcckfggnlmhoaa

namespace Go.Proofs.Ytbcckfggnlmhoaa
open Go Go.RowKit

theorem own_empty (w : World) (B e sz : Nat) (hB : B ≤ w.heap.size) : (w.alloc (.cells #[] e)).ownsRow B e sz (.slice (some ⟨w.heap.size, 0, none⟩) 0 0) 0 [] :=
  World.ownsRow_made w #[] 0 hB (by unfold maxLen; omega) (by simp)
theorem below_of_grown {w w1 w2 : World} {B : Nat} {A : Option Addr} (h : Below B w w1) (hg : w1.grownBy w2 (blk A)) (hB : B ≤ w1.heap.size) (hA : ∀ a, A = some a → B ≤ a.block) : Below B w w2 :=
  h.grown hg hB (fun k hk => by cases A with
    | none => cases hk
    | some a => cases hk; exact hA a rfl)
theorem own_ge {w : World} {B e sz n cap : Nat} {A : Option Addr} {xs : List Value} (h : w.ownsRow B e sz (.slice A n cap) n xs) : ∀ a, A = some a → B ≤ a.block := by
  intro a ha
  rcases own_shape h with ⟨h, _⟩ | ⟨g, h, hg, _⟩
  · rw [h] at ha; cases ha
  · rw [h] at ha; cases ha; exact hg

set_option maxHeartbeats 400000 in
theorem Reduce_any (s : ByteArray) (w : World) (hall : s.data.toList.all (letB 8) = true) (hn : s.size ≤ 1000000000) :
    Calls Try.prog 25 #[.string s] w fun e w' => e = .returned (.string ⟨(red s.data.toList).toArray⟩) ∧ Below w.heap.size w w' := by
  have hR := refRed_any w.heap.size (some ⟨w.heap.size, 0, none⟩) 0 [] s (w.alloc (.cells #[] 5)) (own_empty w _ 5 1 (Nat.le_refl _)) hall (by simpa using hn) (by simp)
  have HB0 : Hid (Below w.heap.size w (w.alloc (.cells #[] 5))) := Lib.hid ((Below.refl _ _).alloc (Nat.le_refl _) _)
  simp only [List.length_nil] at hR
  clear hall
  go_enter Try.func25, Try.ntmps25
  go_wp2_with fail
  refine hR.mono ?_
  rintro e w1 ⟨A', cap', rfl, hown, hg, hm⟩
  have hrow := rowAt_own hown
  have hrun := run_string_row w1 A' cap' (run [] s.data.toList).reverse hrow
  rw [List.length_reverse] at hrun
  have HB1 := Lib.hid (below_of_grown HB0.out hg (by simp) (fun a ha => by cases ha; exact Nat.le_refl _))
  clear hown hg hm hrow hR
  go_wp2
  go_ret
  exact ⟨rfl, HB1.out⟩

set_option maxHeartbeats 1000000 in
set_option maxRecDepth 100000 in
theorem Invert_any (s : ByteArray) (w : World) (hall : s.data.toList.all (letB 8) = true) (hn : s.size ≤ 1000000000) :
    Calls Try.prog 26 #[.string s] w fun e w' => e = .returned (.string ⟨(invW s.data.toList).toArray⟩) ∧ Below w.heap.size w w' := by
  have HALL := Lib.hid hall
  have HO0 := Lib.hid (own_empty w w.heap.size 5 1 (Nat.le_refl _))
  have HB0 : Hid (Below w.heap.size w (w.alloc (.cells #[] 5))) := Lib.hid ((Below.refl _ _).alloc (Nat.le_refl _) _)
  clear hall
  go_enter Try.func26, Try.ntmps26
  go_wp2
  go_loopw [3, 4] (fun out i wr => ∃ (m k : Nat) (q : Int) (O' : Option Addr) (oc' : Nat), m + k = s.size ∧ i = .int .i64 q ∧ q + 1 = (m : Int) ∧ out = .slice O' k oc' ∧ wr.ownsRow w.heap.size 5 1 (.slice O' k oc') k (bs (invW (s.data.toList.drop m))) ∧ Below w.heap.size w wr)
    (fun _ i _ => ((intOf i) + 1).toNat)
  case atStart => exact ⟨s.size, 0, _, _, 0, by omega, rfl, by omega, rfl, by rw [List.drop_eq_nil_of_le (by simp)]; exact HO0.out, HB0.out⟩
  case round =>
    obtain ⟨m, k, q, O', oc', hk, rfl, hq, rfl, hown, hb⟩ := hrel
    have HOW := Lib.hid hown
    have HB := Lib.hid hb
    clear hown hb
    cases m with
    | succ m =>
      obtain rfl : q = (m : Int) := by omega
      clear hq
      have hlt : m < s.size := by omega
      have HSN : Hid (invW (s.data.toList.drop m) = invW (s.data.toList.drop (m + 1)) ++ [invc s[m]]) := Lib.hid (by
        have e : s.data.toList.drop m = s[m] :: s.data.toList.drop (m + 1) := by
          rw [List.drop_eq_getElem_cons (by simp; omega)]; rfl
        rw [e]; exact ginv_cons _ _ _)
      have hI := inverted_any s[m] wr
      rw [invt_let (all_get HALL.out m hlt)] at hI
      have HK : Hid (m + 1 + k = s.size) := Lib.hid hk
      have hk2 : k ≤ 1000000000 := by omega
      clear hk
      go_wp2_with fail
      refine hI.mono ?_
      rintro e w' ⟨rfl, rfl⟩
      go_wp2_with (at_builtin; refine append_one wr rfl (.tmp 13) (.tmp 18) rfl w.heap.size O' k oc' _ (invc s[m]) rfl HOW.out _ rfl rfl (by omega) HB.out.size ?_; intro A' cap' w1 hown1 hg1 hm1)
      have H1 := Lib.hid hown1
      have B1 := Lib.hid (below_of_grown HB.out hg1 HB.out.size (own_ge HOW.out))
      clear hown1 hg1 hm1
      go_wp2
      go_roundw
      case rel => exact ⟨m, k + 1, _, A', cap', by have := HK.out; omega, rfl, by omega, rfl, by rw [HSN.out]; exact H1.out, B1.out⟩
      case measure => simp [intOf]
    | zero =>
      obtain rfl : q = -1 := by omega
      obtain rfl : k = s.size := by omega
      have hrow := rowAt_own HOW.out
      rw [List.drop_zero] at hrow
      have hrun := run_string_row wr O' oc' (invW s.data.toList) hrow
      rw [show (invW s.data.toList).length = s.size by simp [ginv]] at hrun
      clear hrow hq hk
      go_wp2
      go_ret
      exact ⟨rfl, HB.out⟩
end Go.Proofs.Ytbcckfggnlmhoaa

namespace Go.Proofs.Ytbcckfggnlmhoaa
open Go Go.RowKit

/-- A list whose i outermost pairs have been exchanged. -/
structure RevTo {α : Type} (l cur : List α) (i : Nat) : Prop where
  len : cur.length = l.length
  ats : ∀ k, k < l.length → cur[k]? = if k < i ∨ l.length ≤ k + i then l[l.length - 1 - k]? else l[k]?
theorem RevTo.start {α : Type} (l : List α) : RevTo l l 0 := ⟨rfl, fun k hk => by rw [if_neg (by omega)]⟩
theorem RevTo.stop {α : Type} {l cur : List α} {i : Nat} (h : RevTo l cur i) (hi : l.length ≤ 2 * i + 1) : cur = l.reverse := by
  apply List.ext_getElem?
  intro k
  by_cases hk : k < l.length
  · rw [h.ats k hk, List.getElem?_reverse hk]
    split
    · rfl
    · rw [show l.length - 1 - k = k by omega]
  · rw [List.getElem?_eq_none (by rw [h.len]; omega), List.getElem?_eq_none (by rw [List.length_reverse]; omega)]
theorem RevTo.step {α : Type} {l cur : List α} {i : Nat} (h : RevTo l cur i) (hi : 2 * i + 1 < l.length) (x y : α) (hx : cur[i]? = some x) (hy : cur[l.length - 1 - i]? = some y) :
    RevTo l ((cur.set i y).set (l.length - 1 - i) x) (i + 1) := by
  have h1 := h.ats i (by omega)
  have h2 := h.ats (l.length - 1 - i) (by omega)
  rw [if_neg (by omega)] at h1 h2
  have hl := h.len
  refine ⟨by simp [h.len], fun k hk => ?_⟩
  rw [List.getElem?_set, List.getElem?_set]
  by_cases e1 : l.length - 1 - i = k
  · subst e1
    rw [if_pos rfl, if_pos (by simp; omega), if_pos (by omega), show l.length - 1 - (l.length - 1 - i) = i by omega, ← h1, hx]
  · rw [if_neg e1]
    by_cases e2 : i = k
    · subst e2
      rw [if_pos rfl, if_pos (by omega), if_pos (by omega), ← h2, hy]
    · rw [if_neg e2, h.ats k hk]
      by_cases hc : k < i ∨ l.length ≤ k + i
      · rw [if_pos hc, if_pos (by omega)]
      · rw [if_neg hc, if_neg (by omega)]

theorem drewN_one (w : World) : w.drew = w.drewN 1 := rfl

set_option maxHeartbeats 2000000 in
set_option maxRecDepth 1000000 in
theorem Reverse_any (B : Nat) (A : Option Addr) (cap : Nat) (l : List UInt8) (w : World) (hown : w.ownsRow B 5 1 (.slice A l.length cap) l.length (bs l)) (hn : l.length ≤ 1000000000) (hB : B ≤ w.heap.size) :
    Calls Try.prog 93 #[.slice A l.length cap] w fun e w' => e = .returned (.tuple #[]) ∧ w'.ownsRow B 5 1 (.slice A l.length cap) l.length (bs l.reverse) ∧ Below B w w' := by
  have HO := Lib.hid hown
  clear hown
  go_enter Try.func93, Try.ntmps93
  go_wp2
  go_loopw [2, 3] (fun i j wr => ∃ (k : Nat) (q : Int) (cur : List UInt8), i = .int .i64 (k : Int) ∧ j = .int .i64 q ∧ q + 1 + (k : Int) = (l.length : Int) ∧ RevTo l cur k ∧ wr.ownsRow B 5 1 (.slice A l.length cap) l.length (bs cur) ∧ Below B w wr)
    (fun i _ _ => l.length - (intOf i).toNat)
  case atStart => exact ⟨0, _, l, rfl, rfl, by simp, RevTo.start l, HO.out, Below.refl _ _⟩
  case round =>
    obtain ⟨k, q, cur, rfl, rfl, hq, hrev, hown, hb⟩ := hrel
    have HR := Lib.hid hrev
    have HOW := Lib.hid hown
    have HB := Lib.hid hb
    clear hrev hown hb
    by_cases hlt : (k : Int) < q
    · obtain ⟨j, rfl⟩ := Int.eq_ofNat_of_zero_le (show 0 ≤ q by omega)
      have hj : j = l.length - 1 - k := by omega
      have hlen : l.length = j + 1 + k := by omega
      have hcl := HR.out.len
      obtain ⟨g, o, hA, hx⟩ := rowAt_own HOW.out k (by omega)
      obtain ⟨g', o', hA', hy⟩ := rowAt_own HOW.out j (by omega)
      obtain ⟨rfl, rfl⟩ : g = g' ∧ o = o' := by rw [hA] at hA'; cases hA'; exact ⟨rfl, rfl⟩
      obtain rfl : o = 0 := by
        rcases own_shape HOW.out with ⟨h, _⟩ | ⟨g', h, _⟩
        · rw [hA] at h; cases h
        · rw [hA] at h; cases h; rfl
      subst hA
      rw [Nat.zero_add] at hx hy
      have HXE : Hid (cur[k]? = some (cur[k]'(by omega))) := Lib.hid (List.getElem?_eq_getElem (by omega))
      have HYE : Hid (cur[j]? = some (cur[j]'(by omega))) := Lib.hid (List.getElem?_eq_getElem (by omega))
      generalize cur[k]'(by omega) = x at *
      generalize cur[j]'(by omega) = y at *
      have hfx := HOW.out.frozenAt k
      have hfy := HOW.out.frozenAt j
      have HS1 := Lib.hid (show (wr.drew).ownsRow B 5 1 (.slice (some ⟨g, 0, none⟩) l.length cap) l.length (bs cur) from HOW.out)
      have HJ := Lib.hid hj
      have HL := Lib.hid hlen
      have hj1 : (j : Int) < (l.length : Int) := by omega
      have hk1 : (k : Int) < (l.length : Int) := by omega
      clear hj hlen hA' hcl hq
      go_wp2_with fail
      go_region
      go_wp2
      go_roundw
      case rel =>
        have h1 := HOW.out.stored k (.int .u8 y.toNat)
        have h2 := h1.1.stored j (.int .u8 x.toNat)
        refine ⟨k + 1, _, (cur.set k y).set j x, by go_num, rfl, by have := HL.out; omega, ?_, ?_, ?_⟩
        · have := HR.out.step (by have := HL.out; omega) x y HXE.out (by rw [← HJ.out]; exact HYE.out)
          rw [← HJ.out] at this; exact this
        · rw [bs_set, bs_set]; exact h2.1
        · have hgB := own_ge HOW.out _ rfl
          have b1 : Below B wr ((wr.setCell { block := g, off := k } (Value.int IntKind.u8 ↑y.toNat)).setCell { block := g, off := j } (Value.int IntKind.u8 ↑x.toNat)) := ((Below.refl B wr).setCell (p := ⟨g, k, none⟩) hgB _).setCell (p := ⟨g, j, none⟩) hgB _
          exact HB.out.trans b1.drew
      case measure => have := HL.out; simp [intOf]; omega
    · have HE : Hid (cur = l.reverse) := Lib.hid (HR.out.stop (by omega))
      go_wp2
      go_end0
      exact ⟨rfl, by rw [← HE.out]; exact HOW.out, HB.out⟩
end Go.Proofs.Ytbcckfggnlmhoaa

namespace Go.Proofs.Ytbcckfggnlmhoaa
open Go Go.RowKit

theorem rowAt_cells {w : World} {ad : Addr} {l : List UInt8} (h : RowAt w (some ad) l) : ∀ j u, (bs l)[j]? = some u → w.cell? (ad.add j) = some u := by
  intro j u hu
  have hj : j < l.length := by
    rcases Nat.lt_or_ge j (bs l).length with h | h
    · simpa [bs_len] using h
    · rw [List.getElem?_eq_none h] at hu; cases hu
  obtain ⟨b, o, he, hc⟩ := h j hj
  simp only [Option.some.injEq] at he
  subst he
  rw [add_lit, hc, ← hu, bs_get _ _ hj]
theorem bs_one (l : List UInt8) : ∀ u ∈ bs l, u.oneCell' = true := by
  intro u hu; simp [bs] at hu; obtain ⟨x, _, rfl⟩ := hu; rfl

/-- append(x, y...), bytes. -/
theorem append_row {ops : Array Oper} {rest : List Oper} {o : Oper} {a : Act} {Q : Exit → Act → World → Prop} (w : World) (hgd : o.guard = none) (s x : Operand)
    (ho : o.op = .call { callee := .builtin .append, args := #[s, x], argTypes := #[58, 58] })
    (B : Nat) (A : Option Addr) (n cap : Nat) (l m : List UInt8) (hs : a.eval s = .slice A n cap) (hown : w.ownsRow B 5 1 (.slice A n cap) n (bs l))
    (ad : Addr) (c : Nat) (hx : a.eval x = .slice (some ad) m.length c) (hm : RowAt w (some ad) m) (hn : n + m.length ≤ 1000000000000) (hB : B ≤ w.heap.size)
    (h : ∀ A' cap' w', w'.ownsRow B 5 1 (.slice A' (n + m.length) cap') (n + m.length) (bs (l ++ m)) → w.grownBy w' (blk A) → Moved w A A' → wpList Try.prog ops Q rest (a.put o.dst (.slice A' (n + m.length) cap')) w') :
    wpList Try.prog ops Q (o :: rest) a w := by
  obtain ⟨i0, hi, hz0, hz1, hz2⟩ := info_parts Try.info5
  refine append_gen _ hgd s x 58 ho 5 i0 (.int .u8 0) 1 1 Try.underlying58 hi hz0 hz1 hz2 rfl (by decide) B A n cap (bs l) hs hown ad m.length c (bs m) hx (by simp [bs_len]) (rowAt_cells hm) (bs_one m) (by unfold maxLen; omega) (by omega) hB ?_
  intro A' cap' w' hown' hgrow hm
  exact h A' cap' w' (by rw [bs_append]; exact hown') hgrow hm

def CloneP (w : World) (l : List UInt8) (e : Ending) (w' : World) : Prop :=
  ∃ A' cap', e = .returned (.slice A' l.length cap') ∧ w'.ownsRow w.heap.size 5 1 (.slice A' l.length cap') l.length (bs l) ∧ Below w.heap.size w w'

set_option maxHeartbeats 1000000 in
theorem Clone_any (A : Option Addr) (cap : Nat) (l : List UInt8) (w : World) (hl : RowAt w A l) (hA : A = none → l = []) (hn : l.length ≤ 1000000000) :
    Calls Try.prog 51 #[.slice A l.length cap] w (CloneP w l) := by
  have he : ∀ wx, (binOp .eql 58 (.slice A l.length cap) (.slice none 0 0)).run Try.prog wx = .ok (.bool A.isNone) wx := fun wx => Lib.run_eql_slice_nil wx 58 5 A _ _ _ _ Try.underlying58
  cases A with
  | none =>
    obtain rfl := hA rfl
    have he2 : ∀ wx, (binOp .eql 58 (.slice none 0 cap) (.slice none 0 0)).run Try.prog wx = .ok (.bool true) wx := fun wx => Lib.run_eql_slice_nil wx 58 5 none _ _ _ _ Try.underlying58
    show Calls Try.prog 51 #[.slice none 0 cap] w (CloneP w [])
    clear hl hA he hn
    go_enter Try.func51, Try.ntmps51
    go_wp2
    go_ret
    exact ⟨none, 0, rfl, World.ownsRow_nil _ _ _ _, Below.refl _ _⟩
  | some ad =>
    have HL := Lib.hid hl
    have HO := Lib.hid (own_empty w w.heap.size 5 1 (Nat.le_refl _))
    have HB : Hid (Below w.heap.size w (w.alloc (.cells #[] 5))) := Lib.hid ((Below.refl _ _).alloc (Nat.le_refl _) _)
    clear hl hA
    go_enter Try.func51, Try.ntmps51
    go_wp2_with (at_builtin; refine append_row (w.alloc (.cells #[] 5)) rfl (.tmp 5) (.tmp 6) rfl w.heap.size (some ⟨w.heap.size, 0, none⟩) 0 0 [] l rfl HO.out ad cap rfl (HL.out.below HB.out) (by omega) (by simp) ?_; intro A' cap' w1 hown1 hg1 hm1)
    have H1 := Lib.hid hown1
    have B1 := Lib.hid (below_of_grown HB.out hg1 (by simp) (fun a ha => by cases ha; exact Nat.le_refl _))
    clear hown1 hg1 hm1
    go_wp2
    go_ret
    have h1 := H1.out
    simp only [Nat.zero_add, List.nil_append] at h1
    exact ⟨A', cap', by simp, h1, B1.out⟩

/-- The first k elements turned by f. -/
theorem map_take_set {α : Type} (f : α → α) (l : List α) (k : Nat) (hk : k < l.length) : ((l.take k).map f ++ l.drop k).set k (f l[k]) = (l.take (k + 1)).map f ++ l.drop (k + 1) := by
  have h0 : ((l.take k).map f).length = k := by rw [List.length_map, List.length_take]; omega
  rw [List.set_append, if_neg (by omega), show k - ((l.take k).map f).length = 0 by omega, List.drop_eq_getElem_cons hk, List.set_cons_zero, List.take_succ_eq_append_getElem hk, List.map_append, List.append_assoc]
  rfl
theorem map_take_get {α : Type} (f : α → α) (l : List α) (k : Nat) (hk : k < l.length) (h : k < ((l.take k).map f ++ l.drop k).length) : ((l.take k).map f ++ l.drop k)[k] = l[k] := by
  rw [List.getElem_append_right (by simp; omega)]
  simp [List.length_take, Nat.min_eq_left (Nat.le_of_lt hk)]
theorem map_take_len {α : Type} (f : α → α) (l : List α) (k : Nat) : ((l.take k).map f ++ l.drop k).length = l.length := by
  rw [List.length_append, List.length_map, ← List.length_append, List.take_append_drop]

set_option maxHeartbeats 2000000 in
set_option maxRecDepth 100000 in
theorem inverseOf_any (A : Option Addr) (cap : Nat) (l : List UInt8) (w : World) (hl : RowAt w A l) (hA : A = none → l = []) (hn : l.length ≤ 1000000000) :
    Calls Try.prog 77 #[.slice A l.length cap, .func (.func 52) #[] #[]] w (CloneP w (invW l)) := by
  have hC := Clone_any A cap l w hl hA hn
  have HN := Lib.hid (show (invW l).length = l.length from ginv_len _ _)
  clear hl hA
  go_enter Try.func77, Try.ntmps77
  go_wp2_with fail
  refine hC.mono ?_
  rintro e w1 ⟨A1, c1, rfl, hown1, hb1⟩
  have HB1 := Lib.hid hb1
  have hR := Reverse_any w.heap.size A1 c1 l w1 hown1 hn hb1.size
  clear hown1 hb1 hC
  go_wp2_with fail
  refine hR.mono ?_
  rintro e w2 ⟨rfl, hown2, hb2⟩
  have HB2 := Lib.hid (HB1.out.trans hb2)
  have hlr : l.reverse.length = l.length := List.length_reverse
  have HO2 := Lib.hid hown2
  have HRL := Lib.hid hlr
  generalize hr : l.reverse = r at *
  have HR' : Hid (l.reverse = r) := Lib.hid hr
  clear hown2 hb2 hlr hr hR
  go_wp2
  go_loopw [6, 7, 14] (fun _ _ i wr => ∃ (k : Nat), k ≤ l.length ∧ i = .int .i64 (k : Int) ∧ wr.ownsRow w.heap.size 5 1 (.slice A1 l.length c1) l.length (bs ((r.take k).map invc ++ r.drop k)) ∧ Below w.heap.size w wr)
    (fun _ _ i _ => l.length - (intOf i).toNat)
  case atStart => exact ⟨0, Nat.zero_le _, rfl, by simpa using HO2.out, HB2.out⟩
  case round =>
    obtain ⟨k, hk, rfl, hown, hb⟩ := hrel
    have HOW := Lib.hid hown
    have HB := Lib.hid hb
    clear hown hb
    by_cases hlt : k < l.length
    · have hkr : k < r.length := by rw [HRL.out]; exact hlt
      obtain ⟨g, o, hA, hx⟩ := rowAt_own HOW.out k (by rw [map_take_len, HRL.out]; exact hlt)
      obtain rfl : o = 0 := by
        rcases own_shape HOW.out with ⟨h, _⟩ | ⟨g', h, _⟩
        · rw [hA] at h; cases h
        · rw [hA] at h; cases h; rfl
      subst hA
      rw [Nat.zero_add, map_take_get invc r k hkr] at hx
      have HST := Lib.hid (HOW.out.stored k (.int .u8 (invc r[k]).toNat))
      have HMS := Lib.hid (map_take_set invc r k hkr)
      have hf := HOW.out.frozenAt k
      generalize r[k] = x at *
      have hI := inverseLetter_any x wr
      clear hkr
      go_wp2_with fail
      refine hI.mono ?_
      rintro e w' ⟨rfl, rfl⟩
      go_wp2
      go_roundw
      case rel =>
        refine ⟨k + 1, by omega, by go_num, ?_, HB.out.trans ((Below.refl _ wr).setCell (p := ⟨g, k, none⟩) (show w.heap.size ≤ g from own_ge HOW.out ⟨g, 0, none⟩ rfl) _)⟩
        rw [← HMS.out, bs_set]
        exact (HST.out).1
      case measure => simp [intOf]; omega
    · obtain rfl : k = l.length := by omega
      have HE : Hid ((r.take l.length).map invc ++ r.drop l.length = invW l) := Lib.hid (by
        rw [← HRL.out, List.take_length, List.drop_length, List.append_nil, ← HR'.out]; simp [ginv])
      go_wp2
      go_ret
      refine ⟨A1, c1, ?_, ?_, HB.out⟩
      · rw [HN.out]; rfl
      · rw [HN.out, ← HE.out]; exact HOW.out
end Go.Proofs.Ytbcckfggnlmhoaa

namespace Go.Proofs.Ytbcckfggnlmhoaa
open Go Go.RowKit

theorem run_bytes_lt {w w1 : World} {l : List UInt8} {v : Value} (h : (convert 9 58 (.string ⟨l.toArray⟩)).run Try.prog w = .ok v w1) : w.heap.size < w1.heap.size := by
  have hs := Lib.run_convert_string_bytes w 9 58 5 ⟨l.toArray⟩ Try.underlying9 Try.underlying58 Try.underlying5
  rw [h] at hs
  cases hs
  rw [Lib.bytesWorld_size]; omega

set_option maxHeartbeats 1000000 in
theorem reduced_any (l : List UInt8) (w : World) (hn : l.length ≤ 1000000000) :
    Calls Try.prog 40 #[.string ⟨l.toArray⟩] w fun e w' => e = .returned (.string ⟨(red l).toArray⟩) ∧ Below w.heap.size w w' := by
  obtain ⟨w1, cap, hconv, hrow, hb, _⟩ := run_bytes w l
  have hA := appRed_any w1.heap.size none 0 [] l (some ⟨w.heap.size, 0, none⟩) cap w1 (World.ownsRow_nil _ _ _ _) hrow (fun a h => by simp [blk]) (fun a h => by cases h; exact run_bytes_lt hconv) (by simpa using hn) (Nat.le_refl _)
  simp only [List.length_nil] at hA
  have HB := Lib.hid hb
  clear hrow hb
  go_enter Try.func40, Try.ntmps40
  go_wp2_with fail
  refine hA.mono ?_
  rintro e w2 ⟨A', cap', rfl, hown, hg, hm⟩
  have hrun := run_string_row w2 A' cap' (run [] l).reverse (rowAt_own hown)
  rw [List.length_reverse] at hrun
  have HB1 := Lib.hid (HB.out.trans (below_of_grown (Below.refl w.heap.size w1) hg HB.out.size (fun a ha => by cases ha)))
  clear hown hg hm hA
  go_wp2
  go_ret
  exact ⟨rfl, HB1.out⟩

/-! PRESENTATIONS IN MEMORY. -/
abbrev prV (k : Int) (R : Option Addr) (n rc : Nat) : Value := .agg #[.int .i64 k, .slice R n rc]
abbrev prC (k : Int) (R : Option Addr) (n rc : Nat) : Array Value := #[.int .i64 k, .slice R n rc]
def RelsAt (w : World) (R : Option Addr) (rels : List (List UInt8)) : Prop :=
  ∀ i (h : i < rels.length), ∃ b o, R = some ⟨b, o, none⟩ ∧ w.cell? ⟨b, o + i, none⟩ = some (.string ⟨(rels[i]).toArray⟩) ∧ (rels[i]).length ≤ maxLen
theorem RelsAt.below {w w' : World} {R : Option Addr} {rels : List (List UInt8)} (h : RelsAt w R rels) (hb : Below w.heap.size w w') : RelsAt w' R rels := by
  intro i hi
  obtain ⟨b, o, hA, hc, hl⟩ := h i hi
  exact ⟨b, o, hA, (hb.cell (p := ⟨b, o + i, none⟩) (lt_of_cell hc)).trans hc, hl⟩

/-- A row of bytes that a call hands back: it is the call's own. -/
def RowP (w : World) (l : List UInt8) (e : Ending) (w' : World) : Prop :=
  ∃ A' cap', e = .returned (.slice A' l.length cap') ∧ RowAt w' A' l ∧ Below w.heap.size w w' ∧ (∀ a, A' = some a → w.heap.size ≤ a.block ∧ a.block < w'.heap.size) ∧ (A' = none → l = [])
theorem CloneP.row {w : World} {l : List UInt8} {e : Ending} {w' : World} (h : CloneP w l e w') : RowP w l e w' := by
  obtain ⟨A', cap', he, hown, hb⟩ := h
  refine ⟨A', cap', he, rowAt_own hown, hb, fun a ha => ?_, fun ha => ?_⟩
  · rcases own_shape hown with ⟨h, _⟩ | ⟨g, h, h1, h2⟩
    · rw [h] at ha; cases ha
    · rw [h] at ha; cases ha; exact ⟨h1, h2⟩
  · rcases own_shape hown with ⟨_, h, _⟩ | ⟨g, h, h1, h2⟩
    · exact List.length_eq_zero_iff.1 h
    · rw [h] at ha; cases ha

set_option maxHeartbeats 1000000 in
set_option maxRecDepth 100000 in
theorem relator_any (p : Pr) (R : Option Addr) (rc : Nat) (i : Int) (inv : Bool) (w : World) (hp : presB p = true) (hi : isRelB p i = true) (hr : RelsAt w R p.rels) :
    Calls Try.prog 76 #[prV p.k R p.rels.length rc, .int .i64 i, .bool inv] w (RowP w (relOf p i inv)) := by
  have h60 := (presB_k hp).2.2
  have hlen := relOf_len hp hi false
  simp only [isRelB, Bool.and_eq_true, decide_eq_true_eq] at hi
  obtain ⟨hi0, hi1⟩ := hi
  obtain ⟨n, rfl⟩ := Int.eq_ofNat_of_zero_le hi0
  have hn : n < p.rels.length := by omega
  obtain ⟨b, o, rfl, hc, _⟩ := hr n hn
  have HL : Hid (p.rels.getD n [] = p.rels[n]) := Lib.hid (by simp [List.getD, hn])
  have hl : (p.rels[n]).length ≤ 200 := by have := hlen; simp only [relOf, Int.toNat_natCast, HL.out] at this; simpa using this
  generalize hrr : p.rels[n] = l at *
  have HRR := Lib.hid hrr
  have hbw : b < w.heap.size := lt_of_cell hc
  obtain ⟨w1, cap, hconv, hrow, hb, _⟩ := run_bytes (w.alloc (.cells (prC p.k (some ⟨b, o, none⟩) p.rels.length rc) 24)) l
  have HB0 : Hid (Below w.heap.size w (w.alloc (.cells (prC p.k (some ⟨b, o, none⟩) p.rels.length rc) 24))) := Lib.hid ((Below.refl _ _).alloc (Nat.le_refl _) _)
  have HB1 := Lib.hid (HB0.out.trans (hb.mono HB0.out.size))
  simp only [World.size_alloc] at hrow
  have HROW := Lib.hid hrow
  have HLT := Lib.hid (run_bytes_lt hconv)
  clear hrr hrow hb hlen
  cases inv with
  | false =>
    have HE : Hid (relOf p (n : Int) false = l) := Lib.hid (by simp only [relOf, Int.toNat_natCast, HL.out]; rfl)
    go_enter Try.func76, Try.ntmps76
    go_wp2
    go_ret
    rw [HE.out]
    refine ⟨_, _, rfl, HROW.out, HB1.out, fun a ha => ?_, fun ha => by cases ha⟩
    cases ha
    have := HLT.out
    simp at this ⊢
    omega
  | true =>
    have HE : Hid (relOf p (n : Int) true = invW l) := Lib.hid (by simp only [relOf, Int.toNat_natCast, HL.out]; rfl)
    have hI := inverseOf_any _ cap l w1 HROW.out (fun h => by cases h) (by omega)
    go_enter Try.func76, Try.ntmps76
    go_wp2_with fail
    refine hI.mono ?_
    intro e w2 hcl
    obtain ⟨A', cap', rfl, hrow2, hb2, ha2, hn2⟩ := hcl.row
    have HR2 := Lib.hid hrow2
    have HB2 := Lib.hid hb2
    have HA2 := Lib.hid ha2
    have HN2 := Lib.hid hn2
    clear hrow2 hb2 ha2 hn2 hcl hI
    go_wp2
    go_ret
    rw [HE.out]
    exact ⟨A', cap', rfl, HR2.out, HB1.out.trans (HB2.out.mono HB1.out.size), fun a ha => ⟨Nat.le_trans HB1.out.size (HA2.out a ha).1, (HA2.out a ha).2⟩, HN2.out⟩
end Go.Proofs.Ytbcckfggnlmhoaa

namespace Go.Proofs.Ytbcckfggnlmhoaa
open Go Go.RowKit

set_option maxHeartbeats 400000 in
theorem isRel_any (p : Pr) (R : Option Addr) (rc : Nat) (i : Int) (w : World) (hm : p.rels.length ≤ maxLen) :
    Calls Try.prog 79 #[prV p.k R p.rels.length rc, .int .i64 i] w fun e w' => e = .returned (.bool (isRelB p i)) ∧ Below w.heap.size w w' := by
  unfold maxLen at hm
  have HB0 : Hid (Below w.heap.size w (w.alloc (.cells (prC p.k R p.rels.length rc) 24))) := Lib.hid ((Below.refl _ _).alloc (Nat.le_refl _) _)
  by_cases h : 0 ≤ i
  · have HR : Hid (isRelB p i = decide (i < (p.rels.length : Int))) := Lib.hid (by simp [isRelB, h])
    generalize p.rels.length = n at *
    go_enter Try.func79, Try.ntmps79
    go_wp2
    go_ret
    exact ⟨ret_bool HR.out.symm, HB0.out⟩
  · have HR : Hid (isRelB p i = false) := Lib.hid (by simp [isRelB, h])
    generalize p.rels.length = n at *
    go_enter Try.func79, Try.ntmps79
    go_wp2
    go_ret
    exact ⟨ret_bool HR.out.symm, HB0.out⟩

theorem relB_no1 {k : Int} {l : List UInt8} (h : ¬ 1 ≤ l.length) : relB k l = false := by simp [relB, h]
theorem relB_no2 {k : Int} {l : List UInt8} (h : ¬ l.length ≤ 200) : relB k l = false := by simp [relB, h]
theorem relB_no3 {k : Int} {l : List UInt8} (h : isWd k l = false) : relB k l = false := by simp [relB, h]
theorem relB_yes {k : Int} {l : List UInt8} (h1 : 1 ≤ l.length) (h2 : l.length ≤ 200) (h : isWd k l = true) : relB k l = decide (red l = l) := by simp [relB, h, h1, h2]

set_option maxHeartbeats 400000 in
theorem isRelator_any (k : Int) (l : List UInt8) (w : World) (hm : l.length ≤ maxLen) :
    Calls Try.prog 92 #[.int .i64 k, .string ⟨l.toArray⟩] w fun e w' => e = .returned (.bool (relB k l)) ∧ Below w.heap.size w w' := by
  have HSZ : (ByteArray.mk l.toArray).size = l.length := size_mk l
  have hI : Calls Try.prog 75 #[.int .i64 k, .string ⟨l.toArray⟩] w fun e w' => e = .returned (.bool (isWd k l)) ∧ w = w' := isWord_any k ⟨l.toArray⟩ w (by rw [HSZ]; exact hm)
  unfold maxLen at hm
  by_cases h1 : 1 ≤ l.length
  case neg =>
    have HR := Lib.hid (relB_no1 (k := k) h1)
    have hd : decide ((1 : Int) ≤ (l.length : Int)) = false := by simp; omega
    have hd2 : decide (1 ≤ l.length) = false := decide_eq_false h1
    go_enter Try.func92, Try.ntmps92
    go_wp2
    go_ret
    exact ⟨ret_bool HR.out.symm, Below.refl _ _⟩
  have hd : decide ((1 : Int) ≤ (l.length : Int)) = true := by simp; omega
  have hd1 : decide (1 ≤ l.length) = true := by simp; omega
  by_cases h2 : l.length ≤ 200
  case neg =>
    have HR := Lib.hid (relB_no2 (k := k) h2)
    have hd2 : decide ((l.length : Int) ≤ 200) = false := by simp; omega
    have hd3 : decide (l.length ≤ 200) = false := by simp; omega
    go_enter Try.func92, Try.ntmps92
    go_wp2
    go_ret
    exact ⟨ret_bool HR.out.symm, Below.refl _ _⟩
  have hd2 : decide ((l.length : Int) ≤ 200) = true := by simp; omega
  have hd3 : decide (l.length ≤ 200) = true := by simp; omega
  have hRd := reduced_any l w (by omega)
  cases hw : isWd k l with
  | false =>
    have HR := Lib.hid (relB_no3 (k := k) hw)
    rw [hw] at hI
    clear hw
    go_enter Try.func92, Try.ntmps92
    go_wp2_with fail
    refine hI.mono ?_
    rintro e w1 ⟨rfl, rfl⟩
    go_wp2
    go_ret
    exact ⟨ret_bool HR.out.symm, Below.refl _ _⟩
  | true =>
    have HR := Lib.hid (relB_yes h1 h2 hw)
    rw [hw] at hI
    clear hw
    have hE : (red l == l) = decide (red l = l) := by rw [Bool.eq_iff_iff]; simp
    generalize decide (red l = l) = bb at *
    generalize red l = q at *
    go_enter Try.func92, Try.ntmps92
    go_wp2_with fail
    refine hI.mono ?_
    rintro e w1 ⟨rfl, rfl⟩
    go_wp2_with fail
    refine hRd.mono ?_
    rintro e w1 ⟨rfl, hb⟩
    go_wp2
    go_ret
    exact ⟨ret_bool HR.out.symm, hb⟩

/-- A struct that lies in a box of the call's own, and whatever comes behind. -/
structure Boxd (w : World) (cs : Array Value) (t : TypeId) (wr : World) : Prop where
  below : Below (w.heap.size + 1) (w.alloc (.cells cs t)) wr
theorem Boxd.start (w : World) (cs : Array Value) (t : TypeId) : Boxd w cs t (w.alloc (.cells cs t)) := ⟨Below.refl _ _⟩
theorem Boxd.on {w : World} {cs : Array Value} {t : TypeId} {wr w' : World} (h : Boxd w cs t wr) (hb : Below wr.heap.size wr w') : Boxd w cs t w' :=
  ⟨h.below.trans (hb.mono (by have := h.below.size; simpa using this))⟩
theorem Boxd.on' {w : World} {cs : Array Value} {t : TypeId} {wr w' : World} (h : Boxd w cs t wr) (hb : Below (w.heap.size + 1) wr w') : Boxd w cs t w' := ⟨h.below.trans hb⟩
theorem Boxd.drewN {w : World} {cs : Array Value} {t : TypeId} {wr : World} (h : Boxd w cs t wr) (n : Nat) : Boxd w cs t (wr.drewN n) := ⟨h.below.drewN n⟩
theorem Boxd.old {w : World} {cs : Array Value} {t : TypeId} {wr : World} (h : Boxd w cs t wr) : Below w.heap.size w wr :=
  ((Below.refl _ w).alloc (Nat.le_refl _) _).trans (h.below.mono (by omega))
theorem Boxd.cell {w : World} {cs : Array Value} {t : TypeId} {wr : World} (h : Boxd w cs t wr) (i : Nat) : wr.cell? ⟨w.heap.size, i, none⟩ = cs[i]? := by
  rw [h.below.cell (p := ⟨w.heap.size, i, none⟩) (by simp)]
  exact cell_of_row _ w.heap.size i cs t (0, 0) (heap_alloc_new w _)
theorem Boxd.size {w : World} {cs : Array Value} {t : TypeId} {wr : World} (h : Boxd w cs t wr) : w.heap.size < wr.heap.size := by
  have := h.below.size; simp at this; omega

theorem presB_no {p : Pr} (h : ¬ (1 ≤ p.k ∧ p.k ≤ 8 ∧ p.rels.length ≤ 60)) : presB p = false := by
  cases hb : presB p with
  | false => rfl
  | true => exact absurd (presB_k hb) h
theorem presB_yes {p : Pr} (h1 : 1 ≤ p.k) (h2 : p.k ≤ 8) (h3 : p.rels.length ≤ 60) : presB p = p.rels.all (relB p.k) := by simp [presB, h1, h2, h3]
theorem all_take_succL {α : Type} (l : List α) (q : α → Bool) (n : Nat) (h : n < l.length) : (l.take (n + 1)).all q = ((l.take n).all q && q l[n]) := by
  rw [List.take_succ_eq_append_getElem h]; simp only [List.all_append, List.all_cons, List.all_nil, Bool.and_true]
theorem all_noL {α : Type} (l : List α) (q : α → Bool) (n : Nat) (h : n < l.length) (hq : q l[n] = false) : l.all q = false := by
  rw [List.all_eq_false]; exact ⟨l[n], List.getElem_mem _, by simp [hq]⟩

set_option maxHeartbeats 1000000 in
set_option maxRecDepth 100000 in
theorem isPresentation_any (p : Pr) (R : Option Addr) (rc : Nat) (w : World) (hr : RelsAt w R p.rels) (hm : p.rels.length ≤ maxLen) :
    Calls Try.prog 74 #[prV p.k R p.rels.length rc] w fun e w' => e = .returned (.bool (presB p)) ∧ Below w.heap.size w w' := by
  unfold maxLen at hm
  have HBX := Lib.hid (Boxd.start w (prC p.k R p.rels.length rc) 24)
  by_cases h1 : p.k < 1
  · have HR := Lib.hid (presB_no (p := p) (by omega))
    have hd : decide (p.k < 1) = true := by simpa using h1
    clear hr
    generalize p.rels.length = n at *
    go_enter Try.func74, Try.ntmps74
    go_wp2
    go_ret
    exact ⟨ret_bool HR.out.symm, HBX.out.old⟩
  have hd1 : decide (p.k < 1) = false := by simpa using h1
  by_cases h2 : 8 < p.k
  · have HR := Lib.hid (presB_no (p := p) (by omega))
    have hd : decide (8 < p.k) = true := by simpa using h2
    clear hr
    generalize p.rels.length = n at *
    go_enter Try.func74, Try.ntmps74
    go_wp2
    go_ret
    exact ⟨ret_bool HR.out.symm, HBX.out.old⟩
  have hd2 : decide (8 < p.k) = false := by simpa using h2
  by_cases h3 : 60 < p.rels.length
  · have HR := Lib.hid (presB_no (p := p) (by omega))
    have hd : decide ((60 : Int) < (p.rels.length : Int)) = true := by simp; omega
    have hd' : decide (60 < p.rels.length) = true := by simpa using h3
    clear hr
    generalize p.rels.length = n at *
    go_enter Try.func74, Try.ntmps74
    go_wp2
    go_ret
    exact ⟨ret_bool HR.out.symm, HBX.out.old⟩
  have hd3 : decide ((60 : Int) < (p.rels.length : Int)) = false := by simp; omega
  have hd3' : decide (60 < p.rels.length) = false := by simpa using h3
  have HR := Lib.hid (presB_yes (p := p) (by omega) (by omega) (by omega))
  have HREL := Lib.hid hr
  clear hr
  go_enter Try.func74, Try.ntmps74
  go_wp2
  go_loopw [4, 22] (fun _ i wr => ∃ n : Nat, n ≤ p.rels.length ∧ i = .int .i64 n ∧ (p.rels.take n).all (relB p.k) = true ∧ Boxd w (prC p.k R p.rels.length rc) 24 wr) (fun _ i _ => p.rels.length - (intOf i).toNat)
  case atStart => exact ⟨0, Nat.zero_le _, rfl, rfl, HBX.out⟩
  case round =>
    obtain ⟨n, hn, rfl, hall, hbx⟩ := hrel
    have HA := Lib.hid hall
    have HX := Lib.hid hbx
    clear hall hbx
    by_cases hlt : n < p.rels.length
    · have HS := Lib.hid (all_take_succL p.rels (relB p.k) n hlt)
      have HN := Lib.hid (all_noL p.rels (relB p.k) n hlt)
      obtain ⟨b, o, hR, hc, hl⟩ := (HREL.out.below HX.out.old) n hlt
      have c0 := HX.out.cell 0
      have hsz := HX.out.size
      have hI := isRelator_any p.k p.rels[n] wr hl
      subst hR
      simp only [List.getElem?_toArray, List.getElem?_cons_zero] at c0
      clear hl
      cases hb : relB p.k p.rels[n] with
      | false =>
        rw [hb] at hI
        have HZ := Lib.hid (HN.out hb)
        clear hb
        generalize p.rels[n] = r at *
        go_wp2_with fail
        refine hI.mono ?_
        rintro e w1 ⟨rfl, hb⟩
        go_wp2
        go_ret
        exact ⟨ret_bool (by rw [HR.out, HZ.out]), (HX.out.on hb).old⟩
      | true =>
        rw [hb] at hI HS
        clear hb
        generalize p.rels[n] = r at *
        go_wp2_with fail
        refine hI.mono ?_
        rintro e w1 ⟨rfl, hb⟩
        have HB := Lib.hid hb
        clear hb
        go_wp2
        go_roundw
        case rel => exact ⟨n + 1, by omega, by go_num, by rw [HS.out, HA.out]; rfl, HX.out.on HB.out⟩
        case measure => simp [intOf]; omega
    · obtain rfl : n = p.rels.length := by omega
      have HZ := HA.out
      rw [List.take_length] at HZ
      have HZ := Lib.hid HZ
      go_wp2
      go_ret
      exact ⟨ret_bool (by rw [HR.out, HZ.out]), HX.out.old⟩
end Go.Proofs.Ytbcckfggnlmhoaa

namespace Go.Proofs.Ytbcckfggnlmhoaa
open Go Go.RowKit

/-! CELLS IN MEMORY. -/
abbrev Cel.val (c : Cel) : Value := .agg #[.string ⟨c.conj.toArray⟩, .int .i64 c.rel, .bool c.inv]
abbrev celC (c : List UInt8) (r : Int) (i : Bool) : Array Value := #[.string ⟨c.toArray⟩, .int .i64 r, .bool i]
structure CelAt (w : World) (b o : Nat) (c : Cel) : Prop where
  conj : w.cell? ⟨b, o, none⟩ = some (.string ⟨c.conj.toArray⟩)
  rel : w.cell? ⟨b, o + 1, none⟩ = some (.int .i64 c.rel)
  inv : w.cell? ⟨b, o + 2, none⟩ = some (.bool c.inv)
  len : c.conj.length ≤ 140737488351232
def CellsAt (w : World) (D : Option Addr) (d : List Cel) : Prop :=
  ∀ i (h : i < d.length), ∃ b o, D = some ⟨b, o, none⟩ ∧ CelAt w b (o + i * 3) d[i]
theorem CelAt.below {w w' : World} {b o : Nat} {c : Cel} (h : CelAt w b o c) (hb : Below w.heap.size w w') : CelAt w' b o c :=
  ⟨(hb.cell (p := ⟨b, o, none⟩) (lt_of_cell h.conj)).trans h.conj, (hb.cell (p := ⟨b, o + 1, none⟩) (lt_of_cell h.rel)).trans h.rel, (hb.cell (p := ⟨b, o + 2, none⟩) (lt_of_cell h.inv)).trans h.inv, h.len⟩
theorem CellsAt.below {w w' : World} {D : Option Addr} {d : List Cel} (h : CellsAt w D d) (hb : Below w.heap.size w w') : CellsAt w' D d := by
  intro i hi
  obtain ⟨b, o, hA, hc⟩ := h i hi
  exact ⟨b, o, hA, hc.below hb⟩

theorem conjs_take_succ (d : List Cel) (k : Nat) (h : k < d.length) : conjs (d.take (k + 1)) = conjs (d.take k) + (d[k]).conj.length := by
  rw [List.take_succ_eq_append_getElem h, conjs_app]; simp [conjs]
theorem conjs_take_le (d : List Cel) (k : Nat) : conjs (d.take k) ≤ conjs d := by
  have := conjs_app (d.take k) (d.drop k); rw [List.take_append_drop] at this; omega
theorem diskB_long {p : Pr} {d : List Cel} (h : 100000 < d.length) : diskB p d = false := by
  have : ¬ d.length ≤ 100000 := by omega
  simp [diskB, this]
theorem diskB_fat {p : Pr} {d : List Cel} (h : 1000000 < conjs d) : diskB p d = false := by
  have : ¬ conjs d ≤ 1000000 := by omega
  simp [diskB, this]
theorem diskB_bad {p : Pr} {d : List Cel} (h : d.all (cellB p) = false) : diskB p d = false := by simp [diskB, h]
theorem diskB_good {p : Pr} {d : List Cel} (h1 : d.length ≤ 100000) (h2 : conjs d ≤ 1000000) (h : d.all (cellB p) = true) : diskB p d = true := by simp [diskB, h, h1, h2]

set_option maxHeartbeats 2000000 in
set_option maxRecDepth 100000 in
theorem isDisk_any (p : Pr) (R : Option Addr) (rc : Nat) (D : Option Addr) (dc : Nat) (d : List Cel) (w : World) (hd : CellsAt w D d) (hm : p.rels.length ≤ maxLen) (hdm : d.length ≤ maxLen) :
    Calls Try.prog 46 #[prV p.k R p.rels.length rc, .slice D d.length dc] w fun e w' => e = .returned (.bool (diskB p d)) ∧ Below w.heap.size w w' := by
  have HM := Lib.hid hm
  have HBX := Lib.hid (Boxd.start w (prC p.k R p.rels.length rc) 24)
  have HD := Lib.hid hd
  clear hm hd
  unfold maxLen at hdm
  by_cases hlong : 100000 < d.length
  · have HR := Lib.hid (diskB_long (p := p) hlong)
    have hd1 : decide ((100000 : Int) < (d.length : Int)) = true := by simp; omega
    have hd2 : decide (100000 < d.length) = true := by simpa using hlong
    go_enter Try.func46, Try.ntmps46
    go_wp2
    go_ret
    exact ⟨ret_bool HR.out.symm, HBX.out.old⟩
  have hd1 : decide ((100000 : Int) < (d.length : Int)) = false := by simp; omega
  have hd2 : decide (100000 < d.length) = false := by simpa using hlong
  go_enter Try.func46, Try.ntmps46
  go_wp2
  go_loopw [5, 7, 13] (fun s _ i wr => ∃ (n m : Nat), n ≤ d.length ∧ i = .int .i64 (n : Int) ∧ s = .int .i64 (m : Int) ∧ m = conjs (d.take n) ∧ m ≤ 1000000 ∧ (d.take n).all (cellB p) = true ∧ Boxd w (prC p.k R p.rels.length rc) 24 wr) (fun _ _ i _ => d.length - (intOf i).toNat)
  case atStart => exact ⟨0, 0, Nat.zero_le _, rfl, rfl, rfl, by omega, rfl, HBX.out⟩
  case round =>
    obtain ⟨n, m, hn, rfl, rfl, hmm, hm1, hall, hbx⟩ := hrel
    have HMM := Lib.hid hmm
    have HA := Lib.hid hall
    have HX := Lib.hid hbx
    clear hmm hall hbx
    by_cases hlt : n < d.length
    · have HS := Lib.hid (all_take_succL d (cellB p) n hlt)
      have HN := Lib.hid (all_noL d (cellB p) n hlt)
      have HC : Hid (conjs (d.take (n + 1)) = m + (d[n]).conj.length) := Lib.hid (by rw [conjs_take_succ d n hlt, HMM.out])
      have HL := Lib.hid (conjs_take_le d (n + 1))
      obtain ⟨b, o, hD, hcel⟩ := (HD.out.below HX.out.old) n hlt
      obtain ⟨q1, q2, q3, q4⟩ := hcel
      subst hD
      have HCB : Hid (cellB p d[n] = (isRelB p (d[n]).rel && isWd p.k (d[n]).conj)) := Lib.hid rfl
      generalize d[n] = x at *
      obtain ⟨c, rel, inv⟩ := x
      simp only at q1 q2 q3 q4
      have HCB : Hid (cellB p ⟨c, rel, inv⟩ = (isRelB p rel && isWd p.k c)) := HCB
      have HC : Hid (conjs (d.take (n + 1)) = m + c.length) := HC
      have hsz := HX.out.size
      have HSZ : (ByteArray.mk c.toArray).size = c.length := size_mk c
      have HX2 := Lib.hid (Boxd.start wr (celC c rel inv) 61)
      have HX1 := Lib.hid (HX.out.on HX2.out.old)
      by_cases hbig : 1000000 < m + c.length
      · have HR := Lib.hid (diskB_fat (p := p) (d := d) (by have := HL.out; rw [HC.out] at this; omega))
        have hd3 : decide ((1000000 : Int) < (m : Int) + (c.length : Int)) = true := by simp; omega
        have hd4 : decide (1000000 < m + c.length) = true := by simpa using hbig
        go_wp2
        go_ret
        exact ⟨ret_bool HR.out.symm, HX1.out.old⟩
      · have hd3 : decide ((1000000 : Int) < (m : Int) + (c.length : Int)) = false := by simp; omega
        have hd4 : decide (1000000 < m + c.length) = false := by simpa using hbig
        have hI := isRel_any p R rc rel (wr.alloc (.cells (celC c rel inv) 61)) HM.out
        have c0 := HX1.out.cell 0
        have c1 := HX1.out.cell 1
        simp only [List.getElem?_toArray, List.getElem?_cons_zero, List.getElem?_cons_succ] at c0 c1
        cases hrel : isRelB p rel with
        | false =>
          rw [hrel] at hI
          have HR := Lib.hid (diskB_bad (p := p) (d := d) (HN.out (by rw [HCB.out, hrel]; rfl)))
          clear hrel
          go_wp2_with fail
          refine hI.mono ?_
          rintro e w1 ⟨rfl, hb1⟩
          go_wp2
          go_ret
          exact ⟨ret_bool HR.out.symm, (HX1.out.on hb1).old⟩
        | true =>
          rw [hrel] at hI HCB
          have HREL := Lib.hid hrel
          clear hrel
          go_wp2_with fail
          refine hI.mono ?_
          rintro e w1 ⟨rfl, hb1⟩
          have HX3 := Lib.hid (HX1.out.on hb1)
          have HX4 := Lib.hid (HX2.out.on hb1)
          have k0 := HX3.out.cell 0
          have k1 := HX4.out.cell 0
          simp only [List.getElem?_toArray, List.getElem?_cons_zero, List.getElem?_cons_succ] at k0 k1
          have hW : Calls Try.prog 75 #[.int .i64 p.k, .string ⟨c.toArray⟩] w1 fun e w' => e = .returned (.bool (isWd p.k c)) ∧ w1 = w' := isWord_any p.k ⟨c.toArray⟩ w1 (by rw [HSZ]; unfold maxLen; omega)
          clear hb1 c0 c1 q1 q2 q3 hI
          cases hw : isWd p.k c with
          | false =>
            rw [hw] at hW
            have HR := Lib.hid (diskB_bad (p := p) (d := d) (HN.out (by rw [HCB.out, hw]; rfl)))
            clear hw
            go_wp2_with fail
            refine hW.mono ?_
            rintro e w2 ⟨rfl, rfl⟩
            go_wp2
            go_ret
            exact ⟨ret_bool HR.out.symm, HX3.out.old⟩
          | true =>
            rw [hw] at hW HCB
            clear hw
            go_wp2_with fail
            refine hW.mono ?_
            rintro e w2 ⟨rfl, rfl⟩
            go_wp2
            go_roundw
            case rel => exact ⟨n + 1, m + c.length, by omega, by go_num, by go_num, HC.out.symm, by omega, by rw [HS.out, HA.out, HCB.out]; rfl, HX3.out⟩
            case measure => simp [intOf]; omega
    · obtain rfl : n = d.length := by omega
      have HZ := HA.out
      have HMZ := HMM.out
      rw [List.take_length] at HZ HMZ
      have HR := Lib.hid (diskB_good (p := p) (d := d) (by omega) (by omega) HZ)
      clear HZ HMZ
      go_wp2
      go_ret
      exact ⟨ret_bool HR.out.symm, HX.out.old⟩
end Go.Proofs.Ytbcckfggnlmhoaa
