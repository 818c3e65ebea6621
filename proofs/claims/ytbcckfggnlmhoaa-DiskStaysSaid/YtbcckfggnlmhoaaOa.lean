/-
  Our own text, in the proof of the law DiskStays of package disk (cayleylaw04). Proved here: append of strings, and of moves, or of nothing, to an own row. Conditions: none but bounds.
-/
import Derived.Test.YtbcckfggnlmhoaaNb
namespace Go.Proofs.Ytbcckfggnlmhoaa
open Go Go.RowKit

theorem Try.info9 : (Try.prog.info? 9).map (fun i => (i.zero, i.size, i.bytes)) = some (some (.string ⟨#[]⟩), 1, 16) := by kernel_rfl
def ss (l : List (List UInt8)) : List Value := l.map fun r => .string ⟨r.toArray⟩
theorem ss_one (l : List (List UInt8)) : ∀ u ∈ ss l, u.oneCell' = true := by
  intro u hu
  obtain ⟨r, _, rfl⟩ := List.mem_map.1 hu
  rfl
theorem ss_news {w : World} {ad : Addr} {l : List (List UInt8)} (h : RelsAt w (some ad) l) : ∀ j u, (ss l)[j]? = some u → w.cell? (ad.add j) = some u := by
  intro j u hj
  have hjl : j < l.length := by
    rcases Nat.lt_or_ge j l.length with h | h
    · exact h
    · rw [List.getElem?_eq_none (by simpa [ss] using h)] at hj; cases hj
  obtain ⟨b, o, hA, hc, _⟩ := h j hjl
  cases hA
  rw [add_lit]
  rw [hc]
  simp only [ss, List.getElem?_map, List.getElem?_eq_getElem hjl, Option.map_some] at hj
  exact hj
theorem rels_own {w : World} {B n cap : Nat} {A : Option Addr} {l : List (List UInt8)} (h : w.ownsRow B 9 1 (.slice A n cap) n (ss l)) (hs : ∀ r ∈ l, r.length ≤ maxLen) : RelsAt w A l := by
  intro i hi
  have hl : l.length = n := by have := h.1; simpa [ss] using this
  rcases h.2 with ⟨h2, h3⟩ | ⟨g, c', cur, hv, hg, hh, hnc, hcm, hcs, ht⟩
  · omega
  · simp only [Value.slice.injEq, true_and] at hv
    obtain ⟨rfl, rfl⟩ := hv
    refine ⟨g, 0, rfl, ?_, hs _ (List.getElem_mem _)⟩
    rw [cell_of_row w g (0 + i) cur 9 (0, 0) hh]
    have : (cur.toList.take (n * 1))[i]? = (ss l)[i]? := by rw [ht]
    rw [List.getElem?_take, if_pos (by omega)] at this
    rw [Nat.zero_add, ← Array.getElem?_toList, this]
    simp [ss, hi]
theorem append_optS {ops : Array Oper} {rest : List Oper} {o : Oper} {a : Act} {Q : Exit → Act → World → Prop} (w : World) (hgd : o.guard = none) (s x : Operand)
    (ho : o.op = .call { callee := .builtin .append, args := #[s, x], argTypes := #[22, 22] })
    (B : Nat) (A : Option Addr) (n cap : Nat) (r t : List (List UInt8)) (hs : a.eval s = .slice A n cap) (hown : w.ownsRow B 9 1 (.slice A n cap) n (ss r))
    (X : Option Addr) (m c : Nat) (hx : a.eval x = .slice X m c) (hm : m = t.length) (hr : RelsAt w X t) (hX : X = none → t = [] ∧ c = 0) (hn : n + m ≤ 1000000000) (hB : B ≤ w.heap.size)
    (h : ∀ A' cap' w', w'.ownsRow B 9 1 (.slice A' (n + m) cap') (n + m) (ss (r ++ t)) → Below B w w' → wpList Try.prog ops Q rest (a.put o.dst (.slice A' (n + m) cap')) w') :
    wpList Try.prog ops Q (o :: rest) a w := by
  obtain ⟨i0, hi, hz0, hz1, hz2⟩ := info_parts Try.info9
  cases X with
  | none =>
    obtain ⟨rfl, rfl⟩ := hX rfl
    obtain rfl : m = 0 := hm
    refine wpList_append_own_none hgd s x 22 ho B 9 i0 1 Try.underlying22 hi _ n (ss r) hs hown hx ?_
    have := h A cap w (by simpa using hown) (Below.refl _ _)
    simpa using this
  | some ad =>
    subst hm
    refine append_gen w hgd s x 22 ho 9 i0 (.string ⟨#[]⟩) 1 16 Try.underlying22 hi hz0 hz1 hz2 rfl (by decide) B A n cap (ss r) hs hown ad t.length c (ss t) hx (by simp [ss]) (ss_news hr) (ss_one t) (by unfold maxLen; omega) (by omega) hB ?_
    intro A' cap' w' hown' hgrow hm
    exact h A' cap' w' (by unfold ss at *; rw [List.map_append]; exact hown') (below_of_grown (Below.refl B w) hgrow hB (own_ge hown))
theorem ms6_news {w : World} {ad : Addr} {ms : List Mv} (h : MovesAt w (some ad) ms) : ∀ j u, (ms6 ms)[j]? = some u → w.cell? (ad.add j) = some u := by
  intro j u hj
  have hjl : j < ms.length * 6 := by
    rcases Nat.lt_or_ge j (ms.length * 6) with h | h
    · exact h
    · rw [List.getElem?_eq_none (by rw [ms6_len]; exact h)] at hj; cases hj
  have hi : j / 6 < ms.length := by omega
  obtain ⟨b, o, hA, hc, _⟩ := h (j / 6) hi
  cases hA
  have hk : j / 6 * 6 + j % 6 = j := by omega
  have e := ms6_get ms (j / 6) hi (j % 6) (by omega)
  rw [hk, hj] at e
  have e2 : (mv6 ms[j / 6])[j % 6]? = (mvC ms[j / 6])[j % 6]? := by unfold mv6 mvC; simp
  have := hc (j % 6) u (by rw [← e2]; exact e.symm)
  rw [add_lit]
  rw [show o + j = o + j / 6 * 6 + j % 6 by omega]
  exact this
theorem ms6_one (ms : List Mv) : ∀ u ∈ ms6 ms, u.oneCell' = true := by
  intro u hu
  obtain ⟨m, _, hm⟩ := List.mem_flatMap.1 hu
  exact mv6_one m u (by simpa [ms6] using hm)
theorem append_optM {ops : Array Oper} {rest : List Oper} {o : Oper} {a : Act} {Q : Exit → Act → World → Prop} (w : World) (hgd : o.guard = none) (s x : Operand)
    (ho : o.op = .call { callee := .builtin .append, args := #[s, x], argTypes := #[39, 39] })
    (B : Nat) (A : Option Addr) (n cap : Nat) (r t : List Mv) (hs : a.eval s = .slice A n cap) (hown : w.ownsRow B 52 6 (.slice A n cap) n (ms6 r))
    (X : Option Addr) (m c : Nat) (hx : a.eval x = .slice X m c) (hm : m = t.length) (hr : MovesAt w X t) (hX : X = none → t = [] ∧ c = 0) (hn : n + m ≤ 1000000000) (hB : B ≤ w.heap.size)
    (h : ∀ A' cap' w', w'.ownsRow B 52 6 (.slice A' (n + m) cap') (n + m) (ms6 (r ++ t)) → Below B w w' → wpList Try.prog ops Q rest (a.put o.dst (.slice A' (n + m) cap')) w') :
    wpList Try.prog ops Q (o :: rest) a w := by
  obtain ⟨i0, hi, hz0, hz1, hz2⟩ := info_parts Try.info52
  cases X with
  | none =>
    obtain ⟨rfl, rfl⟩ := hX rfl
    obtain rfl : m = 0 := hm
    refine wpList_append_own_none hgd s x 39 ho B 52 i0 6 Try.underlying39 hi _ n (ms6 r) hs hown hx ?_
    have := h A cap w (by simpa using hown) (Below.refl _ _)
    simpa using this
  | some ad =>
    subst hm
    refine append_gen w hgd s x 39 ho 52 i0 (.agg #[.int .i64 0, .int .i64 0, .int .i64 0, .int .i64 0, .int .i64 0, .bool false]) 6 48 Try.underlying39 hi hz0 hz1 hz2 rfl (by decide) B A n cap (ms6 r) hs hown ad t.length c (ms6 t) hx (by rw [ms6_len]) (ms6_news hr) (ms6_one t) (by unfold maxLen; omega) (by omega) hB ?_
    intro A' cap' w' hown' hgrow hm
    exact h A' cap' w' (by rw [ms6_app]; exact hown') (below_of_grown (Below.refl B w) hgrow hB (own_ge hown))
end Go.Proofs.Ytbcckfggnlmhoaa
