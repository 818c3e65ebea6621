/-
  Our own text, in the proofs of the laws of package word (cayleylaw01). Proved here: the law of an append of one byte. Conditions: the arguments read as the row says and the listed tables lie as the program lays them; none other.
-/
import Derived.Test.YtflieikbhgneoaaGreatDoorWd
namespace Go.Proofs.YtflieikbhgneoaaGreatDoor
open Go Go.RowKit

theorem bs_append (l m : List UInt8) : bs (l ++ m) = bs l ++ bs m := by simp [bs]
theorem bs_len (l : List UInt8) : (bs l).length = l.length := by simp [bs]


/-- append of one byte, by its literal slice. -/
theorem append_byte {ops : Array Oper} {rest : List Oper} {o : Oper} {a : Act} {Q : Exit → Act → World → Prop} (w : World) (hgd : o.guard = none) (s x : Operand)
    (ho : o.op = .call { callee := .builtin .append, args := #[s, x], argTypes := #[48, 48] })
    (B : Nat) (A : Option Addr) (n cap : Nat) (l : List UInt8) (c : UInt8) (hs : a.eval s = .slice A n cap) (hown : w.ownsRow B 5 1 (.slice A n cap) n (bs l))
    (v : Value) (hv : v = .int .u8 c.toNat) (hx : a.eval x = .slice (some ⟨w.heap.size, 0, none⟩) 1 1) (hn : n ≤ 1000000000000) (hB : B ≤ w.heap.size)
    (h : ∀ A' cap' w', w'.ownsRow B 5 1 (.slice A' (n + 1) cap') (n + 1) (bs (l ++ [c])) → Below B w w' → wpList Tryz.prog ops Q rest (a.put o.dst (.slice A' (n + 1) cap')) w') :
    wpList Tryz.prog ops Q (o :: rest) a (w.alloc (.cells #[v] 5)) := by
  subst hv
  obtain ⟨i0, hi, hz0, hz1, hz2⟩ := info_parts Tryz.info5
  refine wpList_append_own _ hgd s x 48 ho B 5 i0 (.int .u8 0) 1 1 Tryz.underlying48 hi hz0 hz1 hz2 rfl (by decide) _ n (bs l) hs (hown.alloc _) ⟨w.heap.size, 0, none⟩ 1 1 [.int .u8 c.toNat] hx rfl (news_one w _ _) (by intro u hu; simp at hu; subst hu; rfl) (by unfold maxLen; omega) (by omega) (by simp; omega) ?_
  intro v' w' hown' hgrow _
  have hlt := hown.lt
  have hb : Below B w w' := ((Below.refl B w).alloc hB _).grown hgrow (by simp; omega) (fun k hk => (hlt k hk).1)
  rcases hown'.2 with ⟨_, hx⟩ | ⟨g, c', cur, rfl, _⟩
  · simp at hx
  · exact h _ _ _ (by rw [bs_append]; exact hown') hb
end Go.Proofs.YtflieikbhgneoaaGreatDoor
