/-
  Our own text, in the proofs of the laws of package word (cayleylaw01). Proved here: bytes as cells, and string(bytes) of an own row. Conditions: the arguments read as the row says and the listed tables lie as the program lays them; none other.
-/
import Derived.Test.YtflieikbhgneoaaGreatDoorBase
import Derived.OwnWalk
import Derived.Laws.BytesString
namespace Go.Proofs.YtflieikbhgneoaaGreatDoor
open Go Go.RowKit

/-- The cells of a row of bytes. -/
def bs (l : List UInt8) : List Value := l.map fun c => Value.int .u8 c.toNat

theorem foldl_push_bytes (l : List UInt8) : ∀ s : ByteArray, (l.map fun c => (c.toNat : Int)).foldl (fun (r : ByteArray) n => r.push (UInt8.ofNat n.toNat)) s = ⟨s.data ++ l.toArray⟩ := by
  induction l with
  | nil => intro s; simp
  | cons c l ih =>
    intro s
    rw [List.map_cons, List.foldl_cons, ih]
    cases s with | mk d => 
    show ByteArray.mk (d.push _ ++ l.toArray) = ByteArray.mk (d ++ (c :: l).toArray)
    congr 1
    apply Array.ext'
    simp

theorem run_string_own {P : Program} (w : World) (src dst e : TypeId) (hs : P.underlying src = some (.slice e)) (he : P.underlying e = some (.int .u8)) (hd : P.underlying dst = some .string)
    (base : Nat) (A : Option Addr) (n cap : Nat) (l : List UInt8) (hown : w.ownsRow base e 1 (.slice A n cap) n (bs l)) :
    (convert src dst (.slice A n cap)).run P w = .ok (.string ⟨l.toArray⟩) w := by
  rw [run_convert_bytes_string w src dst e A n cap hs he hd]
  have hl : l.length = n := by have := hown.1; simpa [bs] using this
  cases A with
  | none =>
    rcases hown.2 with ⟨h1, h2⟩ | ⟨g, c, cur, h1, _⟩
    · have : l = [] := by cases l with
        | nil => rfl
        | cons c l => simp_all [bs]
      subst this
      simp [Conv.bytesToString, Sem.run_pure]
      rfl
    · simp at h1
  | some ad =>
    rcases hown.2 with ⟨h1, h2⟩ | ⟨g, c, cur, h1, hrest⟩
    · simp at h1
    · simp only [Value.slice.injEq, Option.some.injEq, true_and] at h1
      obtain ⟨rfl, rfl⟩ := h1
      have hc := hown.cells (g := g) rfl
      have hrun := run_loadCells_list (P := P) (w := w) (⟨g, 0, none⟩ : Addr) (bs l) hc
      have : (bs l).length = n := by simp [bs, hl]
      rw [this] at hrun
      have e2 : bs l = (l.map fun c => (c.toNat : Int)).map (Value.int .u8) := by simp [bs]
      rw [e2] at hrun
      rw [run_bytesToString w _ n cap _ hrun]
      rw [foldl_push_bytes]
      congr 2
      show ByteArray.mk (#[] ++ l.toArray) = _
      simp

theorem wpList_string_own {P : Program} (w : World) {ops : Array Oper} {rest : List Oper} {o : Oper} {a : Act} {Q : Exit → Act → World → Prop}
    (hg : o.guard = none) (x : Operand) (src dst e : TypeId) (hop : o.op = Op.convert src dst x) (hs : P.underlying src = some (.slice e)) (he : P.underlying e = some (.int .u8)) (hd : P.underlying dst = some .string)
    (base : Nat) (A : Option Addr) (n cap : Nat) (l : List UInt8) (hx : a.eval x = .slice A n cap) (hown : w.ownsRow base e 1 (.slice A n cap) n (bs l))
    (hK : wpList P ops Q rest (a.put o.dst (.string ⟨l.toArray⟩)) w) :
    wpList P ops Q (o :: rest) a w := by
  refine wpList_plain hg fun K hK' => ?_
  have hrun := run_string_own (P := P) w src dst e hs he hd base A n cap l hown
  unfold Oper.wp
  simp [execOp, hop, hx, hrun, Result.andThen]
  exact hK' _ _ hK
end Go.Proofs.YtflieikbhgneoaaGreatDoor
