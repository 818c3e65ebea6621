/-
  Our own text, in the proofs of the laws of package word (cayleylaw01). Proved here: the opening of the laws, and the calls that they make. Conditions: the arguments read as the row says and the listed tables lie as the program lays them; none other.
-/
import Derived.Test.YtflieikbhgneoaaDoorMb
namespace Go.Proofs.YtflieikbhgneoaaDoor
open Go Go.RowKit

/-- The laws' opening: sane, then the words' check over a fresh row of strings. -/
def strs (ls : List (List UInt8)) : List Value := ls.map fun l => .string ⟨l.toArray⟩
theorem words_at (w0 w : World) (h : St w0 w) (ls : List (List UInt8)) (o : Obj) (ho : o = .cells (strs ls).toArray 9) (n : Nat) (hn : n = ls.length) (hl : ls.length ≤ 100) (hs : ∀ l ∈ ls, l.length ≤ maxLen) :
    Calls Tryd.prog 10 #[.slice (some ⟨w.heap.size, 0, none⟩) n n] (w.alloc o) fun e w' => e = .returned (.bool (ls.all okW)) ∧ St w0 w' := by
  subst ho hn
  have hb : (w.alloc (.cells (strs ls).toArray 9)).heap[w.heap.size]? = some (.cells (strs ls).toArray 9 (0, 0)) := heap_alloc_new w _
  have hW := words_any (ls.map fun l => ⟨l.toArray⟩) ⟨w.heap.size, 0, none⟩ ls.length (w.alloc (.cells (strs ls).toArray 9)) (by simpa using hl)
    (fun s hs' => by
      obtain ⟨l, hl', rfl⟩ := List.mem_map.1 hs'
      rw [size_mk]; exact hs l hl')
    (fun i hi => by
      have := cell_of_row (w.alloc (.cells (strs ls).toArray 9)) w.heap.size i (strs ls).toArray 9 (0, 0) hb
      have ea : (⟨w.heap.size, 0, none⟩ : Addr).add i = ⟨w.heap.size, i, none⟩ := by simp only [Addr.add, Nat.zero_add]; split <;> simp_all
      rw [ea, this]
      simp at hi
      simp [strs, hi])
  rw [List.length_map] at hW
  refine hW.mono ?_
  rintro e w' ⟨rfl, rfl⟩
  refine ⟨?_, h.on ((Below.refl w.heap.size w).alloc (Nat.le_refl _) _)⟩
  congr 2
  rw [List.all_map]
  rfl

theorem s_sane (w0 w : World) (h : St w0 w) : Calls Tryd.prog 9 #[] w fun e w' => e = .returned (.bool true) ∧ St w0 w' :=
  (sane_any w h.tabs).mono fun _ _ k => ⟨k.1, h.on k.2⟩
theorem s_cmp (w0 w : World) (h : St w0 w) (u v : List UInt8) (hu : u.length ≤ 100000) (hv : v.length ≤ 100000) (n : Int) (hn : cmpW u v = n) :
    Calls Tryd.prog 18 #[.string ⟨u.toArray⟩, .string ⟨v.toArray⟩] w fun e w' => e = .returned (.int .i64 n) ∧ St w0 w' := by
  refine (Compare_any ⟨u.toArray⟩ ⟨v.toArray⟩ w h.tabs (by rw [size_mk]; unfold maxLen; omega) (by rw [size_mk]; unfold maxLen; omega)).mono ?_
  rintro e w' ⟨rfl, k, rfl⟩
  exact ⟨by rw [← hn], h.drewN k⟩
theorem s_red (w0 w : World) (h : St w0 w) (u v : List UInt8) (hu : isW u = true) (hn : red u = v) :
    Calls Tryd.prog 11 #[.string ⟨u.toArray⟩] w fun e w' => e = .returned (.string ⟨v.toArray⟩) ∧ St w0 w' := by
  have hl := isW_len hu
  refine (Reduce_yes ⟨u.toArray⟩ w h.tabs hu (by rw [size_mk]; omega)).mono ?_
  rintro e w' ⟨rfl, k⟩
  exact ⟨by rw [← hn], h.on k⟩
theorem s_invW (w0 w : World) (h : St w0 w) (u v : List UInt8) (hu : isW u = true) (hn : invW u = v) :
    Calls Tryd.prog 14 #[.string ⟨u.toArray⟩] w fun e w' => e = .returned (.string ⟨v.toArray⟩) ∧ St w0 w' := by
  have hl := isW_len hu
  refine (Inverse_yes ⟨u.toArray⟩ w h.tabs hu (by rw [size_mk]; omega)).mono ?_
  rintro e w' ⟨rfl, k⟩
  exact ⟨by rw [← hn], h.on k⟩

theorem okW_isW {l : List UInt8} (h : okW l = true) : isW l = true := by unfold okW at h; simp only [Bool.and_eq_true] at h; exact h.2
theorem okW_len {l : List UInt8} (h : okW l = true) : l.length ≤ 1000 := by unfold okW at h; simp only [Bool.and_eq_true, decide_eq_true_eq] at h; exact h.1
theorem isW_app {u v : List UInt8} (hu : isW u = true) (hv : isW v = true) (hl : u.length + v.length ≤ 100000) : isW (u ++ v) = true :=
  isW_of (by simpa using hl) (by rw [List.all_append, isW_all hu, isW_all hv]; rfl)

theorem cat_run (a b c : List UInt8) (h : a ++ b = c) (hl : a.length + b.length ≤ 100000000) (w : World) : (binOp .add 9 (.string ⟨a.toArray⟩) (.string ⟨b.toArray⟩)).run Tryd.prog w = .ok (.string ⟨c.toArray⟩) w := by
  subst h
  rw [binOp_string_add]
  rw [run_string_add_sum w _ _ (by rw [size_mk, size_mk]; omega), ByteArray.mk_append_mk]
end Go.Proofs.YtflieikbhgneoaaDoor
