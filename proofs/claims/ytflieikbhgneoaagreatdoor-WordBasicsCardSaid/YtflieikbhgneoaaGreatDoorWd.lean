/-
  Our own text, in the proofs of the laws of package word (cayleylaw01). Proved here: reduce returns the free reduction. Conditions: the arguments read as the row says and the listed tables lie as the program lays them; none other.
-/
import Derived.Test.YtflieikbhgneoaaGreatDoorWc
import Derived.Deep.QuietTactic
import Derived.BigQuiet
namespace Go.Proofs.YtflieikbhgneoaaGreatDoor
open Go Go.RowKit

/-- Free reduction: a stack, its top first. -/
def stp (r : List UInt8) (c : UInt8) : List UInt8 := match r with
  | [] => [c]
  | x :: t => if x ^^^ c == 32 then t else c :: x :: t
def redR (l : List UInt8) : List UInt8 := l.foldl stp []
def red (l : List UInt8) : List UInt8 := (redR l).reverse

theorem stp_len (r : List UInt8) (c : UInt8) : (stp r c).length ≤ r.length + 1 := by
  unfold stp; split
  · simp
  · split <;> simp; omega
theorem redR_len (l : List UInt8) : (redR l).length ≤ l.length := by
  have : ∀ (l : List UInt8) r, (l.foldl stp r).length ≤ l.length + r.length := by
    intro l
    induction l with
    | nil => intro r; simp
    | cons c l ih => intro r; have := ih (stp r c); have := stp_len r c; simp; omega
  have := this l []
  simpa [redR] using this
theorem redR_snoc (s : ByteArray) (k : Nat) (h : k < s.size) : redR (s.data.toList.take (k + 1)) = stp (redR (s.data.toList.take k)) s[k] := by
  rw [List.take_succ_eq_append_getElem (by simpa using h)]
  simp [redR, List.foldl_append]; rfl

theorem ownsRow_take {w : World} {base e g n cap m : Nat} {xs : List Value} (hm : m ≤ n) (h : w.ownsRow base e 1 (.slice (some ⟨g, 0, none⟩) n cap) n xs) :
    w.ownsRow base e 1 (.slice (some ⟨g, 0, none⟩) m cap) m (xs.take m) := by
  obtain ⟨h1, h2⟩ := h
  refine ⟨by simp [h1]; omega, ?_⟩
  rcases h2 with ⟨h2, _⟩ | ⟨g', c', cur, hv, hg, hh, hnc, hcm, hcs, ht⟩
  · simp at h2
  · simp only [Value.slice.injEq, Option.some.injEq, Addr.mk.injEq, and_true, true_and] at hv
    obtain ⟨rfl, rfl⟩ := hv
    refine .inr ⟨g, cap, cur, rfl, hg, hh, by omega, hcm, hcs, ?_⟩
    rw [← ht, List.take_take]
    congr 1; omega

theorem _root_.Go.RowKit.Below.drewN {B : Nat} {a w : World} (h : Below B a w) (n : Nat) : Below B a (w.drewN n) := ⟨h.os, h.tape, h.output, h.size, h.block⟩
theorem below_alloc' (wr : World) (nq : Nat) (o : Obj) {B : Nat} (h : B ≤ wr.heap.size) : Below B wr ((wr.drewN nq).alloc o) :=
  ((Below.refl B wr).drewN nq).alloc h o

theorem news_one (w : World) (v : Value) (t : TypeId) : ∀ (j : Nat) u, ([v] : List Value)[j]? = some u → (w.alloc (.cells #[v] t)).cell? ((⟨w.heap.size, 0, none⟩ : Addr).add j) = some u := by
  intro j u hu
  match j, hu with
  | 0, hu =>
    simp at hu; subst hu
    have hb : (w.alloc (.cells #[v] t)).heap[w.heap.size]? = some (.cells #[v] t (0, 0)) := heap_alloc_new w _
    have := cell_of_row (w.alloc (.cells #[v] t)) w.heap.size 0 #[v] t (0, 0) hb
    simp [Addr.add, this]

theorem ret_str {a b : List UInt8} (h : a = b) : Ending.returned (.string ⟨a.toArray⟩) = .returned (.string ⟨b.toArray⟩) := by rw [h]

set_option maxHeartbeats 400000 in
set_option maxRecDepth 100000 in
theorem reduce_any (s : ByteArray) (w : World) (hs : s.size ≤ 140737488351232) :
    Calls Tryz.prog 38 #[.string s] w fun e w' => e = .returned (.string ⟨(red s.data.toList).toArray⟩) ∧ Below w.heap.size w w' := by
  obtain ⟨i0, hi, hz0, hz1, hz2⟩ := info_parts Tryz.info5
  go_enter Tryz.func38, Tryz.ntmps38
  go_wp2_with (at_make; refine wpList_make_own _ rfl _ _ 48 rfl w.heap.size 5 i0 (.int .u8 0) 1 Tryz.underlying48 hi hz0 hz1 _ _ _ s.size rfl rfl rfl ?b2 ?b3 (Nat.le_refl _) ?_)
  case b2 => rw [hz2]; omega
  case b3 => unfold maxLen; omega
  intro w0 hown0 hgrow0
  go_wp2
  go_loopw [3, 11] (fun out i wr => ∃ (k m : Nat) (r : List UInt8), k ≤ s.size ∧ m ≤ k ∧ i = .int .i64 k ∧ r = redR (s.data.toList.take k) ∧ m = r.length ∧ out = .slice (some ⟨w.heap.size, 0, none⟩) m s.size ∧
      wr.ownsRow w.heap.size 5 1 (.slice (some ⟨w.heap.size, 0, none⟩) m s.size) m (bs r.reverse) ∧ Below w.heap.size w wr)
    (fun _ i _ => s.size - (intOf i).toNat)
  case atStart => exact ⟨0, 0, [], Nat.zero_le _, Nat.le_refl _, rfl, rfl, rfl, rfl, hown0, (Below.refl _ _).grown hgrow0 (Nat.le_refl _) (fun k h => by cases h)⟩
  case round =>
    obtain ⟨k, m, r, hk, hmk, rfl, hr, hm, rfl, hown, hb⟩ := hrel
    have HB := Lib.hid hb
    clear hb hgrow0 hown0
    by_cases hlt : k < s.size
    · have hsn := redR_snoc s k hlt
      rw [← hr] at hsn
      have HSN := Lib.hid hsn
      clear hsn hr
      cases r with
      | nil =>
        obtain rfl : m = 0 := by simpa using hm
        clear hm
        have hd : decide ((0 : Int) ≤ 0 - 1) = false := by decide
        go_wp2
        go_quiet (fail)
        go_wp2_with (at_builtin; refine wpList_append_fits _ rfl (.tmp 32) (.tmp 36) 48 rfl w.heap.size 5 i0 1 Tryz.underlying48 hi hz1 w.heap.size 0 s.size _ rfl (World.ownsRow.alloc (w := wr.drewN nq) hown _) ⟨wr.heap.size, 0, none⟩ 1 1 [.int .u8 s[k].toNat] rfl rfl (news_one (wr.drewN nq) _ _) (by intro u hu; simp at hu; subst hu; rfl) (by omega) ?_; intro w1 hown1 hgrow1)
        go_roundw
        case rel => exact ⟨k + 1, 1, [s[k]], by omega, by omega, by go_num, by rw [HSN.out]; rfl, rfl, rfl, hown1, ((HB.out.trans (below_alloc' wr nq _ HB.out.size)).grown hgrow1 (by simp; have := HB.out.size; omega) (fun k hk => by cases hk; exact Nat.le_refl _))⟩
        case measure => simp [intOf]; omega
      | cons x t =>
        obtain rfl : m = t.length + 1 := by simpa using hm
        clear hm
        have hc := hown.cellAt t.length (by omega)
        have hx : (bs (x :: t).reverse)[t.length]? = some (.int .u8 x.toNat) := by simp [bs]
        rw [hx] at hc
        clear hx
        have hd : decide ((0 : Int) ≤ ↑t.length) = true := by simp
        have hcan : ∀ n, Calls Tryz.prog 52 #[.int .u8 x.toNat, .int .u8 s[k].toNat] (wr.drewN n) fun e w'' => e = .returned (.bool (x ^^^ s[k] == 32)) ∧ ∃ m, w'' = wr.drewN m :=
          fun n => Calls.quiet_of_same ((cancel_any x s[k] (wr.drewN n)).mono fun _ _ h => ⟨h.1, h.2.symm⟩)
        have HC := Lib.hid hcan
        clear hcan
        by_cases hcc : (x ^^^ s[k] == 32) = true
        · rw [hcc] at HC
          simp only [stp, hcc, if_true] at HSN
          have ht : wr.ownsRow w.heap.size 5 1 (.slice (some ⟨w.heap.size, 0, none⟩) t.length s.size) t.length (bs t.reverse) := by
            have := ownsRow_take (m := t.length) (by omega) hown
            simpa [bs] using this
          have HCC := Lib.hid hcc
          clear hcc
          go_wp2
          go_quiet ((go_at_call 52; exact HC.out _))
          go_wp2
          go_roundw
          case rel => exact ⟨k + 1, t.length, t, by omega, by omega, by go_num, HSN.out.symm, rfl, rfl, ht, HB.out.drewN nq⟩
          case measure => simp [intOf]; omega
        · have hcf : (x ^^^ s[k] == 32) = false := by simpa using hcc
          rw [hcf] at HC
          simp only [stp, hcf] at HSN
          clear hcc hcf
          go_wp2
          go_quiet ((go_at_call 52; exact HC.out _))
          go_wp2_with (at_builtin; refine wpList_append_fits _ rfl (.tmp 32) (.tmp 36) 48 rfl w.heap.size 5 i0 1 Tryz.underlying48 hi hz1 w.heap.size (t.length + 1) s.size _ rfl (World.ownsRow.alloc (w := wr.drewN nq) hown _) ⟨wr.heap.size, 0, none⟩ 1 1 [.int .u8 s[k].toNat] rfl rfl (news_one (wr.drewN nq) _ _) (by intro u hu; simp at hu; subst hu; rfl) (by omega) ?_; intro w1 hown1 hgrow1)
          go_outline
          go_roundw
          case rel => exact ⟨k + 1, t.length + 1 + 1, s[k] :: x :: t, by omega, by omega, by go_num, HSN.out.symm, rfl, rfl, by simpa [bs] using hown1, ((HB.out.trans (below_alloc' wr nq _ HB.out.size)).grown hgrow1 (by simp; have := HB.out.size; omega) (fun k hk => by cases hk; exact Nat.le_refl _))⟩
          case measure => simp [intOf]; omega
    · have hk' : k = s.size := by omega
      subst hk'
      rw [List.take_of_length_le (by simp)] at hr
      have hrun := run_string_own (P := Tryz.prog) wr 48 9 5 Tryz.underlying48 Tryz.underlying5 Tryz.underlying9 _ _ _ _ _ hown
      have hz : r.reverse = red s.data.toList := by rw [hr]; rfl
      have HZ := Lib.hid hz
      generalize r.reverse = L at *
      clear hz hr hm hown
      go_wp2
      go_ret
      exact ⟨by rw [← HZ.out]; rfl, HB.out⟩
end Go.Proofs.YtflieikbhgneoaaGreatDoor
