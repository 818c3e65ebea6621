/-
  Our own text, in the proofs of the laws of package word (cayleylaw01). Proved here: rotations and the period, by a range over a function. Conditions: the arguments read as the row says and the listed tables lie as the program lays them; none other.
-/
import Derived.Test.YtflieikbhgneoaaGreatDoorWo
import Derived.RangeFuncNested
import Derived.RangeFuncBound
import Derived.RangeFuncCalls
import Derived.RangeFuncLeaves
import Derived.RangeFuncFrom
import Derived.Shelf.Abstract
import Derived.OwnWalkIn
import Derived.TacticsInMore
import Derived.LoopNIn
import Derived.LoopIn
namespace Go.Proofs.YtflieikbhgneoaaGreatDoor
open Go Go.RowKit Go.Shelf
attribute [local go_sem] Oper.semAt_some

def rotL (l : List UInt8) (k : Nat) : List UInt8 := l.drop (l.length - k) ++ l.take (l.length - k)
def perP (l : List UInt8) (k : Nat) : Bool := decide (l.length % k = 0) && (rotL l k == l)
def perN (l : List UInt8) : Nat := ((List.range' 1 l.length).find? (perP l)).getD 0

theorem rotations_any (s : ByteArray) (w : World) :
    Calls Tryz.prog 56 #[.string s] w fun e w' => e = .returned (.func (.func 70) #[] #[.pointer (some ⟨w.heap.size, 0, none⟩)]) ∧ w' = w.alloc (.cells #[.string s] 9) := by
  go_enter Tryz.func56, Tryz.ntmps56
  go_wp2
  go_ret
  exact ⟨rfl, rfl⟩

abbrev Ks (s : ByteArray) := { k : Nat // 1 ≤ k ∧ k ≤ s.size }
def rotB (s : ByteArray) (k : Nat) : ByteArray := (s ++ s).extract (s.size - k) (s.size - k + s.size)

set_option maxRecDepth 100000 in
set_option maxHeartbeats 2000000 in
theorem rot_in (n : Nat) (hn : 1 ≤ n) (s : ByteArray) (hs : s.size ≤ 1000000) (l Bn n₀ : Nat) (J Jx : List (Ks s) → World → Prop)
    (hY : ∀ pre x W, J pre W → pre.length < s.size → YieldAt Fence.wide (n - 1) Tryz.prog l #[.int .i64 x.1, .string (rotB s x.1)] W fun e W' =>
      (e = .returned (.bool true) ∧ J (pre ++ [x]) W' ∧ Below n₀ W W') ∨ (e = .returned (.bool false) ∧ Jx (pre ++ [x]) W'))
    (W : World) (hBn0 : Bn < n₀) (hBn : W.cell? ⟨Bn, 0, none⟩ = some (.string s)) (h0 : J [] W) :
    CallsIn Fence.wide n Tryz.prog 70 #[.func (.yield l) #[] #[], .pointer (some ⟨Bn, 0, none⟩)] W fun e W' => (∃ v, e = .returned v) ∧
      ((∃ ys : List (Ks s), ys.map (·.1) = List.range' 1 s.size ∧ J ys W') ∨ (∃ pre : List (Ks s), pre.map (·.1) = List.range' 1 pre.length ∧ 0 < pre.length ∧ Jx pre W')) := by
  refine callsIn_of_wp Tryz.func70 rfl trivial ?_ rfl
  simp only [Tryz.ntmps70, List.size_toArray, List.length_cons, List.length_nil, Nat.reduceAdd, Nat.reduceSub, Array.replicate_succ, Array.replicate_zero, List.push_toArray, List.append_toArray, List.nil_append, List.cons_append]
  gi_wp2
  gi_loopw [4] (fun p wr => ∃ (pre : List (Ks s)), pre.length ≤ s.size ∧ p = .int .i64 (pre.length + 1) ∧ pre.map (·.1) = List.range' 1 pre.length ∧ wr.cell? ⟨Bn, 0, none⟩ = some (.string s) ∧ J pre wr)
    (fun p wr => s.size + 1 - (intOf p).toNat)
  case atStart =>
    exact ⟨[], by simp, rfl, rfl, hBn, h0⟩
  case round =>
    obtain ⟨pre, hpl, rfl, hpm, hc, hJs⟩ := hrel
    by_cases hlt : pre.length < s.size
    · have hk : 1 ≤ pre.length + 1 ∧ pre.length + 1 ≤ s.size := by omega
      obtain ⟨fn, tmps, assign, body, hy, hR⟩ := hY pre ⟨pre.length + 1, hk⟩ wr hJs hlt
      have hcs : ((pre.length + 1 : Nat) : Int) = (pre.length : Int) + 1 := by omega
      simp only [rotB] at hy
      rw [hcs] at hy
      clear hcs
      have HPM := Lib.hid hpm
      clear hpm
      gi_wp2
      refine hR.mono ?_
      rintro e W3 (⟨rfl, hJ3, hk3⟩ | ⟨rfl, hJx3⟩)
      · have hc3 : W3.cell? ⟨Bn, 0, none⟩ = some (.string s) := (hk3.cell (p := ⟨Bn, 0, none⟩) hBn0).trans hc
        gi_wp2
        go_roundw
        case rel => exact ⟨pre ++ [⟨pre.length + 1, hk⟩], by simp; omega, by simp, by simp [HPM.out, List.range'_concat]; omega, hc3, hJ3⟩
        case measure => simp [intOf]; omega
      · gi_wp2
        refine bodyPost_ret (results_none rfl _ _ _) rfl ?_
        exact ⟨⟨_, rfl⟩, .inr ⟨pre ++ [⟨pre.length + 1, hk⟩], by simp [HPM.out, List.range'_concat]; omega, by simp, hJx3⟩⟩
    · have he : pre.length = s.size := by omega
      have HE := Lib.hid he
      have HPM := Lib.hid hpm
      clear he hpm
      gi_wp2
      go_end0
      exact ⟨⟨_, rfl⟩, .inl ⟨pre, by rw [HPM.out, HE.out], hJs⟩⟩

theorem rot_stops (n : Nat) (hn : 1 ≤ n) (s : ByteArray) (hs : s.size ≤ 1000000) (Bn n₀ : Nat) (w : World) (hw : w.heap.size = n₀) (hBn0 : Bn < n₀) (hBn : w.cell? ⟨Bn, 0, none⟩ = some (.string s)) :
    SeqStopsK Fence.wide n Tryz.prog 70 #[.pointer (some ⟨Bn, 0, none⟩)] (fun x : Ks s => #[.int .i64 x.1, .string (rotB s x.1)]) (Below n₀)
      (fun ys => ys.map (·.1) = List.range' 1 s.size) (fun pre => pre.map (·.1) = List.range' 1 pre.length ∧ 0 < pre.length) s.size w := by
  intro l J Jx W hW hJ hJx hY h0
  refine (rot_in n hn s hs l Bn n₀ J Jx hY W hBn0 ((hW.cell (p := ⟨Bn, 0, none⟩) (by rw [hw]; exact hBn0)).trans hBn) h0).mono ?_
  rintro e W' ⟨he, h⟩
  refine ⟨he, ?_⟩
  rcases h with ⟨ys, h1, h2⟩ | ⟨pre, h1, h2, h3⟩
  · exact .inl ⟨ys, h1, h2⟩
  · exact .inr ⟨pre, ⟨h1, h2⟩, h3⟩

theorem per_found (s : ByteArray) (q : List (Ks s)) (x : Ks s) (hpm : (q ++ [x]).map (·.1) = List.range' 1 (q ++ [x]).length) (hq : ∀ y ∈ q, perP s.data.toList y.1 = false) (hx : perP s.data.toList x.1 = true) :
    perN s.data.toList = x.1 := by
  have hl : s.data.toList.length = s.size := by simp
  have hq2 : q.map (·.1) = List.range' 1 q.length := by
    have := congrArg (List.take q.length) hpm
    rw [List.map_append, List.length_append, List.take_left' (by simp), ← List.range'_append_1, List.take_left' (by simp)] at this
    exact this
  have hx1 : x.1 = q.length + 1 := by
    have := congrArg (fun l => l[q.length]?) hpm
    simp at this
    omega
  have hle := x.2.2
  unfold perN
  have hsplit : List.range' 1 s.data.toList.length = List.range' 1 q.length ++ x.1 :: List.range' (q.length + 2) (s.size - q.length - 1) := by
    rw [hl, hx1, show s.size = q.length + (1 + (s.size - q.length - 1)) by omega, ← List.range'_append_1, ← List.range'_append_1]
    simp only [List.range'_one, List.cons_append, List.nil_append, Nat.add_sub_cancel_left]
    congr 2
    · omega
    · congr 1; omega
  rw [hsplit, List.find?_append, List.find?_eq_none.2]
  · simp [hx]
  · intro y hy
    have : y ∈ q.map (·.1) := by rw [hq2]; exact hy
    obtain ⟨z, hz, rfl⟩ := List.mem_map.1 this
    simp [hq z hz]

theorem cell_new_l (W : World) (v : Value) (t : TypeId) : (W.alloc (.cells #[v] t)).cell? ⟨W.heap.size, 0, none⟩ = some v ∧ (W.alloc (.cells #[v] t)).frozen? ⟨W.heap.size, 0, none⟩ = false := by
  have hb : (W.alloc (.cells #[v] t)).heap[W.heap.size]? = some (.cells #[v] t (0, 0)) := heap_alloc_new W _
  exact ⟨(cell_of_row _ W.heap.size 0 #[v] t (0, 0) hb).trans rfl, frozen_of_row _ W.heap.size 0 #[v] t hb⟩
theorem cell_alloc_l {W : World} {a : Addr} {v : Value} (o : Obj) (h : W.cell? a = some v) : (W.alloc o).cell? a = some v := cell_kept h (World.grownBy_alloc W o none) (fun r e => by cases e)
theorem frozen_alloc_l {W : World} {a : Addr} {v : Value} (o : Obj) (h : W.cell? a = some v) (hf : W.frozen? a = false) : (W.alloc o).frozen? a = false := (frozen_kept h (World.grownBy_alloc W o none) (fun r e => by cases e)).trans hf

theorem rotB_list (s : ByteArray) (k : Nat) (h : k ≤ s.size) : (rotB s k).data.toList = rotL s.data.toList k := by
  have hl : s.data.toList.length = s.size := by simp
  have hl2 : s.data.toList.length = s.data.size := rfl
  simp only [rotB, rotL, ByteArray.data_append, ByteArray.data_extract, Array.toList_append, Array.toList_extract, List.extract_eq_take_drop, hl]
  rw [List.drop_append_of_le_length (by omega), List.take_append]
  rw [List.take_of_length_le (by simp)]
  congr 2
  simp; omega

set_option maxRecDepth 100000 in
set_option maxHeartbeats 2000000 in
theorem period_in (s : ByteArray) (hs : s.size ≤ 1000000) (w : World) :
    CallsIn Fence.wide 5 Tryz.prog 44 #[.string s] w fun e W' => e = .returned (.int .i64 (perN s.data.toList)) ∧ Below w.heap.size w W' := by
  refine callsIn_of_wp_marks Tryz.func44 rfl trivial ?_ rfl
  simp only [Tryz.ntmps44, List.size_toArray, List.length_cons, List.length_nil, Nat.reduceAdd, Nat.reduceSub, Array.replicate_succ, Array.replicate_zero, List.push_toArray, List.append_toArray, List.nil_append, List.cons_append]
  gi_wp2_with (refine ⟨trivial, ?_⟩; gi_at_call 56; refine (callsIn_wide.2 (rotations_any s _)).mono ?_; rintro e w' ⟨rfl, rfl⟩)
  have c0 := cell_new_l w (.string s) 9
  have c1 := cell_new_l (w.alloc (.cells #[.string s] 9)) (.int .i64 0) 3
  have c2 := cell_new_l ((w.alloc (.cells #[.string s] 9)).alloc (.cells #[.int .i64 0] 3)) (.string s) 9
  simp only [World.size_alloc] at c1 c2
  have hB0 : Below w.heap.size w (((w.alloc (.cells #[.string s] 9)).alloc (.cells #[.int .i64 0] 3)).alloc (.cells #[.string s] 9)) := (((Below.refl _ w).alloc (Nat.le_refl _) _).alloc (by simp) _).alloc (by simp; omega) _
  refine wpIn_rangeFunc_ownF rfl (by decide) (gf := 70) (lb := #[.pointer (some ⟨w.heap.size + 1 + 1, 0, none⟩)]) rfl trivial (enters_of Tryz.func70 (by kernel_rfl) rfl)
    (rot_stops 4 (by decide) s hs (w.heap.size + 1 + 1) (w.heap.size + 1 + 1 + 1) _ (by simp) (by omega) c2.1) belowK_t (belowK_b (by simp)) (Below.refl _ _) (fun _ => rfl)
    (fun pre W => ((∀ y ∈ pre, perP s.data.toList y.1 = false) ∧ W.cell? ⟨w.heap.size, 0, none⟩ = some (.string s) ∧ W.cell? ⟨w.heap.size + 1, 0, none⟩ = some (.int .i64 0) ∧ W.frozen? ⟨w.heap.size + 1, 0, none⟩ = false) ∧ Below w.heap.size w W)
    (fun c pre W => (c = .ret ∧ ∃ (q : List (Ks s)) (x : Ks s), pre = q ++ [x] ∧ (∀ y ∈ q, perP s.data.toList y.1 = false) ∧ perP s.data.toList x.1 = true ∧ W.cell? ⟨w.heap.size + 1, 0, none⟩ = some (.int .i64 x.1)) ∧ Below w.heap.size w W)
    (OwnFrom.and (Own.from (fun s A B row hs hg hr => ⟨hs.1, cell_kept hs.2.1 hg hr, cell_kept hs.2.2.1 hg hr, (frozen_kept hs.2.2.1 hg hr).trans hs.2.2.2⟩) _) (ownFrom_below (Nat.le_refl _) (by simp; omega)))
    (fun c => OwnFrom.and (Own.from (fun s A B row hs hg hr => by
      obtain ⟨h1, q, x, h2, h3, h4, h5⟩ := hs
      exact ⟨h1, q, x, h2, h3, h4, cell_kept h5 hg hr⟩) _) (ownFrom_below (Nat.le_refl _) (by simp; omega)))
    ⟨⟨by simp, cell_alloc_l _ (cell_alloc_l _ c0.1), cell_alloc_l _ c1.1, frozen_alloc_l _ c1.1 c1.2⟩, hB0⟩
    (fun x => { tmps := #[.string s, .pointer (some ⟨w.heap.size, 0, none⟩), .pointer (some ⟨w.heap.size + 1, 0, none⟩), .int .i64 x.1, .string (rotB s x.1), .string s, .func (.func 70) #[] #[.pointer (some ⟨w.heap.size + 1 + 1, 0, none⟩)], .int .i64 x.1, .string (rotB s x.1), undef, undef, undef, undef, undef, undef, undef, undef, undef, undef, undef], defers := [] }) ?assign ?body ?done ?stop
  case assign =>
    intro l x W K hK
    gi_wp2
    exact hK
  case body =>
    rintro l pre x W ⟨⟨hp, hcw, hcr, hfr⟩, hB⟩ _
    obtain ⟨k, hk1, hk2⟩ := x
    simp only
    obtain ⟨m, hm⟩ : ∃ m : Nat, s.size % k = m := ⟨_, rfl⟩
    have e1 : (s.size : Int).tmod (k : Int) = (m : Int) := by rw [← hm]; rfl
    have e2 : (s.size : Int) % (k : Int) = (m : Int) := by rw [← hm]; rfl
    have hkz : ¬ (k : Int) = 0 := by omega
    have hkz2 : ¬ k = 0 := by omega
    have hrot := rotB_list s k hk2
    by_cases h0 : m = 0
    · have hd : ((m : Int) == 0) = true := by rw [beq_iff_eq]; omega
      have h0' : s.data.toList.length % k = 0 := by rw [show s.data.toList.length = s.size by simp, hm, h0]
      by_cases hr : rotL s.data.toList k = s.data.toList
      · have hpt : perP s.data.toList k = true := by simp only [perP, h0', hr]; simp
        have hrs : rotB s k = s := ba_ext (by rw [hrot, hr])
        have hd3 : ((rotB s k).toList == s.toList) = true := by rw [hrs]; simp
        have HP := Lib.hid hpt
        have HPR := Lib.hid hp
        clear hm hrot hpt hp h0 h0' hr hrs
        generalize rotB s k = rb at *
        gi_wp2
        exact ⟨KeepsOthers.setCell _ _ _, ⟨rfl, pre, ⟨k, hk1, hk2⟩, rfl, HPR.out, HP.out, World.cell?_setCell_same' _ _ _ (by rw [hcr]; rfl)⟩, hB.setCell (p := ⟨w.heap.size + 1, 0, none⟩) (by simp) _⟩
      · have hpf : perP s.data.toList k = false := by simp [perP, hr]
        have hd3 : ((rotB s k).toList == s.toList) = false := by
          rw [beq_eq_false_iff_ne]; intro h; rw [ByteArray.toList_eq, ByteArray.toList_eq, hrot] at h; exact hr h
        have HP := Lib.hid hpf
        have HPR := Lib.hid hp
        clear hm hrot hpf hp h0 h0' hr
        generalize rotB s k = rb at *
        gi_wp2
        exact ⟨KeepsOthers.refl _, Below.refl _ _, ⟨fun y hy => (List.mem_append.1 hy).elim (HPR.out y) (fun e => by simp at e; subst e; exact HP.out), hcw, hcr, hfr⟩, hB⟩
    · have hd : ((m : Int) == 0) = false := by rw [beq_eq_false_iff_ne]; omega
      have hpf : perP s.data.toList k = false := by simp [perP]; intro h; exact absurd (by rw [← hm]; simpa using h) h0
      have HP := Lib.hid hpf
      have HPR := Lib.hid hp
      clear hm hrot hpf hp
      gi_wp2
      exact ⟨KeepsOthers.refl _, Below.refl _ _, ⟨fun y hy => (List.mem_append.1 hy).elim (HPR.out y) (fun e => by simp at e; subst e; exact HP.out), hcw, hcr, hfr⟩, hB⟩
  case done =>
    rintro D ys W hD hys ⟨⟨hne, _, hcr, hfr⟩, hB⟩ hK
    gi_wp2
    have hK' := (KeepsOthers.setCell W ⟨w.heap.size + 1, 0, none⟩ (.int .i64 0)).same D _ hK rfl
    refine ⟨by simp, .inl ⟨_, _, rfl, run_takeDeferred hK', ?_⟩⟩
    have hc5 := cell_kept (World.cell?_setCell_same' W ⟨w.heap.size + 1, 0, none⟩ (.int .i64 0) (by rw [hcr]; rfl)) (grownBy_putObj' _ D (.deferred none)) (fun r e => by cases e; exact ⟨_, hK', rfl⟩)
    have hper : perN s.data.toList = 0 := by
      unfold perN
      rw [List.find?_eq_none.2]
      · rfl
      · intro x hx
        have : x ∈ ys.map (·.1) := by rw [hys]; simpa using hx
        obtain ⟨y, hy, rfl⟩ := List.mem_map.1 this
        simp [hne y hy]
    refine ⟨.int .i64 0, ?_, by rw [hper]; rfl, (hB.setCell (p := ⟨w.heap.size + 1, 0, none⟩) (by simp) _).trans (belowK_b (w := w) (Nat.le_refl _) _ D _ _ (by simp at hD; omega) hK' rfl rfl)⟩
    simp [results, Tryz.f44, go_sem, hc5]
  case stop =>
    rintro D c pre W hD ⟨hpm, hpl⟩ ⟨⟨rfl, q, x, rfl, hq, hx, hcr⟩, hB⟩ hK
    gi_wp2
    refine ⟨by simp, .inl ⟨_, _, rfl, run_takeDeferred hK, ?_⟩⟩
    have hc5 := cell_kept hcr (grownBy_putObj' _ D (.deferred none)) (fun r e => by cases e; exact ⟨_, hK, rfl⟩)
    have hper : perN s.data.toList = x.1 := per_found s q x hpm hq hx
    refine ⟨.int .i64 x.1, ?_, by rw [hper], hB.trans (belowK_b (w := w) (Nat.le_refl _) W D _ _ (by simp at hD; omega) hK rfl rfl)⟩
    simp [results, Tryz.f44, go_sem, hc5]
end Go.Proofs.YtflieikbhgneoaaGreatDoor
