/-
  Our own text, in the proof of the law RopeLetters of package rope (cayleylaw02). Proved here: Of returns the rope of a word's parts. Conditions: the listed table lies as the program lays it.
-/
import Derived.Test.YtgklmcinbaghmaaGreatDoorDc
namespace Go.Proofs.YtgklmcinbaghmaaGreatDoor
open Go Go.RowKit Go.Shelf
attribute [local go_sem] Oper.semAt_some

/-- A string's box stays. -/
abbrev StrKept (s : ByteArray) (Bn : Nat) (W W' : World) : Prop := Boxed W Bn 9 (.string s) → Boxed W' Bn 9 (.string s)

/-- append of one node to the slice that a box holds. -/
theorem append_in {F : Fence} {n : Nat} {ops : Array Oper} {rest : List Oper} {o : Oper} {a : Act} {Q : Exit → Act → World → Prop} (W : World) (hgd : o.guard = none) (s x : Operand)
    (ho : o.op = .call { callee := .builtin .append, args := #[s, x], argTypes := #[22, 22] })
    (n0 B : Nat) (v : Value) (k k1 : Nat) (hk1 : k1 = k + 1) (r : List Nd) (y : Nd) (hv : Boxed W B 22 v) (hrow : W.ownsRow n0 68 4 v k (nodesC r)) (hn0 : n0 ≤ W.heap.size) (hB : n0 ≤ B) (hlen : k ≤ 1000000)
    (hs : a.eval s = v) (z : Nat) (hz : z = W.heap.size) (hx : a.eval x = .slice (some ⟨z, 0, none⟩) 1 1) (obj : Obj) (hobj : obj = .cells #[.string y.word, .int .i64 y.l, .int .i64 y.r, .int .i64 y.t] 68)
    (h : ∀ g cap w1, Boxed w1 B 22 v → Boxed (w1.setCell ⟨B, 0, none⟩ (.slice (some ⟨g, 0, none⟩) k1 cap)) B 22 (.slice (some ⟨g, 0, none⟩) k1 cap) →
      (w1.setCell ⟨B, 0, none⟩ (.slice (some ⟨g, 0, none⟩) k1 cap)).ownsRow n0 68 4 (.slice (some ⟨g, 0, none⟩) k1 cap) k1 (nodesC (r ++ [y])) →
      KeepsOthers W (w1.setCell ⟨B, 0, none⟩ (.slice (some ⟨g, 0, none⟩) k1 cap)) → Below n0 W (w1.setCell ⟨B, 0, none⟩ (.slice (some ⟨g, 0, none⟩) k1 cap)) →
      (∀ u Bn, StrKept u Bn W (w1.setCell ⟨B, 0, none⟩ (.slice (some ⟨g, 0, none⟩) k1 cap))) →
      wpListIn F n Tryz.prog ops Q rest (a.put o.dst (.slice (some ⟨g, 0, none⟩) k1 cap)) w1) :
    wpListIn F n Tryz.prog ops Q (o :: rest) a (W.alloc obj) := by
  subst hobj hk1 hz
  obtain ⟨i0, hi, hz0, hz1, hz2⟩ := info_parts Tryz.info68
  refine wpListIn_append_own _ hgd s x 22 ho n0 68 i0 (.agg #[.string ⟨#[]⟩, .int .i64 0, .int .i64 0, .int .i64 0]) 4 40 Tryz.underlying22 hi hz0 hz1 hz2 rfl (by decide) v k (nodesC r) hs (hrow.alloc _) ⟨W.heap.size, 0, none⟩ 1 1 (nodesC [y]) hx (by rw [nodesC_len]; rfl) (news_node W y) (nodesC_one [y]) (by unfold maxLen; omega) (by omega) (by simp; omega) ?_
  intro v' w1 hown' hgrow _
  obtain ⟨g, cap, rfl⟩ := ownsRow_succ hown'
  obtain ⟨q1, q2, q3, q4, q5⟩ := hv.appended (by decide) hrow hn0 hB hown' hgrow
  refine h g cap w1 q1 q2 (by rw [nodesC_append]; exact q3) q4 q5 fun u Bn hb => ?_
  have h1 : Boxed w1 Bn 9 (.string u) := (hb.alloc _).kept hgrow (hb.not_row (by decide) hrow)
  refine h1.kept (grownBy_setCell' w1 B _) ?_
  intro e
  cases e
  have := (show w1.heap[B]? = _ from h1).symm.trans q1
  simp at this

theorem kp_b (s : ByteArray) (Bn : Nat) {w : World} : ∀ (W : World) (l : Nat) (o o' : Obj), w.heap.size ≤ l → W.heap[l]? = some o → o.isCells = false → o.isWalk = false → StrKept s Bn W (W.putObj l o') := by
  intro W l o o' _ ho hc _ hb
  refine hb.kept (grownBy_putObj' W l o') ?_
  intro e
  cases e
  have := (show W.heap[Bn]? = _ from hb).symm.trans ho
  cases this
  cases hc

theorem chunk_stops (n : Nat) (hn : 2 ≤ n) (s : ByteArray) (hs : s.size ≤ 100000) (Bn : Nat) (w : World) (hBn : Boxed w Bn 9 (.string s)) :
    SeqStopsK Fence.wide n Tryz.prog 63 #[.pointer (some ⟨Bn, 0, none⟩)] (fun x : Part => #[.string x.1]) (StrKept s Bn)
      (fun ys => ys.map (·.1) = chunkL s) (fun _ => True) s.size w := by
  intro l J Jx W hW hJ hJx hY h0
  refine (chunk_in n hn s hs l Bn W.heap.size J Jx hJ hY W ((hW.block Bn hBn.lt).trans hBn) h0).mono ?_
  rintro e W' ⟨he, h⟩
  refine ⟨he, ?_⟩
  rcases h with ⟨ys, h1, h2⟩ | ⟨pre, h2⟩
  · exact .inl ⟨ys, h1, h2⟩
  · exact .inr ⟨pre, trivial, h2⟩

def OfP (w : World) (s : ByteArray) (e : Ending) (w' : World) : Prop :=
  ∃ A cap, e = .returned (.tuple #[.slice A (ofC (chunkL s)).length cap, .int .i64 0]) ∧ w'.ownsRow w.heap.size 68 4 (.slice A (ofC (chunkL s)).length cap) (ofC (chunkL s)).length (nodesC (ofC (chunkL s))) ∧ Below w.heap.size w w'

def ptsL (pre : List Part) : List ByteArray := pre.map (·.1)
theorem ptsL_snoc (pre : List Part) (x : Part) : ofC (ptsL (pre ++ [x])) = addC (ofC (ptsL pre)) x.1 := by unfold ptsL; rw [List.map_append]; exact ofC_snoc _ _

/-- The variable out holds the rope of the parts that have come. -/
def HoldsO (n0 : Nat) (pre : List Part) (W : World) : Prop :=
  ∃ v, Boxed W n0 22 v ∧ W.ownsRow n0 68 4 v (ofC (ptsL pre)).length (nodesC (ofC (ptsL pre))) ∧ True
theorem holdsO_own (n0 : Nat) : Own (HoldsO n0) := holdsRow_own n0 n0 22 68 4 (fun pre => (ofC (ptsL pre)).length) (fun pre => nodesC (ofC (ptsL pre))) (fun _ _ => True)
theorem HoldsO.mk {n0 : Nat} {pre : List Part} {W : World} {v : Value} {r : List Nd} (hr : ofC (ptsL pre) = r) (h : Boxed W n0 22 v) {k : Nat} (hk : r.length = k) (ho : W.ownsRow n0 68 4 v k (nodesC r)) : HoldsO n0 pre W := by
  subst hr hk
  exact ⟨v, h, ho, trivial⟩

set_option maxRecDepth 100000 in
set_option maxHeartbeats 2000000 in
theorem Of_in (s : ByteArray) (hs : s.size ≤ 100000) (w : World) (ht : Tabs w) (hck : checkI 8 s.data.toList = 0) :
    CallsIn Fence.wide 6 Tryz.prog 20 #[.string s] w (OfP w s) := by
  have hC := check_any 8 s w ht (by unfold maxLen; omega)
  rw [hck] at hC
  have HC := Lib.hid hC
  have hC2 := chunks_any s (w.alloc (.cells #[.slice none 0 0] 22))
  clear ht hC hck
  refine callsIn_of_wp_marks Tryz.func20 rfl trivial ?_ rfl
  simp only [Tryz.ntmps20, List.size_toArray, List.length_cons, List.length_nil, Nat.reduceAdd, Nat.reduceSub, Array.replicate_succ, Array.replicate_zero, List.push_toArray, List.append_toArray, List.nil_append, List.cons_append]
  gi_wp2_with (first | (refine ⟨trivial, ?_⟩; gi_at_call 40; refine (callsIn_wide.2 HC.out).mono ?_; rintro e w' ⟨rfl, rfl⟩) | (refine ⟨trivial, ?_⟩; gi_at_call 41; refine (callsIn_wide.2 hC2).mono ?_; rintro e w' ⟨rfl, rfl⟩))
  have c0 := Boxed.new w 22 (.slice none 0 0)
  have c1 := Boxed.new (w.alloc (.cells #[.slice none 0 0] 22)) 9 (.string s)
  simp only [World.size_alloc] at c1
  have c0' := c0.alloc (.cells #[.string s] 9)
  have hB0 : Below w.heap.size w ((w.alloc (.cells #[.slice none 0 0] 22)).alloc (.cells #[.string s] 9)) := ((Below.refl _ w).alloc (Nat.le_refl _) _).alloc (by simp) _
  have hsz : ((w.alloc (.cells #[.slice none 0 0] 22)).alloc (.cells #[.string s] 9)).heap.size = w.heap.size + 2 := by simp
  clear hC2 HC
  generalize hw0 : (w.alloc (.cells #[.slice none 0 0] 22)).alloc (.cells #[.string s] 9) = w0 at *
  clear hw0 c0
  refine wpIn_rangeFunc_ownF rfl (by decide) (gf := 63) (lb := #[.pointer (some ⟨w.heap.size + 1, 0, none⟩)]) rfl trivial (enters_of Tryz.func63 (by kernel_rfl) rfl)
    (chunk_stops 5 (by decide) s hs (w.heap.size + 1) _ c1) (fun h k hb => k (h hb)) (kp_b s _) (Below.refl _ _) (fun _ => rfl)
    (fun pre W => HoldsO w.heap.size pre W ∧ Below w.heap.size w W)
    (fun _ _ _ => False)
    (OwnFrom.and (Own.from (holdsO_own _) _) (ownFrom_below (Nat.le_refl _) (by omega)))
    (fun c => (fun s A B row hs hg hr => hs.elim))
    ⟨⟨_, c0', World.ownsRow_nil _ _ _ _, trivial⟩, hB0⟩
    (fun x => { tmps := #[.string s, undef, .slice none 0 0, .int .i64 0, .pointer (some ⟨w.heap.size, 0, none⟩), .string x.1, undef, .string s, .int .i64 0, .bool false, .string s, .func (.func 63) #[] #[.pointer (some ⟨w.heap.size + 1, 0, none⟩)], .string x.1, undef, undef, undef, undef, undef, undef, undef, undef, undef, undef, undef, undef, undef, undef, undef, undef, undef, undef], defers := [] }) ?assign ?body ?done ?stop
  case assign =>
    intro l x W K hK
    gi_wp2
    exact hK
  case body =>
    rintro l pre x W ⟨⟨v, hv, hrow, _⟩, hB⟩ hlt
    obtain ⟨c, hc⟩ := x
    have hlen : (ofC (ptsL pre)).length ≤ 200000 := by rw [ofC_len]; unfold ptsL; simp; omega
    have HSN := Lib.hid (ptsL_snoc pre ⟨c, hc⟩)
    have hcc := hv.cell
    have hBs := hB.size
    simp only
    generalize ofC (ptsL pre) = r at *
    by_cases hr0 : r = []
    · subst hr0
      have HA : Hid (addC [] c = [leafN c]) := Lib.hid rfl
      gi_wp2_with (gi_at_builtin; refine append_in W rfl (.tmp 13) (.tmp 16) rfl w.heap.size w.heap.size v 0 1 rfl [] (leafN c) hv hrow hBs (Nat.le_refl _) (by omega) rfl W.heap.size rfl rfl _ rfl ?_; intro g cap w1 b1 b2 o2 k2 bl2 s2; have cc := b1.cell; have cf := b1.frozen; have cc2 := b2.cell)
      exact ⟨k2, s2 s _, HoldsO.mk (r := [leafN c]) (by rw [HSN.out, HA.out]) b2 rfl o2, hB.trans bl2⟩
    · obtain ⟨m, hm⟩ : ∃ m, r.length = m + 1 := ⟨r.length - 1, by have := List.length_pos_iff.2 hr0; omega⟩
      have HA : Hid (addC r c = r ++ [leafN c] ++ [joinN ((m : Int) + 2 - 1 - 1) ((m : Int) + 2 - 1)]) := Lib.hid (by
        unfold addC; rw [if_neg hr0, hm]; simp [joinN]; omega)
      rw [hm] at hrow hlen
      have hd : decide (1 < (m : Int) + 2) = true := by simp; omega
      have HM := Lib.hid hm
      clear hm hr0
      gi_wp2_with (first
        | (gi_at_builtin; refine append_in W rfl (.tmp 13) (.tmp 16) rfl w.heap.size w.heap.size v (m + 1) (m + 2) rfl r (leafN c) hv hrow hBs (Nat.le_refl _) (by omega) rfl W.heap.size rfl rfl _ rfl ?_; intro g cap w1 b1 b2 o2 k2 bl2 s2; have cc := b1.cell; have cf := b1.frozen; have cc2 := b2.cell)
        | (gi_at_builtin; refine append_in (w1.setCell ⟨w.heap.size, 0, none⟩ (.slice (some ⟨g, 0, none⟩) (m + 2) cap)) rfl (.tmp 23) (.tmp 28) rfl w.heap.size w.heap.size _ (m + 2) (m + 3) rfl (r ++ [leafN c]) (joinN ((m : Int) + 2 - 1 - 1) ((m : Int) + 2 - 1)) b2 o2 (Nat.le_trans hBs bl2.size) (Nat.le_refl _) (by omega) rfl w1.heap.size (by simp) rfl _ rfl ?_; intro g' cap' w9 b3 b4 o4 k4 bl4 s4; have cd := b3.cell; have cg := b3.frozen))
      exact ⟨k2.trans k4, fun h => s4 s _ (s2 s _ h), HoldsO.mk (by rw [HSN.out, HA.out]) b4 (by simp [HM.out]) o4, (hB.trans bl2).trans bl4⟩
  case done =>
    rintro D ys W hD hys ⟨⟨v, hv, hrow, _⟩, hB⟩ hK
    have hcc := hv.cell
    have hz : ofC (ptsL ys) = ofC (chunkL s) := by rw [← hys]; rfl
    rw [hz] at hrow
    have hvs : ∃ A cap, v = .slice A (ofC (chunkL s)).length cap := by
      rcases hrow.2 with ⟨h1, h2⟩ | ⟨g, cap, _, h1, _⟩
      · exact ⟨none, 0, by rw [h2]; exact h1⟩
      · exact ⟨_, cap, h1⟩
    obtain ⟨A, cap, rfl⟩ := hvs
    have HZ := Lib.hid hrow
    clear hz hys hrow
    gi_wp2
    refine ⟨by simp, .inl ⟨_, _, rfl, run_takeDeferred hK, ?_⟩⟩
    refine ⟨.tuple #[.slice A (ofC (chunkL s)).length cap, .int .i64 0], ?_, A, cap, rfl, ownsRow_putObj HZ.out _ hK rfl, hB.trans (belowK_b (w := w) (Nat.le_refl _) W D _ _ (by omega) hK rfl rfl)⟩
    simp [results, Tryz.results20, go_sem]
  case stop =>
    rintro D c pre W hD _ hx hK
    exact hx.elim

theorem Of_yes (s : ByteArray) (hs : s.size ≤ 100000) (w : World) (ht : Tabs w) (hck : checkI 8 s.data.toList = 0) : Calls Tryz.prog 20 #[.string s] w (OfP w s) := by
  refine (callsIn_wide (n := 6)).1 ?_
  exact Of_in s hs w ht hck

set_option maxHeartbeats 400000 in
theorem Of_no (s : ByteArray) (w : World) (ht : Tabs w) (hs : s.size ≤ maxLen) (hck : ¬ checkI 8 s.data.toList = 0) : Calls Tryz.prog 20 #[.string s] w fun e w' => e = .returned (.tuple #[.slice none 0 0, .int .i64 1]) ∧ w = w' := by
  have hC := check_any 8 s w ht hs
  generalize checkI 8 s.data.toList = c at *
  have hd : (c != 0) = true := by simpa using hck
  clear ht hs hck
  go_enter Tryz.func20, Tryz.ntmps20
  go_wp2_with (go_at_call 40; refine hC.mono ?_; rintro e w' ⟨rfl, rfl⟩)
  go_ret2
  exact ⟨rfl, rfl⟩
end Go.Proofs.YtgklmcinbaghmaaGreatDoor
