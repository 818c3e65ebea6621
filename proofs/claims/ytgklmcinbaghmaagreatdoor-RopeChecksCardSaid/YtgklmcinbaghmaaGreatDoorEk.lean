/-
  Our own text, in the proof of the law RopeChecks of package rope (cayleylaw02). Proved here: the reference's Sums returns the exponent sums of the word, or ErrRope; Ints compares two rows. Conditions: the nodes lie in memory as the slice says.
-/
import Derived.Test.YtgklmcinbaghmaaGreatDoorEj
namespace Go.Proofs.YtgklmcinbaghmaaGreatDoor
open Go Go.RowKit

theorem sum1_any (A : Option Addr) (r : List Nd) (cap : Nat) (L : List Nat) (hl : lens r = some L) (Al : Option Addr) (capl : Nat) (k : Nat) (hk : k < r.length) (w : World) (hr : RopeAt w A r) (hra : RowsAt w Al r k) :
    Calls Tryz.prog 35 #[.slice A r.length cap, .slice Al k capl, .int .i64 (k : Int)] w (Sum1P w (nodeS r k)) := by
  obtain ⟨hL, hok, hlen⟩ := lens_ok hl
  rcases node_is hl k hk with ⟨hw, hlf, h1, h2, h3, hd⟩ | ⟨hw, b, c, hb, hc, h1, h2, h3, hd, _⟩ | ⟨hw, b, m, hb, hm, h1, h2, h3, hd, hmul⟩
  · have := sum1_leaf A r cap Al capl k hk hlen w hr hw (leafB_size hlf)
    have e : nodeS r k = sumW r[k].word.data.toList := by unfold nodeS; rw [hd]
    rw [e]; exact this
  · exact sum1_join A r cap Al capl k hk hlen w hr hra b c hb hc hw h1 h2 h3 (nodeS_bound hl b (by omega)) (nodeS_bound hl c (by omega)) (nodeS_bound hl k hk) (by unfold nodeS; rw [hd, sumW_append])
  · have hlb := okL_get hok (i := b) (by omega)
    have hlk := okL_le hok k
    have hm2 : (m : Int) ≤ 1152921504606846976 := by
      rw [hmul] at hlk
      have : m ≤ m * L.getD b 0 := Nat.le_mul_of_pos_right m hlb.1
      omega
    exact sum1_pow A r cap Al capl k hk hlen w hr hra b m hb hm hw h1 h3 hm2 (nodeS_bound hl b (by omega)) (nodeS_bound hl k hk) (by unfold nodeS; rw [hd, sumW_copies])

theorem Tryz.info26 : (Tryz.prog.info? 26).map (fun i => (i.zero, i.size, i.bytes)) = some (some (.slice none 0 0), 1, 24) := by kernel_rfl

/-- append of one row to a row of rows. -/
theorem append_row {ops : Array Oper} {rest : List Oper} {o : Oper} {a : Act} {Q : Exit → Act → World → Prop} (w : World) (hgd : o.guard = none) (s x : Operand)
    (ho : o.op = .call { callee := .builtin .append, args := #[s, x], argTypes := #[64, 64] })
    (B : Nat) (A : Option Addr) (n cap : Nat) (vs : List Value) (g : Nat) (hs : a.eval s = .slice A n cap) (hown : w.ownsRow B 26 1 (.slice A n cap) n vs)
    (hx : a.eval x = .slice (some ⟨w.heap.size, 0, none⟩) 1 1) (hn : n ≤ 1000000000000) (hB : B ≤ w.heap.size)
    (h : ∀ A' cap' w', w'.ownsRow B 26 1 (.slice A' (n + 1) cap') (n + 1) (vs ++ [.slice (some ⟨g, 0, none⟩) 8 8]) → Below B w w' → (∀ b cs, Blk w b 3 cs → Blk w' b 3 cs) → wpList Tryz.prog ops Q rest (a.put o.dst (.slice A' (n + 1) cap')) w') :
    wpList Tryz.prog ops Q (o :: rest) a (w.alloc (.cells #[.slice (some ⟨g, 0, none⟩) 8 8] 26)) := by
  obtain ⟨i0, hi, hz0, hz1, hz2⟩ := info_parts Tryz.info26
  refine wpList_append_own _ hgd s x 64 ho B 26 i0 (.slice none 0 0) 1 24 Tryz.underlying64 hi hz0 hz1 hz2 rfl (by decide) _ n vs hs (hown.alloc _) ⟨w.heap.size, 0, none⟩ 1 1 [.slice (some ⟨g, 0, none⟩) 8 8] hx rfl (news_one w _ _) (by intro u hu; simp at hu; subst hu; rfl) (by unfold maxLen; omega) (by omega) (by simp; omega) ?_
  intro v' w' hown' hgrow _
  have hlt := hown.lt
  have hb : Below B w w' := ((Below.refl B w).alloc hB _).grown hgrow (by simp; omega) (fun k hk => (hlt k hk).1)
  rcases hown'.2 with ⟨_, hx⟩ | ⟨g', c', cur, rfl, _⟩
  · simp at hx
  · refine h _ _ _ hown' hb fun b cs hbl => ?_
    refine (hbl.alloc _).gb hgrow ?_
    rcases hown.2 with ⟨hv, _⟩ | ⟨g9, c9, cur9, hv, _, hh, _⟩
    · rw [hv]; simp [Value.ownBlock]
    · rw [hv]
      intro e
      simp only [Value.ownBlock, Option.some.injEq] at e
      subst e
      have := (show w.heap[b]? = _ from hbl).symm.trans hh
      simp at this

/-- The rows of the elder nodes, each in a block of its own. -/
def RowsBlk (w : World) (r : List Nd) (k : Nat) (vs : List Value) : Prop :=
  vs.length = k ∧ ∀ j, j < k → ∃ g, vs[j]? = some (.slice (some ⟨g, 0, none⟩) 8 8) ∧ Blk w g 3 (cellsS (nodeS r j))
theorem RowsBlk.at_ {w : World} {r : List Nd} {k : Nat} {vs : List Value} (h : RowsBlk w r k vs) {B cap : Nat} {A : Option Addr} (ho : w.ownsRow B 26 1 (.slice A k cap) k vs) : RowsAt w A r k := by
  intro j hj
  obtain ⟨g, h1, h2⟩ := h.2 j hj
  obtain ⟨g0, rfl, hc⟩ := own_cell ho hj
  refine ⟨_, g, 8, rfl, by rw [add_head]; exact hc.trans h1, fun i hi => ?_⟩
  rw [h2.cell i, cellsS_get _ _ (by rw [nodeS_len]; exact hi)]

def RSumsP (w : World) (r : List Nd) (e : Ending) (w' : World) : Prop :=
  (∀ L, lens r = some L → ∃ g, e = .returned (.tuple #[.slice (some ⟨g, 0, none⟩) 8 8, .int .i64 0]) ∧ Blk w' g 3 (cellsS (sumW (wordOf r))) ∧ Below w.heap.size w w') ∧
  (lens r = none → e = .returned (.tuple #[.slice none 0 0, .int .i64 20]) ∧ Below w.heap.size w w')

theorem own_empty26 (w : World) : (w.alloc (.cells #[] 26)).ownsRow w.heap.size 26 1 (.slice (some ⟨w.heap.size, 0, none⟩) 0 0) 0 [] :=
  ⟨rfl, .inr ⟨w.heap.size, 0, #[], rfl, Nat.le_refl _, heap_alloc_new w _, Nat.le_refl _, Nat.zero_le _, rfl, rfl⟩⟩

set_option maxHeartbeats 4000000 in
theorem rSums_any (A : Option Addr) (r : List Nd) (cap : Nat) (w : World) (hr : RopeAt w A r) (hm : r.length ≤ maxLen) :
    Calls Tryz.prog 11 #[.slice A r.length cap] w (RSumsP w r) := by
  have hC := rCheck_any A r cap w hr hm
  have HR := Lib.hid hr
  unfold maxLen at hm
  clear hr
  cases hl : lens r with
  | none =>
    rw [errI_none hl] at hC
    have HL := Lib.hid hl
    clear hl
    go_enter Tryz.func11, Tryz.ntmps11
    go_wp2_with fail
    refine hC.mono ?_; rintro e w1 ⟨rfl, hb⟩
    go_wp2
    go_ret2
    exact ⟨fun L h => (by rw [HL.out] at h; cases h), fun _ => ⟨rfl, hb⟩⟩
  | some L =>
    rw [errI_some hl] at hC
    obtain ⟨k1, k2, k3⟩ := lens_ok hl
    have HL := Lib.hid hl
    have hmk := make8
    clear hl k1 k2
    go_enter Tryz.func11, Tryz.ntmps11
    go_wp2_with fail
    refine hC.mono ?_; rintro e w1 ⟨rfl, hb⟩
    have HB := Lib.hid hb
    have hb2 : Below w1.heap.size w1 (w1.alloc (.cells #[] 26)) := (Below.refl _ w1).alloc (Nat.le_refl _) _
    have HB2 := Lib.hid hb2
    clear hC hb hb2
    go_wp2
    go_loopw [5, 6] (fun all i wr => ∃ (k : Nat) (vs : List Value) (Aa : Option Addr) (ca : Nat), k ≤ r.length ∧ i = .int .i64 (k : Int) ∧ all = .slice Aa k ca ∧ wr.ownsRow w1.heap.size 26 1 (.slice Aa k ca) k vs ∧ RowsBlk wr r k vs ∧ Below w1.heap.size w1 wr) (fun _ i _ => r.length - (intOf i).toNat)
    case atStart => exact ⟨0, [], _, 0, Nat.zero_le _, rfl, rfl, own_empty26 w1, ⟨rfl, fun j hj => absurd hj (Nat.not_lt_zero j)⟩, HB2.out⟩
    case round =>
      obtain ⟨k, vs, Aa, ca, hk, rfl, rfl, hown, hrows, hb⟩ := hrel
      by_cases hlt : k < r.length
      · have hS := sum1_any A r cap L HL.out Aa ca k hlt wr ((HR.out.on HB.out).on hb) (hrows.at_ hown)
        have HS := Lib.hid hS
        have HO := Lib.hid hown
        have HRO := Lib.hid hrows
        have HBW := Lib.hid hb
        clear hS hown hrows hb
        go_wp2_with fail
        refine HS.out.mono ?_; rintro e w3 ⟨g, rfl, hg, _, hb3⟩
        have HO3 := Lib.hid (own_below HO.out hb3.block)
        have HG := Lib.hid hg
        have HB4 := Lib.hid (HBW.out.trans (hb3.mono HBW.out.size))
        have HRB := Lib.hid (show RowsBlk w3 r k vs from ⟨HRO.out.1, fun j hj => (by obtain ⟨g1, e1, e2⟩ := HRO.out.2 j hj; exact ⟨g1, e1, e2.below hb3 e2.lt⟩)⟩)
        clear hg hb3
        go_wp2_with (at_builtin; refine append_row w3 rfl (.tmp 19) (.tmp 24) rfl w1.heap.size Aa k ca vs g rfl HO3.out rfl (by omega) HB4.out.size ?_; intro A9 cap9 w9 hown9 hb9 hkeep; have HO9 := Lib.hid hown9; have HB9 := Lib.hid hb9; have HK9 := Lib.hid hkeep; clear hown9 hb9 hkeep)
        go_roundw
        case rel =>
          refine ⟨k + 1, vs ++ [.slice (some ⟨g, 0, none⟩) 8 8], A9, cap9, by omega, by go_num, rfl, HO9.out, ⟨by simp [HRB.out.1], fun j hj => ?_⟩, HB4.out.trans HB9.out⟩
          by_cases hjk : j < k
          · obtain ⟨g1, e1, e2⟩ := HRB.out.2 j hjk
            exact ⟨g1, by rw [List.getElem?_append_left (by rw [HRB.out.1]; exact hjk)]; exact e1, HK9.out _ _ e2⟩
          · obtain rfl : j = k := by omega
            exact ⟨g, by rw [List.getElem?_append_right (by rw [HRB.out.1]; omega), HRB.out.1]; simp, HK9.out _ _ HG.out⟩
        case measure => simp [intOf]; omega
      · have hk' : k = r.length := by omega
        subst hk'
        have HBW := Lib.hid (HB.out.trans (hb.mono HB.out.size))
        rcases Nat.eq_zero_or_pos r.length with h0 | h0
        · obtain rfl : r = [] := List.length_eq_zero_iff.1 h0
          clear hown hrows hb h0
          go_wp2
          go_ret2
          refine ⟨fun L' _ => ⟨wr.heap.size, rfl, Blk.new wr 3 (cellsS zs), HBW.out.alloc HBW.out.size _⟩, fun h => by rw [HL.out] at h; cases h⟩
        · obtain ⟨m, hm1⟩ : ∃ m, r.length = m + 1 := ⟨r.length - 1, by omega⟩
          obtain ⟨g, e1, e2⟩ := hrows.2 m (by omega)
          obtain ⟨g0, rfl, hc⟩ := own_cell hown (show m < r.length by omega)
          rw [e1] at hc
          have hw : wordOf r = (dens r).getD m [] := by unfold wordOf; rw [hm1, Nat.add_sub_cancel]
          have HE2 : Hid (Blk wr g 3 (cellsS (sumW (wordOf r)))) := Lib.hid (by rw [hw]; exact e2)
          have HM1 := Lib.hid hm1
          have hz : (r.length : Int) - 1 = (m : Int) := by omega
          have hmr : m < r.length := by omega
          clear hown hrows hb e1 e2 hw hm1 hmk
          go_wp2
          go_ret2
          exact ⟨fun L' _ => ⟨g, rfl, HE2.out, HBW.out⟩, fun h => by rw [HL.out] at h; cases h⟩

set_option maxHeartbeats 1000000 in
theorem ints_nil (w : World) : Calls Tryz.prog 15 #[.slice none 0 0, .slice none 0 0] w fun e w' => e = .returned (.bool true) ∧ Below w.heap.size w w' := by
  go_enter Tryz.func15, Tryz.ntmps15
  go_wp2
  go_loop [5] (fun i => i = .int .i64 0) (fun _ => 0)
  case atStart => rfl
  case round =>
    subst hrel
    go_wp2
    go_ret
    exact ⟨rfl, Below.refl _ _⟩

set_option maxHeartbeats 1000000 in
theorem ints_same (g1 g2 : Nat) (t1 t2 : TypeId) (S : List Int) (hS : S.length = 8) (w : World) (h1 : Blk w g1 t1 (cellsS S)) (h2 : Blk w g2 t2 (cellsS S)) :
    Calls Tryz.prog 15 #[.slice (some ⟨g1, 0, none⟩) 8 8, .slice (some ⟨g2, 0, none⟩) 8 8] w fun e w' => e = .returned (.bool true) ∧ Below w.heap.size w w' := by
  have H1 := Lib.hid h1
  have H2 := Lib.hid h2
  have HS := Lib.hid hS
  clear h1 h2 hS
  go_enter Tryz.func15, Tryz.ntmps15
  go_wp2
  go_loopw [5] (fun i wr => ∃ (k n : Nat), k ≤ 8 ∧ i = .int .i64 (k : Int) ∧ wr = w.drewN n) (fun i _ => 8 - (intOf i).toNat)
  case atStart => exact ⟨0, 0, by omega, rfl, rfl⟩
  case round =>
    obtain ⟨k, n, hk, rfl, rfl⟩ := hrel
    by_cases hlt : k < 8
    · have c1 : (w.drewN n).cell? ⟨g1, k, none⟩ = some (.int .i64 (S.getD k 0)) := (H1.out.cell k).trans (cellsS_get _ _ (by rw [HS.out]; exact hlt))
      have c2 : (w.drewN n).cell? ⟨g2, k, none⟩ = some (.int .i64 (S.getD k 0)) := (H2.out.cell k).trans (cellsS_get _ _ (by rw [HS.out]; exact hlt))
      generalize S.getD k 0 = x at *
      generalize hw2 : w.drewN n = w2 at *
      have HW := Lib.hid hw2
      clear hw2
      go_wp2
      go_quiet (fail)
      go_wp2
      go_roundw
      case rel => exact ⟨k + 1, n + nq, by omega, by go_num, by rw [← HW.out]; simp [World.drewN, Nat.add_assoc]⟩
      case measure => simp [intOf]; omega
    · obtain rfl : k = 8 := by omega
      go_wp2
      go_ret
      exact ⟨rfl, (Below.refl _ _).drewN n⟩
end Go.Proofs.YtgklmcinbaghmaaGreatDoor
