/-
  Our own text, in the proofs of the laws of package disk (cayleylaw04). Proved here: appendReduced of cells. Conditions: none but bounds.
-/
import Derived.Test.YtbcckfggnlmhoaaEc
import Derived.Deep.RegionHeld3
import Derived.Laws.StructEq
namespace Go.Proofs.Ytbcckfggnlmhoaa
open Go Go.RowKit

theorem eq_mk (l m : List UInt8) : ((ByteArray.mk l.toArray) = (ByteArray.mk m.toArray)) ↔ l = m := by
  constructor
  · intro h; have := congrArg (fun b : ByteArray => b.data.toList) h; simpa using this
  · rintro rfl; rfl

set_option maxHeartbeats 1000000 in
theorem eqC (xc yc : List UInt8) (xr yr : Int) (xi yi : Bool) (w : World) :
    (binOp .eql 61 (.agg #[.string ⟨xc.toArray⟩, .int .i64 xr, .bool xi]) (.agg #[.string ⟨yc.toArray⟩, .int .i64 yr, .bool yi])).run Try.prog w = .ok (.bool (decide ((⟨xc, xr, xi⟩ : Cel) = ⟨yc, yr, yi⟩))) w := by
  have u3 := Try.underlying3
  have u4 := Try.underlying4
  have u9 := Try.underlying9
  have hS : Try.prog.underlying 61 = some (.struct (Try.prog.fieldsOf 61)) := by kernel_rfl
  have hp : Try.prog.stoodInHeld 61 = false := by kernel_rfl
  rw [run_eql_struct, show (10000 : Nat) = 9999 + 1 from rfl, run_equalIn_agg w 9999 61 _ _ hS hp]
  simp only [Program.fieldsOf, Try.underlying61]
  go_simp
  by_cases h1 : xc = yc <;> by_cases h2 : xr = yr <;> by_cases h3 : xi = yi <;> simp [h1, h2, h3]

theorem cellOne (w : World) (c : List UInt8) (r : Int) (i : Bool) (t : TypeId) (hl : c.length ≤ 140737488351232) : CellsAt (w.alloc (.cells (celC c r i) t)) (some ⟨w.heap.size, 0, none⟩) [⟨c, r, i⟩] := by
  have hb := (HasCells.new w (celC c r i) t).cell
  intro j hj
  obtain rfl : j = 0 := by simpa using hj
  refine ⟨w.heap.size, 0, rfl, ?_, ?_, ?_, hl⟩
  · simp only [Nat.zero_mul, Nat.add_zero]; rw [hb]; rfl
  · simp only [Nat.zero_mul, Nat.zero_add]; rw [hb]; rfl
  · simp only [Nat.zero_mul, Nat.zero_add]; rw [hb]; rfl

/-- append of one cell, by its literal slice, to a row of the call's own. -/
theorem append_oneC {ops : Array Oper} {rest : List Oper} {o : Oper} {a : Act} {Q : Exit → Act → World → Prop} (w : World) (hgd : o.guard = none) (s x : Operand)
    (ho : o.op = .call { callee := .builtin .append, args := #[s, x], argTypes := #[25, 25] })
    (B : Nat) (A : Option Addr) (n cap : Nat) (d : List Cel) (c : List UInt8) (r : Int) (i : Bool) (hc : c.length ≤ 140737488351232) (hs : a.eval s = .slice A n cap) (hown : w.ownsRow B 61 3 (.slice A n cap) n (cs3 d))
    (hx : a.eval x = .slice (some ⟨w.heap.size, 0, none⟩) 1 1) (hn : n ≤ 100000000000) (hB : B ≤ w.heap.size)
    (h : ∀ A' cap' w', w'.ownsRow B 61 3 (.slice A' (n + 1) cap') (n + 1) (cs3 (d ++ [⟨c, r, i⟩])) → w.grownBy w' (blk A) → Moved w A A' → wpList Try.prog ops Q rest (a.put o.dst (.slice A' (n + 1) cap')) w') :
    wpList Try.prog ops Q (o :: rest) a (w.alloc (.cells (celC c r i) 61)) := by
  refine append_cells _ hgd s x ho B A n cap d [⟨c, r, i⟩] hs (hown.alloc _) ⟨w.heap.size, 0, none⟩ 1 1 rfl hx (cellOne w c r i 61 hc) (by omega) (by simp; omega) ?_
  intro A' cap' w' hown' hgrow hm
  refine h A' cap' w' hown' (grown_trans (World.grownBy_alloc w _ (blk A)) hgrow (.inl rfl)) ?_
  rcases hm with hm | hm
  · exact .inl hm
  · exact .inr fun k hk => by have := hm k hk; simp at this; omega

set_option maxHeartbeats 4000000 in
set_option maxRecDepth 100000 in
theorem appRedC_any (l : List Cel) (A : Option Addr) (cap : Nat) (w : World) (hl : CellsAt w A l) (hs : Sized l) (hn : l.length ≤ 1000000000) :
    Calls Try.prog 81 #[.slice none 0 0, .slice A l.length cap, .func (.func 48) #[] #[]] w (CloneC w (gred invC l)) := by
  have HL := Lib.hid hl
  have HSZ := Lib.hid hs
  clear hl hs
  go_enter Try.func81, Try.ntmps81
  go_wp2
  go_loopw [0, 8, 9, 12] (fun out _ _ i wr => ∃ (k : Nat) (s : List Cel) (O : Option Addr) (n oc : Nat), k ≤ l.length ∧ i = .int .i64 (k : Int) ∧ s = grun invC [] (l.take k) ∧ n = s.length ∧ n ≤ k ∧ Sized s ∧ out = .slice O n oc ∧ wr.ownsRow w.heap.size 61 3 (.slice O n oc) n (cs3 s.reverse) ∧ Below w.heap.size w wr)
    (fun _ _ _ i _ => l.length - (intOf i).toNat)
  case atStart => exact ⟨0, [], none, 0, 0, Nat.zero_le _, rfl, rfl, rfl, by omega, (fun c hc => by cases hc), rfl, World.ownsRow_nil _ _ _ _, Below.refl _ _⟩
  case round =>
    obtain ⟨k, s, O, n, oc, hk, rfl, hss, hns, hnk, hsz, rfl, hown, hb⟩ := hrel
    have HS := Lib.hid hss
    have HB := Lib.hid hb
    have HOW := Lib.hid hown
    have HSS := Lib.hid hsz
    clear hss hb hown hsz
    by_cases hlt : k < l.length
    · have HSN : Hid (gstp invC s l[k] = grun invC [] (l.take (k + 1))) := Lib.hid (by rw [HS.out]; exact (grun_take_succ invC [] l k hlt).symm)
      obtain ⟨b, o, hA, hx⟩ := (HL.out.below HB.out) k hlt
      subst hA
      have hxs := HSZ.out l[k] (List.getElem_mem _)
      generalize l[k] = x at *
      obtain ⟨xc, xr, xi⟩ := x
      obtain ⟨x0, x1, x2, x3⟩ := hx
      simp only at x0 x1 x2 x3 hxs
      have HXS := Lib.hid hxs
      have HB1 : Hid (Below wr.heap.size wr (wr.alloc (.cells (celC xc xr xi) 61))) := Lib.hid ((Below.refl _ _).alloc (Nat.le_refl _) _)
      have HO1 := Lib.hid (own_below HOW.out HB1.out)
      have HBB := Lib.hid (HB.out.trans (HB1.out.mono HB.out.size))
      have HBX := Lib.hid (HasCells.new wr (celC xc xr xi) 61)
      clear x3 hxs
      cases s with
      | nil =>
        obtain rfl : n = 0 := by simpa using hns
        clear hns
        have hd : decide ((0 : Int) ≤ 0 - 1) = false := by decide
        have hd2 : decide ((0 : Int) ≤ -1) = false := by decide
        have HSN2 : Hid ([⟨xc, xr, xi⟩] = grun invC [] (l.take (k + 1))) := Lib.hid HSN.out
        go_wp2
        have b0 : (wr.alloc (.cells (celC xc xr xi) 61)).cell? ⟨wr.heap.size, 0, none⟩ = some (.string ⟨xc.toArray⟩) := HBX.out.cell 0
        have b1 : (wr.alloc (.cells (celC xc xr xi) 61)).cell? ⟨wr.heap.size, 1, none⟩ = some (.int .i64 xr) := HBX.out.cell 1
        have b2 : (wr.alloc (.cells (celC xc xr xi) 61)).cell? ⟨wr.heap.size, 2, none⟩ = some (.bool xi) := HBX.out.cell 2
        generalize hw1 : wr.alloc (.cells (celC xc xr xi) 61) = w1 at *
        have HW1 := Lib.hid hw1
        clear hw1 x0 x1 x2
        go_quiet (fail)
        go_wp2_with (at_builtin; refine append_oneC (w1.drewN nq) rfl (.tmp 34) (.tmp 36) rfl w.heap.size O 0 oc [] xc xr xi HXS.out rfl (show (w1.drewN nq).ownsRow _ _ _ _ _ _ from HO1.out) rfl (by omega) HBB.out.size ?_; intro A' cap' w2 hown2 hg2 hm2)
        have H2 := Lib.hid hown2
        have B2 := Lib.hid (below_of_grown (HBB.out.drewN nq) hg2 HBB.out.size (own_ge HO1.out))
        clear hown2 hg2 hm2
        go_wp2
        go_roundw
        case rel => exact ⟨k + 1, [⟨xc, xr, xi⟩], A', 1, cap', by omega, by go_num, HSN2.out, rfl, by omega, (fun c hc => by simp at hc; subst hc; exact HXS.out), rfl, H2.out, B2.out⟩
        case measure => simp [intOf]; omega
      | cons y t =>
        obtain rfl : n = t.length + 1 := by simpa using hns
        clear hns
        obtain ⟨g, o2, hO, hy⟩ := cells_own HO1.out (fun c hc => HSS.out c (List.mem_reverse.1 hc)) t.length (by simp)
        obtain rfl : o2 = 0 := by
          rcases own_shape HOW.out with ⟨h, _⟩ | ⟨g', h, _⟩
          · rw [hO] at h; cases h
          · rw [hO] at h; cases h; rfl
        subst hO
        have he : (y :: t).reverse[t.length]'(by simp) = y := by simp
        rw [he, Nat.zero_add] at hy
        clear he
        obtain ⟨yc, yr, yi⟩ := y
        obtain ⟨y0, y1, y2, y3⟩ := hy
        simp only at y0 y1 y2
        have hd : decide ((0 : Int) ≤ (t.length : Int)) = true := by simp
        have hcp := own_cap HOW.out
        have hi0 : (0 : Int) ≤ (t.length : Int) := by omega
        have hi1 : (t.length : Int) < (t.length : Int) + 1 := by omega
        have hi2 : (t.length : Int) < ((t.length + 1 : Nat) : Int) := by omega
        have hi3 : ((t.length : Int)).toNat = t.length := by omega
        go_wp2
        have b0 : (wr.alloc (.cells (celC xc xr xi) 61)).drew.cell? ⟨wr.heap.size, 0, none⟩ = some (.string ⟨xc.toArray⟩) := HBX.out.cell 0
        have b1 : (wr.alloc (.cells (celC xc xr xi) 61)).drew.cell? ⟨wr.heap.size, 1, none⟩ = some (.int .i64 xr) := HBX.out.cell 1
        have b2 : (wr.alloc (.cells (celC xc xr xi) 61)).drew.cell? ⟨wr.heap.size, 2, none⟩ = some (.bool xi) := HBX.out.cell 2
        have y0' : (wr.alloc (.cells (celC xc xr xi) 61)).drew.cell? ⟨g, t.length * 3, none⟩ = some (.string ⟨yc.toArray⟩) := y0
        have y1' : (wr.alloc (.cells (celC xc xr xi) 61)).drew.cell? ⟨g, t.length * 3 + 1, none⟩ = some (.int .i64 yr) := y1
        have y2' : (wr.alloc (.cells (celC xc xr xi) 61)).drew.cell? ⟨g, t.length * 3 + 2, none⟩ = some (.bool yi) := y2
        have HD := Lib.hid (HBB.out.drewN 1)
        have HO1d := Lib.hid (own_drew HO1.out)
        have HBXd := Lib.hid (HBX.out.drewN 1)
        generalize hw1 : wr.alloc (.cells (celC xc xr xi) 61) = w1 at *
        have HW1 := Lib.hid hw1
        clear hw1 x0 x1 x2 y0 y1 y2
        have HC := Lib.hid (inverseCell_any xc xr xi w1.drew)
        have HYES : Hid ((⟨yc, yr, yi⟩ : Cel) = ⟨xc, xr, !xi⟩ → t = grun invC [] (l.take (k + 1))) := Lib.hid (fun h => by
          rw [← HSN.out]
          show t = if (⟨yc, yr, yi⟩ : Cel) = invC ⟨xc, xr, xi⟩ then t else _
          rw [if_pos (by rw [h]; rfl)])
        have HNO : Hid (¬ (⟨yc, yr, yi⟩ : Cel) = ⟨xc, xr, !xi⟩ → ⟨xc, xr, xi⟩ :: ⟨yc, yr, yi⟩ :: t = grun invC [] (l.take (k + 1))) := Lib.hid (fun h => by
          rw [← HSN.out]
          show _ = if (⟨yc, yr, yi⟩ : Cel) = invC ⟨xc, xr, xi⟩ then t else ⟨xc, xr, xi⟩ :: ⟨yc, yr, yi⟩ :: t
          rw [if_neg (show ¬ (⟨yc, yr, yi⟩ : Cel) = invC ⟨xc, xr, xi⟩ from h)])
        cases hcc : decide ((⟨yc, yr, yi⟩ : Cel) = ⟨xc, xr, !xi⟩) with
        | true =>
          have hE : ∀ wx, (binOp .eql 61 (.agg #[.string ⟨yc.toArray⟩, .int .i64 yr, .bool yi]) (.agg #[.string ⟨xc.toArray⟩, .int .i64 xr, .bool (!xi)])).run Try.prog wx = .ok (.bool true) wx := fun wx => by rw [eqC, hcc]
          have HSN2 : Hid (t = grun invC [] (l.take (k + 1))) := Lib.hid (HYES.out (of_decide_eq_true hcc))
          have HT := Lib.hid (own_take (m := t.length) (by omega) HO1d.out)
          clear hcc
          go_region_held3 (fun W => W.cell? ⟨g, t.length * 3, none⟩ = some (.string ⟨yc.toArray⟩) ∧ W.cell? ⟨g, t.length * 3 + 1, none⟩ = some (.int .i64 yr) ∧ W.cell? ⟨g, t.length * 3 + 2, none⟩ = some (.bool yi) ∧ W.cell? ⟨wr.heap.size, 0, none⟩ = some (.string ⟨xc.toArray⟩) ∧ W.cell? ⟨wr.heap.size, 1, none⟩ = some (.int .i64 xr) ∧ W.cell? ⟨wr.heap.size, 2, none⟩ = some (.bool xi))
            (first | with_reducible exact ⟨y0', y1', y2', b0, b1, b2⟩ | with_reducible exact ⟨z0, z1, z2, c0, c1, c2⟩)
            (first | (go_at_call 48; ((with_reducible refine HC.out.mono ?_); rintro e w2 ⟨rfl, hb2⟩; have z0 := (hb2.cell (p := ⟨g, t.length * 3, none⟩) (lt_of_cell y0')).trans y0'; have z1 := (hb2.cell (p := ⟨g, t.length * 3 + 1, none⟩) (lt_of_cell y1')).trans y1'; have z2 := (hb2.cell (p := ⟨g, t.length * 3 + 2, none⟩) (lt_of_cell y2')).trans y2'; have c0 := (hb2.cell (p := ⟨wr.heap.size, 0, none⟩) (lt_of_cell b0)).trans b0; have c1 := (hb2.cell (p := ⟨wr.heap.size, 1, none⟩) (lt_of_cell b1)).trans b1; have c2 := (hb2.cell (p := ⟨wr.heap.size, 2, none⟩) (lt_of_cell b2)).trans b2; have HB2 := Lib.hid hb2; clear hb2 y0' y1' y2' b0 b1 b2)))
          all_goals (
            rename_i hHeld
            clear hHeld z0 z1 z2 c0 c1 c2 hE
            have HT2 := Lib.hid (own_below HT.out HB2.out)
            have HBX2 := Lib.hid (HD.out.trans (HB2.out.mono HD.out.size))
            go_wp2
            go_roundw
            case rel => exact ⟨k + 1, t, _, t.length, oc, by omega, by go_num, HSN2.out, rfl, by omega, (fun c hc => HSS.out c (List.mem_cons_of_mem _ hc)), rfl, by have := HT2.out; rwa [List.reverse_cons, cs3_app, List.take_left' (by rw [cs3_len, List.length_reverse])] at this, HBX2.out⟩
            case measure => simp [intOf]; omega)
        | false =>
          have hE : ∀ wx, (binOp .eql 61 (.agg #[.string ⟨yc.toArray⟩, .int .i64 yr, .bool yi]) (.agg #[.string ⟨xc.toArray⟩, .int .i64 xr, .bool (!xi)])).run Try.prog wx = .ok (.bool false) wx := fun wx => by rw [eqC, hcc]
          have HSN2 := Lib.hid (HNO.out (of_decide_eq_false hcc))
          clear hcc
          go_region_held3 (fun W => W.cell? ⟨g, t.length * 3, none⟩ = some (.string ⟨yc.toArray⟩) ∧ W.cell? ⟨g, t.length * 3 + 1, none⟩ = some (.int .i64 yr) ∧ W.cell? ⟨g, t.length * 3 + 2, none⟩ = some (.bool yi) ∧ W.cell? ⟨wr.heap.size, 0, none⟩ = some (.string ⟨xc.toArray⟩) ∧ W.cell? ⟨wr.heap.size, 1, none⟩ = some (.int .i64 xr) ∧ W.cell? ⟨wr.heap.size, 2, none⟩ = some (.bool xi))
            (first | with_reducible exact ⟨y0', y1', y2', b0, b1, b2⟩ | with_reducible exact ⟨z0, z1, z2, c0, c1, c2⟩)
            (first | (go_at_call 48; ((with_reducible refine HC.out.mono ?_); rintro e w2 ⟨rfl, hb2⟩; have z0 := (hb2.cell (p := ⟨g, t.length * 3, none⟩) (lt_of_cell y0')).trans y0'; have z1 := (hb2.cell (p := ⟨g, t.length * 3 + 1, none⟩) (lt_of_cell y1')).trans y1'; have z2 := (hb2.cell (p := ⟨g, t.length * 3 + 2, none⟩) (lt_of_cell y2')).trans y2'; have c0 := (hb2.cell (p := ⟨wr.heap.size, 0, none⟩) (lt_of_cell b0)).trans b0; have c1 := (hb2.cell (p := ⟨wr.heap.size, 1, none⟩) (lt_of_cell b1)).trans b1; have c2 := (hb2.cell (p := ⟨wr.heap.size, 2, none⟩) (lt_of_cell b2)).trans b2; have HB2 := Lib.hid hb2; clear hb2 y0' y1' y2' b0 b1 b2)))
          all_goals (
            rename_i hHeld
            clear hHeld z0 z1 z2 hE
            have HO2 := Lib.hid (own_below HO1d.out HB2.out)
            have HBX2 := Lib.hid (HD.out.trans (HB2.out.mono HD.out.size))
            go_wp2_with (at_builtin; refine append_oneC w2 rfl (.tmp 34) (.tmp 36) rfl w.heap.size _ (t.length + 1) oc (⟨yc, yr, yi⟩ :: t).reverse xc xr xi HXS.out rfl HO2.out rfl (by omega) HBX2.out.size ?_; intro A' cap' w4 hown4 hg4 hm4)
            have H4 := Lib.hid hown4
            have B4 := Lib.hid (below_of_grown HBX2.out hg4 HBX2.out.size (own_ge HO2.out))
            clear hown4 hg4 hm4
            go_wp2
            go_roundw
            case rel => exact ⟨k + 1, ⟨xc, xr, xi⟩ :: ⟨yc, yr, yi⟩ :: t, A', t.length + 1 + 1, cap', by omega, by go_num, HSN2.out, rfl, by omega, (fun c hc => by rcases List.mem_cons.1 hc with rfl | hc; exact HXS.out; exact HSS.out c hc), rfl, by have := H4.out; rwa [← List.reverse_cons] at this, B4.out⟩
            case measure => simp [intOf]; omega)
    · obtain rfl : k = l.length := by omega
      have HR : Hid (s.reverse = gred invC l) := Lib.hid (by rw [HS.out, List.take_length]; rfl)
      have HLN : Hid (n = (gred invC l).length) := Lib.hid (by rw [← HR.out, List.length_reverse, hns])
      go_wp2
      go_ret
      refine ⟨O, oc, ?_, ?_, HB.out⟩
      · rw [← HLN.out]; rfl
      · rw [← HLN.out, ← HR.out]; exact HOW.out
end Go.Proofs.Ytbcckfggnlmhoaa
