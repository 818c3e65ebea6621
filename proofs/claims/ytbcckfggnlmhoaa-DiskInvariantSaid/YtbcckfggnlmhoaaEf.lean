/-
  Our own text, in the proofs of the laws of package disk (cayleylaw04). Proved here: slices.Grow and slices.Concat of cells. Conditions: none but bounds.
-/
import Derived.Test.YtbcckfggnlmhoaaEe
import Derived.Lib.AppendZeros
import Derived.Laws.AppendOwnNone
namespace Go.Proofs.Ytbcckfggnlmhoaa
open Go Go.RowKit

def GrowC (w : World) (e : Ending) (w' : World) : Prop :=
  ∃ A cap, e = .returned (.slice A 0 cap) ∧ w'.ownsRow w.heap.size 61 3 (.slice A 0 cap) 0 (cs3 []) ∧ Below w.heap.size w w'

set_option maxHeartbeats 1000000 in
set_option maxRecDepth 100000 in
theorem Grow_any (n : Nat) (hn : n ≤ 1000000000) (w : World) : Calls Try.prog 78 #[.slice none 0 0, .int .i64 (n : Int)] w (GrowC w) := by
  by_cases h0 : n = 0
  · subst h0
    go_enter Try.func78, Try.ntmps78
    go_wp2
    go_ret
    exact ⟨none, 0, rfl, World.ownsRow_nil _ _ _ _, Below.refl _ _⟩
  · obtain ⟨i0, hi, hz0, hz1, hz2⟩ := info_parts Try.info61
    have hr := Lib.run_append_nil_zeros (P := Try.prog) w 25 3 25 61 i0 (.agg #[.string ⟨#[]⟩, .int .i64 0, .bool false]) .i64 .i64 Try.underlying25 Try.underlying3 hi hz0 n (by omega) (by rw [hz1]; decide) (by omega) (by rw [hz2]; omega)
    have hcm : grownCap w n 0 61 ≤ maxLen := grownCap_le_maxLen w n 0 61 (by unfold maxLen; omega)
    have hge : n ≤ grownCap w n 0 61 := grownCap_ge w n 0 61
    generalize grownCap w n 0 61 = c at *
    generalize hZ : (Builtin.zeroCells (Value.cells (.agg #[.string ⟨#[]⟩, .int .i64 0, .bool false])) n ++ Builtin.zeroCells (Value.cells (.agg #[.string ⟨#[]⟩, .int .i64 0, .bool false])) (c - n)) = Z at hr
    have hZs : Z.size = c * 3 := by rw [← hZ]; simp [size_zeroCells, Value.cells]; omega
    have hown : (w.drew.alloc (.cells Z 61)).ownsRow w.heap.size 61 3 (.slice (some ⟨w.heap.size, 0, none⟩) 0 c) 0 (cs3 []) :=
      ⟨rfl, .inr ⟨w.heap.size, c, Z, rfl, Nat.le_refl _, heap_alloc_new w.drew _, Nat.zero_le _, hcm, hZs, by simp [cs3]⟩⟩
    have hb : Below w.heap.size w (w.drew.alloc (.cells Z 61)) := ((Below.refl w.heap.size w).drewN 1).alloc (Nat.le_refl _) _
    have HO := Lib.hid hown
    have HB := Lib.hid hb
    have HRR := Lib.hid hr
    have hn1 : 1 ≤ n := by omega
    clear hown hb hZ hZs hcm hi hz0 hz1 hz2 hr h0
    go_enter Try.func78, Try.ntmps78
    go_wp2_with (at_builtin; refine Lib.wpList_append_run _ rfl _ _ _ _ rfl _ _ rfl rfl _ _ HRR.out ?_)
    go_ret
    exact ⟨_, c, rfl, HO.out, HB.out⟩

/-- append of cells, or of nothing, to an own row. -/
theorem append_opt {ops : Array Oper} {rest : List Oper} {o : Oper} {a : Act} {Q : Exit → Act → World → Prop} (w : World) (hgd : o.guard = none) (s x : Operand)
    (ho : o.op = .call { callee := .builtin .append, args := #[s, x], argTypes := #[25, 25] })
    (B : Nat) (A : Option Addr) (n cap : Nat) (r t : List Cel) (hs : a.eval s = .slice A n cap) (hown : w.ownsRow B 61 3 (.slice A n cap) n (cs3 r))
    (X : Option Addr) (m c : Nat) (hx : a.eval x = .slice X m c) (hm : m = t.length) (hr : CellsAt w X t) (hX : X = none → t = [] ∧ c = 0) (hn : n + m ≤ 1000000000) (hB : B ≤ w.heap.size)
    (h : ∀ A' cap' w', w'.ownsRow B 61 3 (.slice A' (n + m) cap') (n + m) (cs3 (r ++ t)) → Below B w w' → wpList Try.prog ops Q rest (a.put o.dst (.slice A' (n + m) cap')) w') :
    wpList Try.prog ops Q (o :: rest) a w := by
  cases X with
  | none =>
    obtain ⟨rfl, rfl⟩ := hX rfl
    obtain rfl : m = 0 := hm
    obtain ⟨i0, hi, hz0, hz1, hz2⟩ := info_parts Try.info61
    refine wpList_append_own_none hgd s x 25 ho B 61 i0 3 Try.underlying25 hi _ n (cs3 r) hs hown hx ?_
    have := h A cap w (by simpa using hown) (Below.refl _ _)
    simpa using this
  | some ad => exact append_cells w hgd s x ho B A n cap r t hs hown ad c m hm hx hr (by omega) hB (fun A' cap' w' h1 h2 _ => h A' cap' w' h1 (below_of_grown (Below.refl B w) h2 hB (own_ge hown)))

set_option maxHeartbeats 4000000 in
set_option maxRecDepth 100000 in
theorem SConcat_any (g : Nat) (A B : Option Addr) (a b : List Cel) (cap capb : Nat) (w : World) (hx0 : w.cell? ⟨g, 0, none⟩ = some (.slice A a.length cap)) (hx1 : w.cell? ⟨g, 1, none⟩ = some (.slice B b.length capb)) (hr : CellsAt w A a) (hr' : CellsAt w B b)
    (hA : A = none → a = [] ∧ cap = 0) (hB : B = none → b = [] ∧ capb = 0) (hn : a.length + b.length ≤ 1000000000) :
    Calls Try.prog 45 #[.slice (some ⟨g, 0, none⟩) 2 2] w (CloneC w (a ++ b)) := by
  have hg := lt_of_cell hx0
  simp only at hg
  have HX0 := Lib.hid hx0
  have HX1 := Lib.hid hx1
  have HR := Lib.hid hr
  have HR' := Lib.hid hr'
  have HA := Lib.hid hA
  have HB := Lib.hid hB
  clear hr hr' hA hB
  go_enter Try.func45, Try.ntmps45
  go_wp2
  go_loop [3, 5, 11] (fun s3 _ i => ∃ k : Nat, k ≤ 2 ∧ i = .int .i64 (k : Int) ∧ s3 = .int .i64 (if k = 0 then 0 else if k = 1 then (a.length : Int) else (a.length : Int) + (b.length : Int))) (fun _ _ i => 2 - (intOf i).toNat)
  case atStart => exact ⟨0, by omega, rfl, rfl⟩
  case round =>
    obtain ⟨k, hk, rfl, rfl⟩ := hrel
    by_cases hk0 : k = 0
    · subst hk0
      rw [if_pos rfl]
      go_wp2
      go_round
      case rel => exact ⟨1, by omega, by go_num, by simp⟩
      case measure => simp [intOf]
    · by_cases hk1 : k = 1
      · subst hk1
        rw [if_neg (by omega), if_pos rfl]
        go_wp2
        go_round
        case rel => exact ⟨2, by omega, by go_num, by simp⟩
        case measure => simp [intOf]
      · obtain rfl : k = 2 := by omega
        rw [if_neg (by omega), if_neg (by omega)]
        clear hx0 hx1
        go_wp2_with fail
        have hG := Grow_any (a.length + b.length) hn w
        rw [Int.natCast_add] at hG
        refine hG.mono ?_
        rintro e w1 ⟨A1, c1, rfl, hown1, hb1⟩
        have HO1 := Lib.hid hown1
        have HB1 := Lib.hid hb1
        clear hown1 hb1 hG hk0 hk1 hk
        go_wp2
        go_loopw [6, 8, 27] (fun o _ i wr => ∃ (k : Nat) (A' : Option Addr) (n cap' : Nat), k ≤ 2 ∧ i = .int .i64 (k : Int) ∧ o = .slice A' n cap' ∧ n = (if k = 0 then 0 else if k = 1 then a.length else a.length + b.length) ∧ wr.ownsRow w.heap.size 61 3 (.slice A' n cap') n (cs3 (if k = 0 then [] else if k = 1 then a else a ++ b)) ∧ Below w.heap.size w wr) (fun _ _ i _ => 2 - (intOf i).toNat)
        case atStart => exact ⟨0, A1, 0, c1, by omega, rfl, rfl, rfl, HO1.out, HB1.out⟩
        case round =>
          obtain ⟨k, A', n, cap', hk, rfl, rfl, hnn, hown, hbw⟩ := hrel
          have HBW := Lib.hid hbw
          by_cases hk0 : k = 0
          · subst hk0
            rw [if_pos rfl] at hnn hown
            subst hnn
            have HO := Lib.hid hown
            have hx0 : wr.cell? ⟨g, 0, none⟩ = some (.slice A a.length cap) := (HBW.out.cell (p := ⟨g, 0, none⟩) hg).trans HX0.out
            clear hown hbw
            go_wp2_with (at_builtin; refine append_opt wr rfl (.tmp 31) (.tmp 32) rfl w.heap.size A' 0 cap' [] a rfl HO.out A a.length cap rfl rfl (HR.out.below HBW.out) HA.out (by omega) HBW.out.size ?_; intro A9 cap9 w9 hown9 hb9; have HO9 := Lib.hid hown9; have HB9 := Lib.hid hb9; clear hown9 hb9)
            go_roundw
            case rel => exact ⟨1, A9, _, cap9, by omega, by go_num, rfl, by simp, by simpa using HO9.out, HBW.out.trans HB9.out⟩
            case measure => simp [intOf]
          · by_cases hk1 : k = 1
            · subst hk1
              rw [if_neg (by omega), if_pos rfl] at hnn hown
              subst hnn
              have HO := Lib.hid hown
              have hx1 : wr.cell? ⟨g, 1, none⟩ = some (.slice B b.length capb) := (HBW.out.cell (p := ⟨g, 1, none⟩) hg).trans HX1.out
              clear hown hbw
              go_wp2_with (at_builtin; refine append_opt wr rfl (.tmp 31) (.tmp 32) rfl w.heap.size A' a.length cap' a b rfl HO.out B b.length capb rfl rfl (HR'.out.below HBW.out) HB.out (by omega) HBW.out.size ?_; intro A9 cap9 w9 hown9 hb9; have HO9 := Lib.hid hown9; have HB9 := Lib.hid hb9; clear hown9 hb9)
              go_roundw
              case rel => exact ⟨2, A9, _, cap9, by omega, by go_num, rfl, by simp, by simpa using HO9.out, HBW.out.trans HB9.out⟩
              case measure => simp [intOf]
            · obtain rfl : k = 2 := by omega
              rw [if_neg (by omega), if_neg (by omega)] at hnn hown
              subst hnn
              have HO := Lib.hid hown
              clear hown hbw
              go_wp2
              go_ret
              exact ⟨A', cap', by rw [List.length_append]; rfl, by rw [List.length_append]; exact HO.out, HBW.out⟩
end Go.Proofs.Ytbcckfggnlmhoaa
