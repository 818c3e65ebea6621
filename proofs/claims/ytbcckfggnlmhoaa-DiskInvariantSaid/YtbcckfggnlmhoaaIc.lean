/-
  Our own text, in the proofs of the laws of package disk (cayleylaw04). Proved here: slices.Grow, slices.Concat, bytes.Equal of bytes. Conditions: none but bounds.
-/
import Derived.Test.YtbcckfggnlmhoaaIb
import Derived.Lib.AppendZeros
import Derived.Laws.AppendOwnNone
namespace Go.Proofs.Ytbcckfggnlmhoaa
open Go Go.RowKit

def GrowB (w : World) (e : Ending) (w' : World) : Prop :=
  ∃ A cap, e = .returned (.slice A 0 cap) ∧ w'.ownsRow w.heap.size 5 1 (.slice A 0 cap) 0 (bs []) ∧ Below w.heap.size w w'

set_option maxHeartbeats 1000000 in
set_option maxRecDepth 100000 in
theorem GrowB_any (n : Nat) (hn : n ≤ 1000000000) (w : World) : Calls Try.prog 106 #[.slice none 0 0, .int .i64 (n : Int)] w (GrowB w) := by
  by_cases h0 : n = 0
  · subst h0
    go_enter Try.func106, Try.ntmps106
    go_wp2
    go_ret
    exact ⟨none, 0, rfl, World.ownsRow_nil _ _ _ _, Below.refl _ _⟩
  · obtain ⟨i0, hi, hz0, hz1, hz2⟩ := info_parts Try.info5
    have hr := Lib.run_append_nil_zeros (P := Try.prog) w 58 3 58 5 i0 (.int .u8 0) .i64 .i64 Try.underlying58 Try.underlying3 hi hz0 n (by omega) (by rw [hz1]; decide) (by omega) (by rw [hz2]; omega)
    have hcm : grownCap w n 0 5 ≤ maxLen := grownCap_le_maxLen w n 0 5 (by unfold maxLen; omega)
    have hge : n ≤ grownCap w n 0 5 := grownCap_ge w n 0 5
    generalize grownCap w n 0 5 = c at *
    generalize hZ : (Builtin.zeroCells (Value.cells (.int .u8 0)) n ++ Builtin.zeroCells (Value.cells (.int .u8 0)) (c - n)) = Z at hr
    have hZs : Z.size = c * 1 := by rw [← hZ]; simp [size_zeroCells, Value.cells]; omega
    have hown : (w.drew.alloc (.cells Z 5)).ownsRow w.heap.size 5 1 (.slice (some ⟨w.heap.size, 0, none⟩) 0 c) 0 (bs []) :=
      ⟨rfl, .inr ⟨w.heap.size, c, Z, rfl, Nat.le_refl _, heap_alloc_new w.drew _, Nat.zero_le _, hcm, hZs, by simp [bs]⟩⟩
    have hb : Below w.heap.size w (w.drew.alloc (.cells Z 5)) := ((Below.refl w.heap.size w).drewN 1).alloc (Nat.le_refl _) _
    have HO := Lib.hid hown
    have HB := Lib.hid hb
    have HRR := Lib.hid hr
    have hn1 : 1 ≤ n := by omega
    clear hown hb hZ hZs hcm hi hz0 hz1 hz2 hr h0
    go_enter Try.func106, Try.ntmps106
    go_wp2_with (at_builtin; refine Lib.wpList_append_run _ rfl _ _ _ _ rfl _ _ rfl rfl _ _ HRR.out ?_)
    go_ret
    exact ⟨_, c, rfl, HO.out, HB.out⟩

/-- append of bytes, or of nothing, to an own row. -/
theorem append_optB {ops : Array Oper} {rest : List Oper} {o : Oper} {a : Act} {Q : Exit → Act → World → Prop} (w : World) (hgd : o.guard = none) (s x : Operand)
    (ho : o.op = .call { callee := .builtin .append, args := #[s, x], argTypes := #[58, 58] })
    (B : Nat) (A : Option Addr) (n cap : Nat) (r t : List UInt8) (hs : a.eval s = .slice A n cap) (hown : w.ownsRow B 5 1 (.slice A n cap) n (bs r))
    (X : Option Addr) (m c : Nat) (hx : a.eval x = .slice X m c) (hm : m = t.length) (hr : RowAt w X t) (hX : X = none → t = [] ∧ c = 0) (hn : n + m ≤ 1000000000) (hB : B ≤ w.heap.size)
    (h : ∀ A' cap' w', w'.ownsRow B 5 1 (.slice A' (n + m) cap') (n + m) (bs (r ++ t)) → Below B w w' → wpList Try.prog ops Q rest (a.put o.dst (.slice A' (n + m) cap')) w') :
    wpList Try.prog ops Q (o :: rest) a w := by
  obtain ⟨i0, hi, hz0, hz1, hz2⟩ := info_parts Try.info5
  cases X with
  | none =>
    obtain ⟨rfl, rfl⟩ := hX rfl
    obtain rfl : m = 0 := hm
    refine wpList_append_own_none hgd s x 58 ho B 5 i0 1 Try.underlying58 hi _ n (bs r) hs hown hx ?_
    have := h A cap w (by simpa using hown) (Below.refl _ _)
    simpa using this
  | some ad =>
    subst hm
    refine append_gen w hgd s x 58 ho 5 i0 (.int .u8 0) 1 1 Try.underlying58 hi hz0 hz1 hz2 rfl (by decide) B A n cap (bs r) hs hown ad t.length c (bs t) hx (by rw [bs_len, Nat.mul_one]) (fun j u hj => ?_) (bs_one _) (by unfold maxLen; omega) (by omega) hB ?_
    · have hj' : j < t.length := by
        have := (List.getElem?_eq_some_iff.1 hj).1
        rwa [bs_len] at this
      obtain ⟨b, o2, hA, hc⟩ := hr j hj'
      cases hA
      rw [Addr.add_lit, hc, ← bs_get t j hj', hj]
    · intro A' cap' w' h1 h2 _
      exact h A' cap' w' (by rw [bs_append]; exact h1) (below_of_grown (Below.refl B w) h2 hB (own_ge hown))

set_option maxHeartbeats 4000000 in
set_option maxRecDepth 100000 in
theorem SConcatB_any (g : Nat) (A B : Option Addr) (a b : List UInt8) (cap capb : Nat) (w : World) (hx0 : w.cell? ⟨g, 0, none⟩ = some (.slice A a.length cap)) (hx1 : w.cell? ⟨g, 1, none⟩ = some (.slice B b.length capb)) (hr : RowAt w A a) (hr' : RowAt w B b)
    (hA : A = none → a = [] ∧ cap = 0) (hB : B = none → b = [] ∧ capb = 0) (hn : a.length + b.length ≤ 1000000000) :
    Calls Try.prog 103 #[.slice (some ⟨g, 0, none⟩) 2 2] w (CloneP w (a ++ b)) := by
  have hg := lt_of_cell hx0
  simp only at hg
  have HX0 := Lib.hid hx0
  have HX1 := Lib.hid hx1
  have HR := Lib.hid hr
  have HR' := Lib.hid hr'
  have HA := Lib.hid hA
  have HB := Lib.hid hB
  clear hr hr' hA hB
  go_enter Try.func103, Try.ntmps103
  go_wp2
  go_loop [3, 5, 11] (fun s3 _ i => ∃ k : Nat, k ≤ 2 ∧ i = .int .i64 (k : Int) ∧ s3 = .int .i64 (if k = 0 then 0 else if k = 1 then (a.length : Int) else (a.length : Int) + (b.length : Int))) (fun _ _ i => 2 - (intOf i).toNat)
  case atStart => exact ⟨0, by omega, rfl, rfl⟩
  case round =>
    obtain ⟨k, hk, rfl, rfl⟩ := hrel
    by_cases hk0 : k = 0
    · subst hk0
      rw [if_pos rfl]
      go_wp2
      go_round
      case rel => exact ⟨1, by omega, by go_num, by simp⟩
      case measure => simp [intOf]
    · by_cases hk1 : k = 1
      · subst hk1
        rw [if_neg (by omega), if_pos rfl]
        go_wp2
        go_round
        case rel => exact ⟨2, by omega, by go_num, by simp⟩
        case measure => simp [intOf]
      · obtain rfl : k = 2 := by omega
        rw [if_neg (by omega), if_neg (by omega)]
        clear hx0 hx1
        go_wp2_with fail
        have hG := GrowB_any (a.length + b.length) hn w
        rw [Int.natCast_add] at hG
        refine hG.mono ?_
        rintro e w1 ⟨A1, c1, rfl, hown1, hb1⟩
        have HO1 := Lib.hid hown1
        have HB1 := Lib.hid hb1
        clear hown1 hb1 hG hk0 hk1 hk
        go_wp2
        go_loopw [6, 8, 27] (fun o _ i wr => ∃ (k : Nat) (A' : Option Addr) (n cap' : Nat), k ≤ 2 ∧ i = .int .i64 (k : Int) ∧ o = .slice A' n cap' ∧ n = (if k = 0 then 0 else if k = 1 then a.length else a.length + b.length) ∧ wr.ownsRow w.heap.size 5 1 (.slice A' n cap') n (bs (if k = 0 then [] else if k = 1 then a else a ++ b)) ∧ Below w.heap.size w wr) (fun _ _ i _ => 2 - (intOf i).toNat)
        case atStart => exact ⟨0, A1, 0, c1, by omega, rfl, rfl, rfl, HO1.out, HB1.out⟩
        case round =>
          obtain ⟨k, A', n, cap', hk, rfl, rfl, hnn, hown, hbw⟩ := hrel
          have HBW := Lib.hid hbw
          by_cases hk0 : k = 0
          · subst hk0
            rw [if_pos rfl] at hnn hown
            subst hnn
            have HO := Lib.hid hown
            have hx0 : wr.cell? ⟨g, 0, none⟩ = some (.slice A a.length cap) := (HBW.out.cell (p := ⟨g, 0, none⟩) hg).trans HX0.out
            clear hown hbw
            go_wp2_with (at_builtin; refine append_optB wr rfl (.tmp 31) (.tmp 32) rfl w.heap.size A' 0 cap' [] a rfl HO.out A a.length cap rfl rfl (HR.out.below HBW.out) HA.out (by omega) HBW.out.size ?_; intro A9 cap9 w9 hown9 hb9; have HO9 := Lib.hid hown9; have HB9 := Lib.hid hb9; clear hown9 hb9)
            go_roundw
            case rel => exact ⟨1, A9, _, cap9, by omega, by go_num, rfl, by simp, by simpa using HO9.out, HBW.out.trans HB9.out⟩
            case measure => simp [intOf]
          · by_cases hk1 : k = 1
            · subst hk1
              rw [if_neg (by omega), if_pos rfl] at hnn hown
              subst hnn
              have HO := Lib.hid hown
              have hx1 : wr.cell? ⟨g, 1, none⟩ = some (.slice B b.length capb) := (HBW.out.cell (p := ⟨g, 1, none⟩) hg).trans HX1.out
              clear hown hbw
              go_wp2_with (at_builtin; refine append_optB wr rfl (.tmp 31) (.tmp 32) rfl w.heap.size A' a.length cap' a b rfl HO.out B b.length capb rfl rfl (HR'.out.below HBW.out) HB.out (by omega) HBW.out.size ?_; intro A9 cap9 w9 hown9 hb9; have HO9 := Lib.hid hown9; have HB9 := Lib.hid hb9; clear hown9 hb9)
              go_roundw
              case rel => exact ⟨2, A9, _, cap9, by omega, by go_num, rfl, by simp, by simpa using HO9.out, HBW.out.trans HB9.out⟩
              case measure => simp [intOf]
            · obtain rfl : k = 2 := by omega
              rw [if_neg (by omega), if_neg (by omega)] at hnn hown
              subst hnn
              have HO := Lib.hid hown
              clear hown hbw
              go_wp2
              go_ret
              exact ⟨A', cap', by rw [List.length_append]; rfl, by rw [List.length_append]; exact HO.out, HBW.out⟩

set_option maxHeartbeats 1000000 in
set_option maxRecDepth 100000 in
theorem Equal_any (A B : Option Addr) (l v : List UInt8) (ca cb : Nat) (w : World) (hA : RowAt w A l) (hB : RowAt w B v) (hl : l.length ≤ 1000000000) (hv : v.length ≤ 1000000000) :
    Calls Try.prog 100 #[.slice A l.length ca, .slice B v.length cb] w fun e w' => e = .returned (.bool (l == v)) ∧ w' = w := by
  have h1 := run_string_row w A ca l hA
  have h2 := run_string_row w B cb v hB
  go_enter Try.func100, Try.ntmps100
  go_wp2
  go_ret
  exact ⟨rfl, rfl⟩
end Go.Proofs.Ytbcckfggnlmhoaa
