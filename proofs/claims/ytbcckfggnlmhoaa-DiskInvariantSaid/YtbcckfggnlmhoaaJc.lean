/-
  Our own text, in the proof of the law DiskInvariant of package disk (cayleylaw04). Proved here: DiskInvariant returns true at every presentation, images, disk, word and moves. Conditions: the arguments lie in memory as the slices say.
-/
import Derived.Test.YtbcckfggnlmhoaaJb
import Derived.Test.YtbcckfggnlmhoaaBc
namespace Go.Proofs.Ytbcckfggnlmhoaa
open Go Go.RowKit

def imF (l : List Int) (i : Int) : Int := l.getD i.toNat 0
def inR (x : Int) : Prop := -1000000000 ≤ x ∧ x ≤ 1000000000

set_option maxHeartbeats 16000000 in
set_option maxRecDepth 100000 in
theorem diskInvariant_any (p : Pr) (R : Option Addr) (rc : Nat) (i0 i1 i2 i3 i4 i5 i6 i7 : Int) (D : Option Addr) (dc : Nat) (d : List Cel) (l : List UInt8) (M : Option Addr) (mc : Nat) (ms : List Mv) (w : World) (hr : RelsAt w R p.rels) (hm : p.rels.length ≤ maxLen) (hd : CellsAt w D d) (hdm : d.length ≤ 5000000000000) (hl : l.length ≤ maxLen) (hM : MovesAt w M ms) (hn : ms.length ≤ 5000000000000) :
    Calls Try.prog 9 #[prV p.k R p.rels.length rc, .agg #[.int .i64 i0, .int .i64 i1, .int .i64 i2, .int .i64 i3, .int .i64 i4, .int .i64 i5, .int .i64 i6, .int .i64 i7], .slice D d.length dc, .string ⟨l.toArray⟩, .slice M ms.length mc] w fun e w' => e = .returned (.bool true) ∧ Below w.heap.size w w' := by
  have HR := Lib.hid hr
  have HM := Lib.hid hm
  have HD := Lib.hid hd
  have HDM := Lib.hid hdm
  have HL := Lib.hid hl
  have HMV := Lib.hid hM
  have HN := Lib.hid hn
  have HB2 : Hid (Below w.heap.size w ((w.alloc (.cells (prC p.k R p.rels.length rc) 24)).alloc (.cells #[.int .i64 i0, .int .i64 i1, .int .i64 i2, .int .i64 i3, .int .i64 i4, .int .i64 i5, .int .i64 i6, .int .i64 i7] 46))) := Lib.hid (((Below.refl _ _).alloc (Nat.le_refl _) _).alloc (by simp) _)
  have HC2 : Hid (∀ i, ((w.alloc (.cells (prC p.k R p.rels.length rc) 24)).alloc (.cells #[.int .i64 i0, .int .i64 i1, .int .i64 i2, .int .i64 i3, .int .i64 i4, .int .i64 i5, .int .i64 i6, .int .i64 i7] 46)).cell? ⟨w.heap.size + 1, i, none⟩ = (#[.int .i64 i0, .int .i64 i1, .int .i64 i2, .int .i64 i3, .int .i64 i4, .int .i64 i5, .int .i64 i6, .int .i64 i7] : Array Value)[i]?) := Lib.hid (fun i => by
    have := alloc_cell (w.alloc (.cells (prC p.k R p.rels.length rc) 24)) #[.int .i64 i0, .int .i64 i1, .int .i64 i2, .int .i64 i3, .int .i64 i4, .int .i64 i5, .int .i64 i6, .int .i64 i7] 46 i
    rwa [World.size_alloc] at this)
  have HP2 : Hid (∀ i, ((w.alloc (.cells (prC p.k R p.rels.length rc) 24)).alloc (.cells #[.int .i64 i0, .int .i64 i1, .int .i64 i2, .int .i64 i3, .int .i64 i4, .int .i64 i5, .int .i64 i6, .int .i64 i7] 46)).cell? ⟨w.heap.size, i, none⟩ = (prC p.k R p.rels.length rc)[i]?) := Lib.hid (fun i =>
    (((Below.refl _ (w.alloc (.cells (prC p.k R p.rels.length rc) 24))).alloc (Nat.le_refl _) _).cell (p := ⟨w.heap.size, i, none⟩) (by simp)).trans (alloc_cell _ _ _ _))
  have hS := sane_any ((w.alloc (.cells (prC p.k R p.rels.length rc) 24)).alloc (.cells #[.int .i64 i0, .int .i64 i1, .int .i64 i2, .int .i64 i3, .int .i64 i4, .int .i64 i5, .int .i64 i6, .int .i64 i7] 46))
  have HSZ2 : Hid (((w.alloc (.cells (prC p.k R p.rels.length rc) 24)).alloc (.cells #[.int .i64 i0, .int .i64 i1, .int .i64 i2, .int .i64 i3, .int .i64 i4, .int .i64 i5, .int .i64 i6, .int .i64 i7] 46)).heap.size = w.heap.size + 1 + 1) := Lib.hid (by simp)
  clear hr hm hd hdm hl hM hn
  go_enter Try.func9, Try.ntmps9
  go_wp2
  generalize (w.alloc (.cells (prC p.k R p.rels.length rc) 24)).alloc (.cells #[.int .i64 i0, .int .i64 i1, .int .i64 i2, .int .i64 i3, .int .i64 i4, .int .i64 i5, .int .i64 i6, .int .i64 i7] 46) = w2 at *
  go_loop [12, 20] (fun _ i => ∃ k : Nat, k ≤ 8 ∧ i = .int .i64 (k : Int) ∧ ∀ j, j < k → inR (imF [i0, i1, i2, i3, i4, i5, i6, i7] (j : Int))) (fun _ i => 8 - (intOf i).toNat)
  case atStart => exact ⟨0, by omega, rfl, fun j hj => absurd hj (Nat.not_lt_zero j)⟩
  case round =>
    obtain ⟨k, hk, rfl, hin⟩ := hrel
    have HIN := Lib.hid hin
    clear hin
    rcases (by omega : k = 0 ∨ k = 1 ∨ k = 2 ∨ k = 3 ∨ k = 4 ∨ k = 5 ∨ k = 6 ∨ k = 7 ∨ k = 8) with rfl | rfl | rfl | rfl | rfl | rfl | rfl | rfl | rfl
    · have hidx : (Instr.index 46 (.agg #[.int .i64 i0, .int .i64 i1, .int .i64 i2, .int .i64 i3, .int .i64 i4, .int .i64 i5, .int .i64 i6, .int .i64 i7]) (.int .i64 0)).run Try.prog w2 = .ok (.int .i64 i0) w2 := by kernel_rfl
      by_cases h1 : i0 < -1000000000
      · have e1 : decide (i0 < -1000000000) = true := by simpa using h1
        clear h1
        go_wp2_with fail
        refine hS.mono ?_
        rintro e1 w3 ⟨rfl, hb3⟩
        have HB3 := Lib.hid hb3
        clear hb3 hS
        go_wp2
        go_ret
        exact ⟨rfl, HB2.out.trans (HB3.out.mono HB2.out.size)⟩
      · have e1 : decide (i0 < -1000000000) = false := by simpa using h1
        by_cases h2 : 1000000000 < i0
        · have e2 : decide (1000000000 < i0) = true := by simpa using h2
          clear h1 h2
          go_wp2_with fail
          refine hS.mono ?_
          rintro e1 w3 ⟨rfl, hb3⟩
          have HB3 := Lib.hid hb3
          clear hb3 hS
          go_wp2
          go_ret
          exact ⟨rfl, HB2.out.trans (HB3.out.mono HB2.out.size)⟩
        · have e2 : decide (1000000000 < i0) = false := by simpa using h2
          have HX : Hid (inR i0) := Lib.hid ⟨by omega, by omega⟩
          clear h1 h2
          go_wp2
          go_round
          case rel => exact ⟨1, by omega, by go_num, fun j hj => by
            by_cases hj2 : j < 0
            · exact HIN.out j hj2
            · obtain rfl : j = 0 := by omega
              exact HX.out⟩
          case measure => simp [intOf]
    · have hidx : (Instr.index 46 (.agg #[.int .i64 i0, .int .i64 i1, .int .i64 i2, .int .i64 i3, .int .i64 i4, .int .i64 i5, .int .i64 i6, .int .i64 i7]) (.int .i64 1)).run Try.prog w2 = .ok (.int .i64 i1) w2 := by kernel_rfl
      by_cases h1 : i1 < -1000000000
      · have e1 : decide (i1 < -1000000000) = true := by simpa using h1
        clear h1
        go_wp2_with fail
        refine hS.mono ?_
        rintro e1 w3 ⟨rfl, hb3⟩
        have HB3 := Lib.hid hb3
        clear hb3 hS
        go_wp2
        go_ret
        exact ⟨rfl, HB2.out.trans (HB3.out.mono HB2.out.size)⟩
      · have e1 : decide (i1 < -1000000000) = false := by simpa using h1
        by_cases h2 : 1000000000 < i1
        · have e2 : decide (1000000000 < i1) = true := by simpa using h2
          clear h1 h2
          go_wp2_with fail
          refine hS.mono ?_
          rintro e1 w3 ⟨rfl, hb3⟩
          have HB3 := Lib.hid hb3
          clear hb3 hS
          go_wp2
          go_ret
          exact ⟨rfl, HB2.out.trans (HB3.out.mono HB2.out.size)⟩
        · have e2 : decide (1000000000 < i1) = false := by simpa using h2
          have HX : Hid (inR i1) := Lib.hid ⟨by omega, by omega⟩
          clear h1 h2
          go_wp2
          go_round
          case rel => exact ⟨2, by omega, by go_num, fun j hj => by
            by_cases hj2 : j < 1
            · exact HIN.out j hj2
            · obtain rfl : j = 1 := by omega
              exact HX.out⟩
          case measure => simp [intOf]
    · have hidx : (Instr.index 46 (.agg #[.int .i64 i0, .int .i64 i1, .int .i64 i2, .int .i64 i3, .int .i64 i4, .int .i64 i5, .int .i64 i6, .int .i64 i7]) (.int .i64 2)).run Try.prog w2 = .ok (.int .i64 i2) w2 := by kernel_rfl
      by_cases h1 : i2 < -1000000000
      · have e1 : decide (i2 < -1000000000) = true := by simpa using h1
        clear h1
        go_wp2_with fail
        refine hS.mono ?_
        rintro e1 w3 ⟨rfl, hb3⟩
        have HB3 := Lib.hid hb3
        clear hb3 hS
        go_wp2
        go_ret
        exact ⟨rfl, HB2.out.trans (HB3.out.mono HB2.out.size)⟩
      · have e1 : decide (i2 < -1000000000) = false := by simpa using h1
        by_cases h2 : 1000000000 < i2
        · have e2 : decide (1000000000 < i2) = true := by simpa using h2
          clear h1 h2
          go_wp2_with fail
          refine hS.mono ?_
          rintro e1 w3 ⟨rfl, hb3⟩
          have HB3 := Lib.hid hb3
          clear hb3 hS
          go_wp2
          go_ret
          exact ⟨rfl, HB2.out.trans (HB3.out.mono HB2.out.size)⟩
        · have e2 : decide (1000000000 < i2) = false := by simpa using h2
          have HX : Hid (inR i2) := Lib.hid ⟨by omega, by omega⟩
          clear h1 h2
          go_wp2
          go_round
          case rel => exact ⟨3, by omega, by go_num, fun j hj => by
            by_cases hj2 : j < 2
            · exact HIN.out j hj2
            · obtain rfl : j = 2 := by omega
              exact HX.out⟩
          case measure => simp [intOf]
    · have hidx : (Instr.index 46 (.agg #[.int .i64 i0, .int .i64 i1, .int .i64 i2, .int .i64 i3, .int .i64 i4, .int .i64 i5, .int .i64 i6, .int .i64 i7]) (.int .i64 3)).run Try.prog w2 = .ok (.int .i64 i3) w2 := by kernel_rfl
      by_cases h1 : i3 < -1000000000
      · have e1 : decide (i3 < -1000000000) = true := by simpa using h1
        clear h1
        go_wp2_with fail
        refine hS.mono ?_
        rintro e1 w3 ⟨rfl, hb3⟩
        have HB3 := Lib.hid hb3
        clear hb3 hS
        go_wp2
        go_ret
        exact ⟨rfl, HB2.out.trans (HB3.out.mono HB2.out.size)⟩
      · have e1 : decide (i3 < -1000000000) = false := by simpa using h1
        by_cases h2 : 1000000000 < i3
        · have e2 : decide (1000000000 < i3) = true := by simpa using h2
          clear h1 h2
          go_wp2_with fail
          refine hS.mono ?_
          rintro e1 w3 ⟨rfl, hb3⟩
          have HB3 := Lib.hid hb3
          clear hb3 hS
          go_wp2
          go_ret
          exact ⟨rfl, HB2.out.trans (HB3.out.mono HB2.out.size)⟩
        · have e2 : decide (1000000000 < i3) = false := by simpa using h2
          have HX : Hid (inR i3) := Lib.hid ⟨by omega, by omega⟩
          clear h1 h2
          go_wp2
          go_round
          case rel => exact ⟨4, by omega, by go_num, fun j hj => by
            by_cases hj2 : j < 3
            · exact HIN.out j hj2
            · obtain rfl : j = 3 := by omega
              exact HX.out⟩
          case measure => simp [intOf]
    · have hidx : (Instr.index 46 (.agg #[.int .i64 i0, .int .i64 i1, .int .i64 i2, .int .i64 i3, .int .i64 i4, .int .i64 i5, .int .i64 i6, .int .i64 i7]) (.int .i64 4)).run Try.prog w2 = .ok (.int .i64 i4) w2 := by kernel_rfl
      by_cases h1 : i4 < -1000000000
      · have e1 : decide (i4 < -1000000000) = true := by simpa using h1
        clear h1
        go_wp2_with fail
        refine hS.mono ?_
        rintro e1 w3 ⟨rfl, hb3⟩
        have HB3 := Lib.hid hb3
        clear hb3 hS
        go_wp2
        go_ret
        exact ⟨rfl, HB2.out.trans (HB3.out.mono HB2.out.size)⟩
      · have e1 : decide (i4 < -1000000000) = false := by simpa using h1
        by_cases h2 : 1000000000 < i4
        · have e2 : decide (1000000000 < i4) = true := by simpa using h2
          clear h1 h2
          go_wp2_with fail
          refine hS.mono ?_
          rintro e1 w3 ⟨rfl, hb3⟩
          have HB3 := Lib.hid hb3
          clear hb3 hS
          go_wp2
          go_ret
          exact ⟨rfl, HB2.out.trans (HB3.out.mono HB2.out.size)⟩
        · have e2 : decide (1000000000 < i4) = false := by simpa using h2
          have HX : Hid (inR i4) := Lib.hid ⟨by omega, by omega⟩
          clear h1 h2
          go_wp2
          go_round
          case rel => exact ⟨5, by omega, by go_num, fun j hj => by
            by_cases hj2 : j < 4
            · exact HIN.out j hj2
            · obtain rfl : j = 4 := by omega
              exact HX.out⟩
          case measure => simp [intOf]
    · have hidx : (Instr.index 46 (.agg #[.int .i64 i0, .int .i64 i1, .int .i64 i2, .int .i64 i3, .int .i64 i4, .int .i64 i5, .int .i64 i6, .int .i64 i7]) (.int .i64 5)).run Try.prog w2 = .ok (.int .i64 i5) w2 := by kernel_rfl
      by_cases h1 : i5 < -1000000000
      · have e1 : decide (i5 < -1000000000) = true := by simpa using h1
        clear h1
        go_wp2_with fail
        refine hS.mono ?_
        rintro e1 w3 ⟨rfl, hb3⟩
        have HB3 := Lib.hid hb3
        clear hb3 hS
        go_wp2
        go_ret
        exact ⟨rfl, HB2.out.trans (HB3.out.mono HB2.out.size)⟩
      · have e1 : decide (i5 < -1000000000) = false := by simpa using h1
        by_cases h2 : 1000000000 < i5
        · have e2 : decide (1000000000 < i5) = true := by simpa using h2
          clear h1 h2
          go_wp2_with fail
          refine hS.mono ?_
          rintro e1 w3 ⟨rfl, hb3⟩
          have HB3 := Lib.hid hb3
          clear hb3 hS
          go_wp2
          go_ret
          exact ⟨rfl, HB2.out.trans (HB3.out.mono HB2.out.size)⟩
        · have e2 : decide (1000000000 < i5) = false := by simpa using h2
          have HX : Hid (inR i5) := Lib.hid ⟨by omega, by omega⟩
          clear h1 h2
          go_wp2
          go_round
          case rel => exact ⟨6, by omega, by go_num, fun j hj => by
            by_cases hj2 : j < 5
            · exact HIN.out j hj2
            · obtain rfl : j = 5 := by omega
              exact HX.out⟩
          case measure => simp [intOf]
    · have hidx : (Instr.index 46 (.agg #[.int .i64 i0, .int .i64 i1, .int .i64 i2, .int .i64 i3, .int .i64 i4, .int .i64 i5, .int .i64 i6, .int .i64 i7]) (.int .i64 6)).run Try.prog w2 = .ok (.int .i64 i6) w2 := by kernel_rfl
      by_cases h1 : i6 < -1000000000
      · have e1 : decide (i6 < -1000000000) = true := by simpa using h1
        clear h1
        go_wp2_with fail
        refine hS.mono ?_
        rintro e1 w3 ⟨rfl, hb3⟩
        have HB3 := Lib.hid hb3
        clear hb3 hS
        go_wp2
        go_ret
        exact ⟨rfl, HB2.out.trans (HB3.out.mono HB2.out.size)⟩
      · have e1 : decide (i6 < -1000000000) = false := by simpa using h1
        by_cases h2 : 1000000000 < i6
        · have e2 : decide (1000000000 < i6) = true := by simpa using h2
          clear h1 h2
          go_wp2_with fail
          refine hS.mono ?_
          rintro e1 w3 ⟨rfl, hb3⟩
          have HB3 := Lib.hid hb3
          clear hb3 hS
          go_wp2
          go_ret
          exact ⟨rfl, HB2.out.trans (HB3.out.mono HB2.out.size)⟩
        · have e2 : decide (1000000000 < i6) = false := by simpa using h2
          have HX : Hid (inR i6) := Lib.hid ⟨by omega, by omega⟩
          clear h1 h2
          go_wp2
          go_round
          case rel => exact ⟨7, by omega, by go_num, fun j hj => by
            by_cases hj2 : j < 6
            · exact HIN.out j hj2
            · obtain rfl : j = 6 := by omega
              exact HX.out⟩
          case measure => simp [intOf]
    · have hidx : (Instr.index 46 (.agg #[.int .i64 i0, .int .i64 i1, .int .i64 i2, .int .i64 i3, .int .i64 i4, .int .i64 i5, .int .i64 i6, .int .i64 i7]) (.int .i64 7)).run Try.prog w2 = .ok (.int .i64 i7) w2 := by kernel_rfl
      by_cases h1 : i7 < -1000000000
      · have e1 : decide (i7 < -1000000000) = true := by simpa using h1
        clear h1
        go_wp2_with fail
        refine hS.mono ?_
        rintro e1 w3 ⟨rfl, hb3⟩
        have HB3 := Lib.hid hb3
        clear hb3 hS
        go_wp2
        go_ret
        exact ⟨rfl, HB2.out.trans (HB3.out.mono HB2.out.size)⟩
      · have e1 : decide (i7 < -1000000000) = false := by simpa using h1
        by_cases h2 : 1000000000 < i7
        · have e2 : decide (1000000000 < i7) = true := by simpa using h2
          clear h1 h2
          go_wp2_with fail
          refine hS.mono ?_
          rintro e1 w3 ⟨rfl, hb3⟩
          have HB3 := Lib.hid hb3
          clear hb3 hS
          go_wp2
          go_ret
          exact ⟨rfl, HB2.out.trans (HB3.out.mono HB2.out.size)⟩
        · have e2 : decide (1000000000 < i7) = false := by simpa using h2
          have HX : Hid (inR i7) := Lib.hid ⟨by omega, by omega⟩
          clear h1 h2
          go_wp2
          go_round
          case rel => exact ⟨8, by omega, by go_num, fun j hj => by
            by_cases hj2 : j < 7
            · exact HIN.out j hj2
            · obtain rfl : j = 7 := by omega
              exact HX.out⟩
          case measure => simp [intOf]
    · clear hS
      have HF0 : ∀ i, -1000000000 ≤ imF [i0, i1, i2, i3, i4, i5, i6, i7] i ∧ imF [i0, i1, i2, i3, i4, i5, i6, i7] i ≤ 1000000000 := fun i => by
        by_cases hi : i.toNat < 8
        · have := HIN.out i.toNat hi
          unfold inR imF at this
          simp only [Int.toNat_natCast] at this
          exact this
        · unfold imF
          rw [List.getD, List.getElem?_eq_none (by simp; omega)]
          simp
      have HIM0 : ∀ X, Below w2.heap.size w2 X → ∀ i, i < 8 → X.cell? ⟨w.heap.size + 1, 0 + i, none⟩ = some (.int .i64 (imF [i0, i1, i2, i3, i4, i5, i6, i7] (i : Int))) := fun X hX i hi => by
        rw [Nat.zero_add]
        refine (hX.cell (p := ⟨w.heap.size + 1, i, none⟩) (by rw [HSZ2.out]; exact Nat.lt_succ_self _)).trans ((HC2.out i).trans ?_)
        rcases (by omega : i = 0 ∨ i = 1 ∨ i = 2 ∨ i = 3 ∨ i = 4 ∨ i = 5 ∨ i = 6 ∨ i = 7) with rfl | rfl | rfl | rfl | rfl | rfl | rfl | rfl <;> rfl
      have HF := Lib.hid HF0
      have HIM := Lib.hid HIM0
      have HPB : Hid (∀ X, Below w2.heap.size w2 X → X.cell? ⟨w.heap.size, 0, none⟩ = some (.int .i64 p.k) ∧ X.cell? ⟨w.heap.size, 1, none⟩ = some (.slice R p.rels.length rc)) := Lib.hid (fun X hX =>
        ⟨(hX.cell (p := ⟨w.heap.size, 0, none⟩) (by rw [HSZ2.out]; simp only; omega)).trans (HP2.out 0), (hX.cell (p := ⟨w.heap.size, 1, none⟩) (by rw [HSZ2.out]; simp only; omega)).trans (HP2.out 1)⟩)
      have HOLD : Hid (∀ X, Below w2.heap.size w2 X → Below w.heap.size w X) := Lib.hid (fun X hX => HB2.out.trans (hX.mono HB2.out.size))
      generalize imF [i0, i1, i2, i3, i4, i5, i6, i7] = f at *
      clear HF0 HIM0 HIN
      obtain ⟨b0, b1⟩ := HPB.out w2 (Below.refl _ _)
      have hIP := IsPres_any p R rc w2 (HR.out.below HB2.out) HM.out
      go_wp2_with fail
      refine hIP.mono ?_
      rintro e3 w3 ⟨rfl, hb3⟩
      have HB3 := Lib.hid hb3
      clear hb3 hIP b0 b1
      cases hpb : presB p with
      | false =>
        have hS := sane_any w3
        go_wp2_with fail
        refine hS.mono ?_
        rintro e4 w4 ⟨rfl, hb4⟩
        have HB4 := Lib.hid (HB3.out.trans (hb4.mono HB3.out.size))
        clear hb4 hS
        go_wp2
        go_ret
        exact ⟨rfl, HOLD.out _ HB4.out⟩
      | true =>
        have HPB2 := Lib.hid hpb
        obtain ⟨b0, b1⟩ := HPB.out w3 HB3.out
        have h60 := (presB_k hpb).2.2
        go_wp2
        go_loop [14, 38] (fun _ i => ∃ k : Nat, k ≤ p.rels.length ∧ i = .int .i64 (k : Int) ∧ ∀ j (h : j < p.rels.length), j < k → sumW f (p.rels[j]) = 0) (fun _ i => p.rels.length - (intOf i).toNat)
        case atStart => exact ⟨0, by omega, rfl, fun j _ hj => absurd hj (Nat.not_lt_zero j)⟩
        case round =>
          obtain ⟨k, hk, rfl, hz0⟩ := hrel
          have HZ0 := Lib.hid hz0
          clear hz0
          by_cases hlt : k < p.rels.length
          · have hrb := presB_rel HPB2.out k hlt
            have he : p.rels.getD k [] = p.rels[k] := by simp [List.getD, hlt]
            rw [he] at hrb
            have hrw := (relB_facts hrb).2.2.1
            have hra := all_mono (presB_k HPB2.out).2.1 (isWd_all hrw)
            have hrl := isWd_len hrw
            obtain ⟨b, o, hRA, hc, _⟩ := (HR.out.below (HOLD.out _ HB3.out)) k hlt
            subst hRA
            have hSM := Sum_any f HF.out (w.heap.size + 1) 0 p.rels[k] hra (by omega) w3 (HIM.out w3 HB3.out)
            have HZN : Hid (sumW f p.rels[k] = 0 → ∀ j (h : j < p.rels.length), j < k + 1 → sumW f (p.rels[j]) = 0) := Lib.hid (fun hz j h hj => by
              by_cases hj2 : j < k
              · exact HZ0.out j h hj2
              · obtain rfl : j = k := by omega
                exact hz)
            clear hrb he hrw hra hrl
            generalize p.rels[k] = rr at *
            have hd1 : decide ((k : Int) < (p.rels.length : Int)) = true := by simp; omega
            have hd2 : decide (k < p.rels.length) = true := by simpa using hlt
            by_cases hz : sumW f rr = 0
            · have HZ1 := Lib.hid (HZN.out hz)
              rw [hz] at hSM
              clear hz
              go_wp2_with fail
              refine hSM.mono ?_
              rintro e4 w4 ⟨rfl, rfl⟩
              go_wp2
              go_round
              case rel => exact ⟨k + 1, by omega, by go_num, HZ1.out⟩
              case measure => simp [intOf]; omega
            · have hz2 : (sumW f rr != 0) = true := by simpa using hz
              have hS := sane_any w3
              clear hz
              generalize sumW f rr = zz at *
              go_wp2_with fail
              refine hSM.mono ?_
              rintro e4 w4 ⟨rfl, rfl⟩
              go_wp2_with fail
              refine hS.mono ?_
              rintro e5 w5 ⟨rfl, hb5⟩
              have HB5 := Lib.hid (HB3.out.trans (hb5.mono HB3.out.size))
              clear hb5 hS
              go_wp2
              go_ret
              exact ⟨rfl, HOLD.out _ HB5.out⟩
          · obtain rfl : k = p.rels.length := by omega
            have H0 : Hid (∀ r ∈ p.rels, sumW f r = 0) := Lib.hid (fun r hr => by
              obtain ⟨j, hj, rfl⟩ := List.getElem_of_mem hr
              exact HZ0.out j hj hj)
            have hAP := Apply_any p R rc l M mc ms w3 (HR.out.below (HOLD.out _ HB3.out)) HM.out HL.out (HMV.out.below (HOLD.out _ HB3.out)) HN.out
            have HKP : Hid (apE p l ms = 0 → isWd p.k l = true ∧ sumW f (apV p l ms) = sumW f l ∧ (apV p l ms).all (letB 8) = true) := Lib.hid (fun h => apV_keep f HPB2.out H0.out h)
            have HVL : Hid ((apV p l ms).length ≤ 100000) := Lib.hid apV_len
            generalize apV p l ms = v at *
            generalize apE p l ms = ee at *
            go_wp2_with fail
            refine hAP.mono ?_
            rintro e4 w4 ⟨rfl, hb4⟩
            have HB4 := Lib.hid (HB3.out.trans (hb4.mono HB3.out.size))
            clear hb4 hAP b0 b1
            by_cases hee : ee = 0
            · subst hee
              obtain ⟨hwl, hsv, hva⟩ := HKP.out rfl
              have hla := all_mono (presB_k HPB2.out).2.1 (isWd_all hwl)
              have hll := isWd_len hwl
              have HSV : Hid (∀ m, Calls Try.prog 35 #[.string ⟨v.toArray⟩, .slice (some ⟨w.heap.size + 1, 0, none⟩) 8 8] (w4.drewN m) fun e w'' => e = .returned (.int .i64 (sumW f l)) ∧ ∃ j, w'' = w4.drewN j) := Lib.hid fun m => Calls.quiet_of_same ((by rw [← hsv]; exact Sum_any f HF.out (w.heap.size + 1) 0 v hva (by have := HVL.out; omega) (w4.drewN m) (HIM.out _ (HB4.out.drewN m)) : Calls Try.prog 35 #[.string ⟨v.toArray⟩, .slice (some ⟨w.heap.size + 1, 0, none⟩) 8 8] (w4.drewN m) fun e w'' => e = .returned (.int .i64 (sumW f l)) ∧ w4.drewN m = w'').mono fun _ _ h => ⟨h.1, h.2.symm⟩)
              have HSW : Hid (∀ m, Calls Try.prog 35 #[.string ⟨l.toArray⟩, .slice (some ⟨w.heap.size + 1, 0, none⟩) 8 8] (w4.drewN m) fun e w'' => e = .returned (.int .i64 (sumW f l)) ∧ ∃ j, w'' = w4.drewN j) := Lib.hid fun m => Calls.quiet_of_same ((Sum_any f HF.out (w.heap.size + 1) 0 l hla (by omega) (w4.drewN m) (HIM.out _ (HB4.out.drewN m))).mono fun _ _ h => ⟨h.1, h.2.symm⟩)
              clear hwl hsv hva hla hll
              generalize sumW f l = sl at *
              go_wp2_with fail
              go_quiet ((first | (go_at_call 35; with_reducible exact HSV.out _) | (go_at_call 35; with_reducible exact HSW.out _)))
              have HBX := Lib.hid (HB4.out.drewN nq)
              obtain ⟨b0, b1⟩ := HPB.out _ (HB4.out.drewN nq)
              have hBD := Boundary_any p R rc D dc d (w4.drewN nq) (HR.out.below (HOLD.out _ HBX.out)) HM.out (HD.out.below (HOLD.out _ HBX.out)) HDM.out
              go_wp2_with fail
              refine hBD.mono ?_
              rintro e8 w5 ⟨rfl, hb5⟩
              have HB5 := Lib.hid (HBX.out.trans (hb5.mono HBX.out.size))
              have hS := sane_any w5
              clear hb5 hBD b0 b1
              by_cases hch : chk p [] [d] = 0
              · have hz := bdS_zero f H0.out hch
                have hall := bdS_all hch
                rw [hch]
                go_wp2_with fail
                refine hS.mono ?_
                rintro e9 w6 ⟨rfl, hb6⟩
                have HB6 := Lib.hid (HB5.out.trans (hb6.mono HB5.out.size))
                have hSM := Sum_any f HF.out (w.heap.size + 1) 0 (bdS p d) hall.1 hall.2 w6 (HIM.out w6 HB6.out)
                rw [hz] at hSM
                clear hb6 hS
                generalize bdS p d = bw9 at *
                go_wp2_with fail
                refine hSM.mono ?_
                rintro e10 w7 ⟨rfl, rfl⟩
                go_wp2
                go_ret
                exact ⟨rfl, HB2.out.trans (HB6.out.mono HB2.out.size)⟩
              · have hne : (chk p [] [d] != 0) = true := by simpa using hch
                clear hch
                generalize chk p [] [d] = q9 at *
                generalize bdS p d = bw9 at *
                go_wp2_with fail
                refine hS.mono ?_
                rintro e9 w6 ⟨rfl, hb6⟩
                have HB6 := Lib.hid (HB5.out.trans (hb6.mono HB5.out.size))
                clear hb6 hS
                go_wp2
                go_ret
                exact ⟨rfl, HB2.out.trans (HB6.out.mono HB2.out.size)⟩
            · have hef : (ee == 0) = false := by simpa using hee
              have hef2 : decide (ee = 0) = false := by simpa using hee
              clear hee
              go_wp2_with fail
              go_quiet (fail)
              have HBX := Lib.hid (HB4.out.drewN nq)
              obtain ⟨b0, b1⟩ := HPB.out _ (HB4.out.drewN nq)
              have hBD := Boundary_any p R rc D dc d (w4.drewN nq) (HR.out.below (HOLD.out _ HBX.out)) HM.out (HD.out.below (HOLD.out _ HBX.out)) HDM.out
              go_wp2_with fail
              refine hBD.mono ?_
              rintro e8 w5 ⟨rfl, hb5⟩
              have HB5 := Lib.hid (HBX.out.trans (hb5.mono HBX.out.size))
              have hS := sane_any w5
              clear hb5 hBD b0 b1
              by_cases hch : chk p [] [d] = 0
              · have hz := bdS_zero f H0.out hch
                have hall := bdS_all hch
                rw [hch]
                go_wp2_with fail
                refine hS.mono ?_
                rintro e9 w6 ⟨rfl, hb6⟩
                have HB6 := Lib.hid (HB5.out.trans (hb6.mono HB5.out.size))
                have hSM := Sum_any f HF.out (w.heap.size + 1) 0 (bdS p d) hall.1 hall.2 w6 (HIM.out w6 HB6.out)
                rw [hz] at hSM
                clear hb6 hS
                generalize bdS p d = bw9 at *
                go_wp2_with fail
                refine hSM.mono ?_
                rintro e10 w7 ⟨rfl, rfl⟩
                go_wp2
                go_ret
                exact ⟨rfl, HB2.out.trans (HB6.out.mono HB2.out.size)⟩
              · have hne : (chk p [] [d] != 0) = true := by simpa using hch
                clear hch
                generalize chk p [] [d] = q9 at *
                generalize bdS p d = bw9 at *
                go_wp2_with fail
                refine hS.mono ?_
                rintro e9 w6 ⟨rfl, hb6⟩
                have HB6 := Lib.hid (HB5.out.trans (hb6.mono HB5.out.size))
                clear hb6 hS
                go_wp2
                go_ret
                exact ⟨rfl, HB2.out.trans (HB6.out.mono HB2.out.size)⟩
end Go.Proofs.Ytbcckfggnlmhoaa
