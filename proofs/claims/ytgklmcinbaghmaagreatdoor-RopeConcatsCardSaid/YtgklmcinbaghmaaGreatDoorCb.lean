/-
  Our own text, in the proofs of the laws of package rope. Proved here: Concat of two ropes that are not empty and not too long. Conditions: the nodes lie in memory as the slices say; the listed table lies as the program lays it.
-/
import Derived.Test.YtgklmcinbaghmaaGreatDoorCa
import Derived.RegionTactic
import Derived.BigRegion
import Derived.ChangeAlike
namespace Go.Proofs.YtgklmcinbaghmaaGreatDoor
open Go Go.RowKit

/-- The nodes of a concatenation. -/
def catR (a b : List Nd) : List Nd := a ++ b.map (movN a.length) ++ [⟨⟨#[]⟩, (a.length : Int) - 1, (a.length : Int) + (b.length : Int) - 1, 0⟩]

theorem moved_small {r : List Nd} {L : List Nat} (h : lens r = some L) (k : Nat) (hk : k < r.length) : r[k].word.data.toList = [] → (0 ≤ r[k].l ∧ r[k].l ≤ 4000) ∧ (0 ≤ r[k].r ∧ r[k].r ≤ 4000) := by
  intro hw0
  obtain ⟨k1, k2, k3⟩ := lens_ok h
  rcases node_is h k hk with ⟨hw, _⟩ | ⟨hw, b, c, hb, hc, h1, h2, h3, hd, hn⟩ | ⟨hw, b, n, hb, hn0, h1, h2, h3, hd, hn⟩
  · exact absurd hw0 hw
  · exact ⟨⟨by omega, by omega⟩, by omega, by omega⟩
  · exact ⟨⟨by omega, by omega⟩, by omega, by omega⟩

set_option maxHeartbeats 4000000 in
set_option maxRecDepth 100000 in
theorem Concat_main (A B : Option Addr) (a b : List Nd) (cap capb : Nat) (L M : List Nat) (hl : lens a = some L) (hl' : lens b = some M) (w : World) (ht : Tabs w) (hr : RopeAt w A a) (hr' : RopeAt w B b) (hA : A = none → a = [])
    (ha : 0 < a.length) (hb : 0 < b.length) (h4 : a.length + b.length + 1 ≤ 4000) (hs : (lastN L : Int) + (lastN M : Int) ≤ 1152921504606846976) :
    Calls Tryz.prog 22 #[.slice A a.length cap, .slice B b.length capb] w (RopeP w (catR a b) 0) := by
  obtain ⟨k1, k2, k3⟩ := lens_ok hl
  obtain ⟨k1', k2', k3'⟩ := lens_ok hl'
  have hM := measure_any A a cap w ht hr (by unfold maxLen; omega)
  have HSM := Lib.hid (moved_small hl')
  have HT := Lib.hid ht
  have HR := Lib.hid hr
  have HR' := Lib.hid hr'
  have HL := Lib.hid hl
  have HL' := Lib.hid hl'
  have HK := Lib.hid k1
  have HK' := Lib.hid k1'
  have HA := Lib.hid hA
  clear hl hl' ht hr hr' hA k1 k1' k2 k2'
  go_enter Tryz.func22, Tryz.ntmps22
  go_wp2_with fail
  refine hM.mono ?_
  rintro e w1 ⟨hyes, _⟩
  obtain ⟨B1, hB1, rfl, henv, hb1⟩ := hyes L HL.out
  have HENV := Lib.hid henv
  have HB1 := Lib.hid hb1
  clear hyes henv hb1 hM
  go_wp2_with fail
  refine (measure_any B b capb w1 (HT.out.on HB1.out) (HR'.out.on HB1.out) (by unfold maxLen; omega)).mono ?_
  rintro e w2 ⟨hyes, _⟩
  obtain ⟨B2, hB2, rfl, henv', hb2⟩ := hyes M HL'.out
  have henv1 := HENV.out.on hb2
  have hv := value_last w2 B1 _ L (by rw [HK.out]; exact k3) henv1 ((a.length : Int) - 1) (by rw [HK.out])
  have hv' := value_last w2 B2 _ M (by rw [HK'.out]; exact k3') henv' ((b.length : Int) - 1) (by rw [HK'.out])
  have HV := Lib.hid hv
  have HV' := Lib.hid hv'
  have HB12 := Lib.hid (HB1.out.trans (hb2.mono HB1.out.size))
  clear hyes henv' hb2 henv1 hv hv'
  generalize lastN L = m at *
  generalize lastN M = m' at *
  have hd4 : decide ((4000 : Int) < (a.length : Int) + (b.length : Int) + 1) = false := by simp; omega
  have hd5 : decide ((1152921504606846976 : Int) < (m : Int) + (m' : Int)) = false := by simp; omega
  have hd6 : ((a.length : Int) == 0) = false := by rw [beq_eq_false_iff_ne]; omega
  have hd7 : ((b.length : Int) == 0) = false := by rw [beq_eq_false_iff_ne]; omega
  go_wp2_with fail
  refine HV.out.mono ?_; rintro e w' ⟨rfl, rfl⟩
  go_wp2_with fail
  refine HV'.out.mono ?_; rintro e w' ⟨rfl, rfl⟩
  go_wp2_with fail
  refine (Clone_any A a cap w2 (HR.out.on HB12.out) HA.out k3).mono ?_
  rintro e w3 ⟨A3, cap3, rfl, hown3, hb3⟩
  have HO3 := Lib.hid (own_lower hown3 HB12.out.size)
  have HB3 := Lib.hid (HB12.out.trans (hb3.mono HB12.out.size))
  clear hown3 hb3 HV HV' hd4 hd5 hd6 hd7
  go_wp2
  go_loopw [9, 11, 65] (fun o _ i wr => ∃ (k : Nat) (A' : Option Addr) (cap' : Nat), k ≤ b.length ∧ i = .int .i64 (k : Int) ∧ o = .slice A' (a.length + k) cap' ∧ wr.ownsRow w.heap.size 68 4 (.slice A' (a.length + k) cap') (a.length + k) (nodesC (a ++ (b.take k).map (movN a.length))) ∧ Below w.heap.size w wr)
    (fun _ _ i _ => b.length - (intOf i).toNat)
  case atStart => exact ⟨0, A3, cap3, Nat.zero_le _, rfl, rfl, by simpa using HO3.out, HB3.out⟩
  case round =>
    obtain ⟨k, A', cap', hk, rfl, rfl, hown, hbw⟩ := hrel
    have HB := Lib.hid hbw
    have HO := Lib.hid hown
    clear hbw hown
    by_cases hlt : k < b.length
    · obtain ⟨ad, rfl, hx, hxs⟩ := (HR'.out.on HB.out) k hlt
      have hsm := HSM.out k hlt
      have HTK : Hid (b.take (k + 1) = b.take k ++ [b[k]]) := Lib.hid (List.take_succ_eq_append_getElem hlt)
      obtain ⟨f0, f1, f2, f3⟩ := hx
      generalize hxe : b[k] = x at *
      obtain ⟨s, l, q, t⟩ := x
      simp only at f0 f1 f2 f3 hxs hsm
      clear hxe
      have hB1 : Below wr.heap.size wr (wr.alloc (.cells #[.string s, .int .i64 l, .int .i64 q, .int .i64 t] 68)) := (Below.refl _ _).alloc (Nat.le_refl _) _
      have hblk : Blk (wr.alloc (.cells #[.string s, .int .i64 l, .int .i64 q, .int .i64 t] 68)) wr.heap.size 68 #[.string s, .int .i64 l, .int .i64 q, .int .i64 t] := heap_alloc_new wr _
      have g0 : (wr.alloc (.cells #[.string s, .int .i64 l, .int .i64 q, .int .i64 t] 68)).cell? ⟨wr.heap.size, 0, none⟩ = some (.string s) := hblk.cell 0
      have g1 : (wr.alloc (.cells #[.string s, .int .i64 l, .int .i64 q, .int .i64 t] 68)).cell? ⟨wr.heap.size, 1, none⟩ = some (.int .i64 l) := hblk.cell 1
      have g2 : (wr.alloc (.cells #[.string s, .int .i64 l, .int .i64 q, .int .i64 t] 68)).cell? ⟨wr.heap.size, 2, none⟩ = some (.int .i64 q) := hblk.cell 2
      have g3 : (wr.alloc (.cells #[.string s, .int .i64 l, .int .i64 q, .int .i64 t] 68)).cell? ⟨wr.heap.size, 3, none⟩ = some (.int .i64 t) := hblk.cell 3
      have hmv := moved_any ⟨s, l, q, t⟩ a.length (wr.alloc (.cells #[.string s, .int .i64 l, .int .i64 q, .int .i64 t] 68)) k3 hsm
      have HB1' := Lib.hid hB1
      clear hB1 hblk hsm
      go_wp2_with fail
      generalize hy : movN a.length ⟨s, l, q, t⟩ = y at *
      have HY := Lib.hid hy
      clear hy
      refine hmv.mono ?_; rintro e w4 ⟨rfl, hb4⟩
      have HB4 := Lib.hid (HB1'.out.trans (hb4.mono HB1'.out.size))
      have HO4 := Lib.hid (own_below HO.out HB4.out.block)
      have HBW := Lib.hid (HB.out.trans (HB4.out.mono HB.out.size))
      obtain ⟨ys, yl, yr, yt⟩ := y
      clear hmv hb4 f0 f1 f2 f3 g0 g1 g2 g3
      go_wp2_with (at_builtin; refine append_nodes (w4.alloc (.cells #[.string ys, .int .i64 yl, .int .i64 yr, .int .i64 yt] 68)) rfl (.tmp 69) (.tmp 74) rfl w.heap.size A' (a.length + k) cap' (a ++ (b.take k).map (movN a.length)) [⟨ys, yl, yr, yt⟩] rfl (own_below HO4.out ((Below.refl w4.heap.size w4).alloc (Nat.le_refl _) _).block) ⟨w4.heap.size, 0, none⟩ 1 1 rfl rfl (news_node w4 ⟨ys, yl, yr, yt⟩) (by omega) (Nat.le_trans HBW.out.size (by simp)) ?_; intro A9 cap9 w9 hown9 hb9; have HO9 := Lib.hid hown9; have HB9 := Lib.hid hb9; clear hown9 hb9)
      go_roundw
      case rel =>
        refine ⟨k + 1, A9, cap9, by omega, by go_num, rfl, ?_, (HBW.out.alloc HBW.out.size _).trans HB9.out⟩
        have := HO9.out
        rw [HTK.out, List.map_append, List.map_singleton, HY.out, ← List.append_assoc]
        exact this
      case measure => simp [intOf]; omega
    · obtain rfl : k = b.length := by omega
      have HTK : Hid (b.take b.length = b) := Lib.hid (List.take_of_length_le (Nat.le_refl _))
      have HO2 := HO.out
      rw [HTK.out] at HO2
      have HO3' := Lib.hid HO2
      clear HO2
      go_wp2_with (at_builtin; refine append_nodes (wr.alloc (.cells #[.string ⟨#[]⟩, .int .i64 ((a.length : Int) - 1), .int .i64 ((a.length : Int) + (b.length : Int) - 1), .int .i64 0] 68)) rfl (.tmp 77) (.tmp 88) rfl w.heap.size A' (a.length + b.length) cap' (a ++ b.map (movN a.length)) [⟨⟨#[]⟩, (a.length : Int) - 1, (a.length : Int) + (b.length : Int) - 1, 0⟩] rfl (own_below HO3'.out ((Below.refl wr.heap.size wr).alloc (Nat.le_refl _) _).block) ⟨wr.heap.size, 0, none⟩ 1 1 rfl rfl (news_node wr ⟨⟨#[]⟩, (a.length : Int) - 1, (a.length : Int) + (b.length : Int) - 1, 0⟩) (by omega) (Nat.le_trans HB.out.size (by simp)) ?_; intro A9 cap9 w9 hown9 hb9; have HO9 := Lib.hid hown9; have HB9 := Lib.hid hb9; clear hown9 hb9)
      go_ret2
      have hlen : (catR a b).length = a.length + b.length + 1 := by simp [catR]; omega
      exact ⟨A9, cap9, by rw [hlen]; rfl, by rw [hlen]; exact HO9.out, (HB.out.alloc HB.out.size _).trans HB9.out⟩
end Go.Proofs.YtgklmcinbaghmaaGreatDoor
