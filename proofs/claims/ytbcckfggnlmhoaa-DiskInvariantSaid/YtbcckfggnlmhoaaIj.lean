/-
  Our own text, in the proofs of the laws of package disk (cayleylaw04). Proved here: the walk's methods deletePair; the walk's method insertPair; the walk's method do. Conditions: the arguments lie in memory as the slices say; bounds; where a presentation is named valid, it is.
-/
import Derived.Test.YtbcckfggnlmhoaaIe
namespace Go.Proofs.Ytbcckfggnlmhoaa
open Go Go.RowKit

def insPair (p : Pr) (l : List UInt8) (m : Mv) : Option (List UInt8) := if 0 ≤ m.letter ∧ m.letter < 2 * p.k then insAt l m.pos [ltr m.letter.toNat, invc (ltr m.letter.toNat)] else none
def delPair (l : List UInt8) (i : Int) : Option (List UInt8) := if 0 ≤ i ∧ i ≤ (l.length : Int) - 2 ∧ l.getD (i.toNat + 1) 0 = invc (l.getD i.toNat 0) then some (l.take i.toNat ++ l.drop (i.toNat + 2)) else none

set_option maxHeartbeats 4000000 in
set_option maxRecDepth 100000 in
theorem deletePair_any {F : Gh} (w : World) (p : Pr) (R : Option Addr) (rc kb mb g cap : Nat) (l : List UInt8) (W : World) (h : WkAt F w p R rc kb mb g cap l W) (hl : l.length ≤ 100000) (m : Mv) :
    Calls Try.prog 85 #[.pointer (some ⟨kb, 0, none⟩), mvV m] W (StepP F w p R rc kb mb (delPair l m.pos)) := by
  obtain ⟨mk, mp, ml, mr, ms, mi⟩ := m
  have HBX := Lib.hid (Boxd.start W #[.int .i64 mk, .int .i64 mp, .int .i64 ml, .int .i64 mr, .int .i64 ms, .bool mi] 52)
  have HK := Lib.hid (h.below (Boxd.start W #[.int .i64 mk, .int .i64 mp, .int .i64 ml, .int .i64 mr, .int .i64 ms, .bool mi] 52).old)
  clear h
  show Calls Try.prog 85 #[.pointer (some ⟨kb, 0, none⟩), .agg #[.int .i64 mk, .int .i64 mp, .int .i64 ml, .int .i64 mr, .int .i64 ms, .bool mi]] W (StepP F w p R rc kb mb (delPair l mp))
  have hb1 : (W.alloc (.cells #[.int .i64 mk, .int .i64 mp, .int .i64 ml, .int .i64 mr, .int .i64 ms, .bool mi] 52)).cell? ⟨W.heap.size, 1, none⟩ = some (.int .i64 mp) := HBX.out.cell 1
  have hP := part_any w p R rc kb mb g cap l _ HK.out mp 2 (by decide) hl (by decide)
  have HDT : Hid (0 ≤ mp ∧ mp ≤ (l.length : Int) - 2 ∧ l.getD (mp.toNat + 1) 0 = invc (l.getD mp.toNat 0) → delPair l mp = some (l.take mp.toNat ++ l.drop (mp.toNat + 2))) := Lib.hid (fun h => if_pos h)
  have HDF : Hid (¬ (0 ≤ mp ∧ mp ≤ (l.length : Int) - 2 ∧ l.getD (mp.toNat + 1) 0 = invc (l.getD mp.toNat 0)) → delPair l mp = none) := Lib.hid (fun h => if_neg h)
  generalize delPair l mp = r at *
  by_cases hpos : 0 ≤ mp ∧ mp ≤ (l.length : Int) - 2
  case neg =>
    have HN := Lib.hid (HDF.out (fun h => hpos ⟨h.1, h.2.1⟩))
    have hP2 : Calls Try.prog 97 #[.pointer (some ⟨kb, 0, none⟩), .int .i64 mp, .int .i64 2] (W.alloc (.cells #[.int .i64 mk, .int .i64 mp, .int .i64 ml, .int .i64 mr, .int .i64 ms, .bool mi] 52)) fun e w' => e = .panicked pan ∧ W.alloc (.cells #[.int .i64 mk, .int .i64 mp, .int .i64 ml, .int .i64 mr, .int .i64 ms, .bool mi] 52) = w' := hP.mono (by
      rintro e2 w2 ⟨hw, hh⟩
      rcases hh with ⟨h0, h1, _⟩ | ⟨_, he⟩
      · exact absurd ⟨h0, h1⟩ hpos
      · exact ⟨he, hw⟩)
    clear hP hpos
    go_enter Try.func85, Try.ntmps85
    go_wp2_with fail
    refine hP2.mono ?_
    rintro e2 w2 ⟨rfl, rfl⟩
    clear hP2
    go_wp2
    refine ⟨rfl, ?_⟩
    rw [HN.out]
    exact ⟨rfl, HK.out.old⟩
  case pos =>
    obtain ⟨h0, h1⟩ := hpos
    have HP0 := Lib.hid (And.intro h0 h1)
    obtain ⟨k, rfl⟩ := Int.eq_ofNat_of_zero_le h0
    have hk : k + 2 ≤ l.length := by omega
    have hP2 : Calls Try.prog 97 #[.pointer (some ⟨kb, 0, none⟩), .int .i64 (k : Int), .int .i64 2] (W.alloc (.cells #[.int .i64 mk, .int .i64 (k : Int), .int .i64 ml, .int .i64 mr, .int .i64 ms, .bool mi] 52)) fun e w' => e = .returned (.slice (some ⟨g, k, none⟩) 2 (cap - k)) ∧ W.alloc (.cells #[.int .i64 mk, .int .i64 (k : Int), .int .i64 ml, .int .i64 mr, .int .i64 ms, .bool mi] 52) = w' := hP.mono (by
      rintro e2 w2 ⟨hw, hh⟩
      rcases hh with ⟨_, _, he⟩ | ⟨hno, _⟩
      · exact ⟨he, hw⟩
      · exact absurd ⟨h0, h1⟩ hno)
    obtain ⟨x, hx⟩ : ∃ x, l.getD k 0 = x := ⟨_, rfl⟩
    obtain ⟨y, hy⟩ : ∃ y, l.getD (k + 1) 0 = y := ⟨_, rfl⟩
    have hcx : (W.alloc (.cells #[.int .i64 mk, .int .i64 (k : Int), .int .i64 ml, .int .i64 mr, .int .i64 ms, .bool mi] 52)).cell? ⟨g, k, none⟩ = some (.int .u8 x.toNat) := HK.out.word.get k _ (by rw [bs_get l k (by omega), ← hx]; simp [List.getD, show k < l.length by omega])
    have hcy : (W.alloc (.cells #[.int .i64 mk, .int .i64 (k : Int), .int .i64 ml, .int .i64 mr, .int .i64 ms, .bool mi] 52)).cell? ⟨g, k + 1, none⟩ = some (.int .u8 y.toNat) := HK.out.word.get (k + 1) _ (by rw [bs_get l (k + 1) (by omega), ← hy]; simp [List.getD, show k + 1 < l.length by omega])
    simp only [Int.toNat_natCast] at HDT HDF
    have HD := Lib.hid (fun X hX => remove_any (F := F) w p R rc kb mb g cap l X hX k 2 hk hl)
    have HIC := Lib.hid (fun X => inverseLetter_any x X)
    have hE := eq_nat_bool y (invc x)
    have hE2 := eq_nat_bool' y (invc x)
    have hi0 : (0 : Int) ≤ 1 := by decide
    clear hP h0 h1
    by_cases hq : y = invc x
    · have HS := Lib.hid (HDT.out ⟨HP0.out.1, HP0.out.2, by rw [hx, hy]; exact hq⟩)
      rw [decide_eq_true hq] at hE hE2
      clear hq hx hy
      go_enter Try.func85, Try.ntmps85
      go_wp2_with fail
      refine hP2.mono ?_
      rintro e2 w2 ⟨rfl, rfl⟩
      clear hP2
      go_wp2_with fail
      generalize W.alloc (.cells #[.int .i64 mk, .int .i64 (k : Int), .int .i64 ml, .int .i64 mr, .int .i64 ms, .bool mi] 52) = w0 at *
      refine wp_region_any (by kernel_rfl) ?_
      change wpAny _ _ _ _ _ _ _ w0.drew
      refine wpAny_take (i := 0) (v := .slice (some ⟨g, k, none⟩) 2 (cap - k)) rfl (by kernel_rfl) (by kernel_rfl) (by kernel_rfl) (fun _ _ _ h => h) (Or.inl ⟨by rfl, by intro w; go_simp⟩) ?_
      refine wpAny_take (i := 1) (v := .pointer (some ⟨g, k + 1, none⟩)) rfl (by kernel_rfl) (by kernel_rfl) (by kernel_rfl) (fun _ _ _ h => h) (Or.inl ⟨by rfl, by intro w; go_simp⟩) ?_
      refine wpAny_take (i := 3) (v := .slice (some ⟨g, k, none⟩) 2 (cap - k)) rfl (by kernel_rfl) (by kernel_rfl) (by kernel_rfl) (fun _ _ _ h => h) (Or.inl ⟨by rfl, by intro w; go_simp⟩) ?_
      refine wpAny_take (i := 4) (v := .pointer (some ⟨g, k, none⟩)) rfl (by kernel_rfl) (by kernel_rfl) (by kernel_rfl) (fun _ _ _ h => h) (Or.inl ⟨by rfl, by intro w; go_simp⟩) ?_
      refine wpAny_ready (rs := [2, 5]) (by kernel_rfl) (by simp) ?_
      refine AllReady.cons rfl (fun K hK => ?_) (AllReady.cons rfl (fun K hK => ?_) (AllReady.nil))
      · go_simp
        refine hK _ _ ?_
        clear hK K
        refine wpAny_ready (rs := [5]) (by kernel_rfl) (by simp) ?_
        refine AllReady.cons rfl (fun K hK => ?_) (AllReady.nil)
        · go_simp
          refine hK _ _ ?_
          clear hK K
          refine wpAny_ready (rs := [6]) (by kernel_rfl) (by simp) ?_
          refine AllReady.cons rfl (fun K hK => ?_) (AllReady.nil)
          · go_simp
            go_wp2_with fail
            refine (HIC.out _).mono ?_
            rintro e1 w1 ⟨rfl, rfl⟩
            refine hK _ _ ?_
            clear hK K
            refine wpAny_ready (rs := [7]) (by kernel_rfl) (by simp) ?_
            refine AllReady.cons rfl (fun K hK => ?_) (AllReady.nil)
            · go_simp
              refine hK _ _ ?_
              clear hK K
              refine wpAny_ready (rs := [8]) (by kernel_rfl) (by simp) ?_
              refine AllReady.cons rfl (fun K hK => ?_) (AllReady.nil)
              · go_simp
                go_wp2_with fail
                refine (mustApply_yes _).mono ?_
                rintro e2 w2 ⟨rfl, rfl⟩
                refine hK _ _ ?_
                clear hK K
                refine wpAny_done (by kernel_rfl) ?_ _
                have HD1 := Lib.hid (HD.out _ (HK.out.below ((Below.refl _ w0).drewN 1)))
                rw [← HS.out] at HD1
                go_wp2_with fail
                refine HD1.out.mono ?_
                intro e5 w5 hh
                rcases hh.split with ⟨rfl, hs⟩ | ⟨rfl, hs⟩
                · exact ⟨rfl, hs⟩
                · have HZ := Lib.hid hs
                  clear hs hh
                  go_wp2
                  go_end0
                  exact HZ.out
      · go_simp
        refine hK _ _ ?_
        clear hK K
        refine wpAny_ready (rs := [2, 6]) (by kernel_rfl) (by simp) ?_
        refine AllReady.cons rfl (fun K hK => ?_) (AllReady.cons rfl (fun K hK => ?_) (AllReady.nil))
        · go_simp
          refine hK _ _ ?_
          clear hK K
          refine wpAny_ready (rs := [6]) (by kernel_rfl) (by simp) ?_
          refine AllReady.cons rfl (fun K hK => ?_) (AllReady.nil)
          · go_simp
            go_wp2_with fail
            refine (HIC.out _).mono ?_
            rintro e1 w1 ⟨rfl, rfl⟩
            refine hK _ _ ?_
            clear hK K
            refine wpAny_ready (rs := [7]) (by kernel_rfl) (by simp) ?_
            refine AllReady.cons rfl (fun K hK => ?_) (AllReady.nil)
            · go_simp
              refine hK _ _ ?_
              clear hK K
              refine wpAny_ready (rs := [8]) (by kernel_rfl) (by simp) ?_
              refine AllReady.cons rfl (fun K hK => ?_) (AllReady.nil)
              · go_simp
                go_wp2_with fail
                refine (mustApply_yes _).mono ?_
                rintro e2 w2 ⟨rfl, rfl⟩
                refine hK _ _ ?_
                clear hK K
                refine wpAny_done (by kernel_rfl) ?_ _
                have HD1 := Lib.hid (HD.out _ (HK.out.below ((Below.refl _ w0).drewN 1)))
                rw [← HS.out] at HD1
                go_wp2_with fail
                refine HD1.out.mono ?_
                intro e5 w5 hh
                rcases hh.split with ⟨rfl, hs⟩ | ⟨rfl, hs⟩
                · exact ⟨rfl, hs⟩
                · have HZ := Lib.hid hs
                  clear hs hh
                  go_wp2
                  go_end0
                  exact HZ.out
        · go_simp
          go_wp2_with fail
          refine (HIC.out _).mono ?_
          rintro e1 w1 ⟨rfl, rfl⟩
          refine hK _ _ ?_
          clear hK K
          refine wpAny_ready (rs := [2]) (by kernel_rfl) (by simp) ?_
          refine AllReady.cons rfl (fun K hK => ?_) (AllReady.nil)
          · go_simp
            refine hK _ _ ?_
            clear hK K
            refine wpAny_ready (rs := [7]) (by kernel_rfl) (by simp) ?_
            refine AllReady.cons rfl (fun K hK => ?_) (AllReady.nil)
            · go_simp
              refine hK _ _ ?_
              clear hK K
              refine wpAny_ready (rs := [8]) (by kernel_rfl) (by simp) ?_
              refine AllReady.cons rfl (fun K hK => ?_) (AllReady.nil)
              · go_simp
                go_wp2_with fail
                refine (mustApply_yes _).mono ?_
                rintro e2 w2 ⟨rfl, rfl⟩
                refine hK _ _ ?_
                clear hK K
                refine wpAny_done (by kernel_rfl) ?_ _
                have HD1 := Lib.hid (HD.out _ (HK.out.below ((Below.refl _ w0).drewN 1)))
                rw [← HS.out] at HD1
                go_wp2_with fail
                refine HD1.out.mono ?_
                intro e5 w5 hh
                rcases hh.split with ⟨rfl, hs⟩ | ⟨rfl, hs⟩
                · exact ⟨rfl, hs⟩
                · have HZ := Lib.hid hs
                  clear hs hh
                  go_wp2
                  go_end0
                  exact HZ.out
    · have HS := Lib.hid (HDF.out (fun h => hq (by have := h.2.2; rwa [hx, hy] at this)))
      rw [decide_eq_false hq] at hE hE2
      clear hq hx hy
      go_enter Try.func85, Try.ntmps85
      go_wp2_with fail
      refine hP2.mono ?_
      rintro e2 w2 ⟨rfl, rfl⟩
      clear hP2
      go_wp2_with fail
      generalize W.alloc (.cells #[.int .i64 mk, .int .i64 (k : Int), .int .i64 ml, .int .i64 mr, .int .i64 ms, .bool mi] 52) = w0 at *
      have HPAN : Hid (StepP F w p R rc kb mb r (.panicked pan) w0.drew) := Lib.hid (by rw [HS.out]; exact ⟨rfl, HK.out.old.drewN 1⟩)
      refine wp_region_any (by kernel_rfl) ?_
      change wpAny _ _ _ _ _ _ _ w0.drew
      refine wpAny_take (i := 0) (v := .slice (some ⟨g, k, none⟩) 2 (cap - k)) rfl (by kernel_rfl) (by kernel_rfl) (by kernel_rfl) (fun _ _ _ h => h) (Or.inl ⟨by rfl, by intro w; go_simp⟩) ?_
      refine wpAny_take (i := 1) (v := .pointer (some ⟨g, k + 1, none⟩)) rfl (by kernel_rfl) (by kernel_rfl) (by kernel_rfl) (fun _ _ _ h => h) (Or.inl ⟨by rfl, by intro w; go_simp⟩) ?_
      refine wpAny_take (i := 3) (v := .slice (some ⟨g, k, none⟩) 2 (cap - k)) rfl (by kernel_rfl) (by kernel_rfl) (by kernel_rfl) (fun _ _ _ h => h) (Or.inl ⟨by rfl, by intro w; go_simp⟩) ?_
      refine wpAny_take (i := 4) (v := .pointer (some ⟨g, k, none⟩)) rfl (by kernel_rfl) (by kernel_rfl) (by kernel_rfl) (fun _ _ _ h => h) (Or.inl ⟨by rfl, by intro w; go_simp⟩) ?_
      refine wpAny_ready (rs := [2, 5]) (by kernel_rfl) (by simp) ?_
      refine AllReady.cons rfl (fun K hK => ?_) (AllReady.cons rfl (fun K hK => ?_) (AllReady.nil))
      · go_simp
        refine hK _ _ ?_
        clear hK K
        refine wpAny_ready (rs := [5]) (by kernel_rfl) (by simp) ?_
        refine AllReady.cons rfl (fun K hK => ?_) (AllReady.nil)
        · go_simp
          refine hK _ _ ?_
          clear hK K
          refine wpAny_ready (rs := [6]) (by kernel_rfl) (by simp) ?_
          refine AllReady.cons rfl (fun K hK => ?_) (AllReady.nil)
          · go_simp
            go_wp2_with fail
            refine (HIC.out _).mono ?_
            rintro e1 w1 ⟨rfl, rfl⟩
            refine hK _ _ ?_
            clear hK K
            refine wpAny_ready (rs := [7]) (by kernel_rfl) (by simp) ?_
            refine AllReady.cons rfl (fun K hK => ?_) (AllReady.nil)
            · go_simp
              refine hK _ _ ?_
              clear hK K
              refine wpAny_ready (rs := [8]) (by kernel_rfl) (by simp) ?_
              refine AllReady.cons rfl (fun K hK => ?_) (AllReady.nil)
              · go_simp
                go_wp2_with fail
                refine (mustApply_no _).mono ?_
                rintro e2 w2 ⟨rfl, rfl⟩
                exact ⟨rfl, HPAN.out⟩
      · go_simp
        refine hK _ _ ?_
        clear hK K
        refine wpAny_ready (rs := [2, 6]) (by kernel_rfl) (by simp) ?_
        refine AllReady.cons rfl (fun K hK => ?_) (AllReady.cons rfl (fun K hK => ?_) (AllReady.nil))
        · go_simp
          refine hK _ _ ?_
          clear hK K
          refine wpAny_ready (rs := [6]) (by kernel_rfl) (by simp) ?_
          refine AllReady.cons rfl (fun K hK => ?_) (AllReady.nil)
          · go_simp
            go_wp2_with fail
            refine (HIC.out _).mono ?_
            rintro e1 w1 ⟨rfl, rfl⟩
            refine hK _ _ ?_
            clear hK K
            refine wpAny_ready (rs := [7]) (by kernel_rfl) (by simp) ?_
            refine AllReady.cons rfl (fun K hK => ?_) (AllReady.nil)
            · go_simp
              refine hK _ _ ?_
              clear hK K
              refine wpAny_ready (rs := [8]) (by kernel_rfl) (by simp) ?_
              refine AllReady.cons rfl (fun K hK => ?_) (AllReady.nil)
              · go_simp
                go_wp2_with fail
                refine (mustApply_no _).mono ?_
                rintro e2 w2 ⟨rfl, rfl⟩
                exact ⟨rfl, HPAN.out⟩
        · go_simp
          go_wp2_with fail
          refine (HIC.out _).mono ?_
          rintro e1 w1 ⟨rfl, rfl⟩
          refine hK _ _ ?_
          clear hK K
          refine wpAny_ready (rs := [2]) (by kernel_rfl) (by simp) ?_
          refine AllReady.cons rfl (fun K hK => ?_) (AllReady.nil)
          · go_simp
            refine hK _ _ ?_
            clear hK K
            refine wpAny_ready (rs := [7]) (by kernel_rfl) (by simp) ?_
            refine AllReady.cons rfl (fun K hK => ?_) (AllReady.nil)
            · go_simp
              refine hK _ _ ?_
              clear hK K
              refine wpAny_ready (rs := [8]) (by kernel_rfl) (by simp) ?_
              refine AllReady.cons rfl (fun K hK => ?_) (AllReady.nil)
              · go_simp
                go_wp2_with fail
                refine (mustApply_no _).mono ?_
                rintro e2 w2 ⟨rfl, rfl⟩
                exact ⟨rfl, HPAN.out⟩
end Go.Proofs.Ytbcckfggnlmhoaa

namespace Go.Proofs.Ytbcckfggnlmhoaa
open Go Go.RowKit

set_option maxHeartbeats 4000000 in
set_option maxRecDepth 100000 in
theorem insertPair_any {F : Gh} (w : World) (p : Pr) (R : Option Addr) (rc kb mb g cap : Nat) (l : List UInt8) (W : World) (h : WkAt F w p R rc kb mb g cap l W) (hp : presB p = true) (hl : l.length ≤ 100000) (m : Mv) :
    Calls Try.prog 84 #[.pointer (some ⟨kb, 0, none⟩), mvV m] W (StepP F w p R rc kb mb (insPair p l m)) := by
  obtain ⟨hk1, hk8, _⟩ := presB_k hp
  have HIP : Hid (0 ≤ m.letter ∧ m.letter < 2 * p.k → insPair p l m = insAt l m.pos [ltr m.letter.toNat, invc (ltr m.letter.toNat)]) := Lib.hid (fun h => if_pos h)
  have HIN : Hid (¬ (0 ≤ m.letter ∧ m.letter < 2 * p.k) → insPair p l m = none) := Lib.hid (fun h => if_neg h)
  obtain ⟨mk, mp, ml, mr, ms, mi⟩ := m
  have HBX := Lib.hid (Boxd.start W #[.int .i64 mk, .int .i64 mp, .int .i64 ml, .int .i64 mr, .int .i64 ms, .bool mi] 52)
  have HK := Lib.hid (h.below (Boxd.start W #[.int .i64 mk, .int .i64 mp, .int .i64 ml, .int .i64 mr, .int .i64 ms, .bool mi] 52).old)
  clear h hp
  show Calls Try.prog 84 #[.pointer (some ⟨kb, 0, none⟩), .agg #[.int .i64 mk, .int .i64 mp, .int .i64 ml, .int .i64 mr, .int .i64 ms, .bool mi]] W (StepP F w p R rc kb mb (insPair p l ⟨mk, mp, ml, mr, ms, mi⟩))
  generalize insPair p l ⟨mk, mp, ml, mr, ms, mi⟩ = r at *
  have hw2 : IntKind.i64.wrap (2 * p.k) = 2 * p.k := by rw [IntKind.wrap_i64]; omega
  go_enter Try.func84, Try.ntmps84
  go_wp2_with fail
  generalize W.alloc (.cells #[.int .i64 mk, .int .i64 mp, .int .i64 ml, .int .i64 mr, .int .i64 ms, .bool mi] 52) = w0 at *
  have hb1 : w0.cell? ⟨W.heap.size, 1, none⟩ = some (.int .i64 mp) := HBX.out.cell 1
  have hb2 : w0.cell? ⟨W.heap.size, 2, none⟩ = some (.int .i64 ml) := HBX.out.cell 2
  have hc0 : w0.cell? ⟨kb, 0, none⟩ = some (.int .i64 p.k) := HK.out.c0
  by_cases hm : 0 ≤ ml ∧ ml < 2 * p.k
  case neg =>
    have HN := Lib.hid (HIN.out hm)
    have HOB : Hid (Below w.heap.size w w0.drew) := Lib.hid (HK.out.old.drewN 1)
    by_cases h0 : 0 ≤ ml
    · have e1 : decide (0 ≤ ml) = true := by simpa using h0
      have e2 : decide (ml < 2 * p.k) = false := by simp; omega
      clear hm
      refine wp_region_any (by kernel_rfl) ?_
      change wpAny _ _ _ _ _ _ _ w0.drew
      refine wpAny_take (i := 0) (v := .pointer (some ⟨W.heap.size, 2, none⟩)) rfl (by kernel_rfl) (by kernel_rfl) (by kernel_rfl) (fun _ _ _ h => h) (Or.inl ⟨by rfl, by intro w; go_simp⟩) ?_
      refine wpAny_ready (rs := [1]) (by kernel_rfl) (by simp) ?_
      refine AllReady.cons rfl (fun K hK => ?_) (AllReady.nil)
      go_simp
      refine hK _ _ ?_
      clear hK K
      refine wpAny_take (i := 2) (v := .bool true) rfl (by kernel_rfl) (by kernel_rfl) (by kernel_rfl) (fun _ _ _ h => h) (Or.inl ⟨by rfl, by intro w; go_simp⟩) ?_
      refine wpAny_take (i := 3) (v := .bool true) rfl (by kernel_rfl) (by kernel_rfl) (by kernel_rfl) (fun _ _ _ h => h) (Or.inl ⟨by rfl, by intro w; go_simp⟩) ?_
      refine wpAny_take (i := 4) (v := .pointer (some ⟨W.heap.size, 2, none⟩)) rfl (by kernel_rfl) (by kernel_rfl) (by kernel_rfl) (fun _ _ _ h => h) (Or.inl ⟨by rfl, by intro w; go_simp⟩) ?_
      refine wpAny_take (i := 6) (v := .pointer (some ⟨kb, 0, none⟩)) rfl (by kernel_rfl) (by kernel_rfl) (by kernel_rfl) (fun _ _ _ h => h) (Or.inl ⟨by rfl, by intro w; go_simp⟩) ?_
      refine wpAny_take (i := 7) (v := .pointer (some ⟨kb, 0, none⟩)) rfl (by kernel_rfl) (by kernel_rfl) (by kernel_rfl) (fun _ _ _ h => h) (Or.inl ⟨by rfl, by intro w; go_simp⟩) ?_
      refine wpAny_take (i := 8) (v := .pointer (some ⟨kb, 0, none⟩)) rfl (by kernel_rfl) (by kernel_rfl) (by kernel_rfl) (fun _ _ _ h => h) (Or.inl ⟨by rfl, by intro w; go_simp⟩) ?_
      refine wpAny_take (i := 9) (v := .pointer (some ⟨kb, 0, none⟩)) rfl (by kernel_rfl) (by kernel_rfl) (by kernel_rfl) (fun _ _ _ h => h) (Or.inl ⟨by rfl, by intro w; go_simp⟩) ?_
      refine wpAny_ready (rs := [5, 10]) (by kernel_rfl) (by simp) ?_
      refine AllReady.cons rfl (fun K hK => ?_) (AllReady.cons rfl (fun K hK => ?_) (AllReady.nil))
      · go_simp
        refine hK _ _ ?_
        clear hK K
        refine wpAny_ready (rs := [10]) (by kernel_rfl) (by simp) ?_
        refine AllReady.cons rfl (fun K hK => ?_) (AllReady.nil)
        go_simp
        refine hK _ _ ?_
        clear hK K
        refine wpAny_take (i := 11) (v := .int .i64 (2 * p.k)) rfl (by kernel_rfl) (by kernel_rfl) (by kernel_rfl) (fun _ _ _ h => h) (Or.inl ⟨by rfl, by intro w; go_simp⟩) ?_
        refine wpAny_take (i := 12) (v := .bool false) rfl (by kernel_rfl) (by kernel_rfl) (by kernel_rfl) (fun _ _ _ h => h) (Or.inl ⟨by rfl, by intro w; go_simp⟩) ?_
        refine wpAny_take (i := 13) (v := .bool false) rfl (by kernel_rfl) (by kernel_rfl) (by kernel_rfl) (fun _ _ _ h => h) (Or.inl ⟨by rfl, by intro w; go_simp⟩) ?_
        refine wpAny_ready (rs := [14]) (by kernel_rfl) (by simp) ?_
        refine AllReady.cons rfl (fun K hK => ?_) (AllReady.nil)
        go_simp
        go_wp2_with fail
        refine (mustApply_no _).mono ?_
        rintro e2 w2 ⟨rfl, rfl⟩
        refine ⟨rfl, ?_⟩
        rw [HN.out]
        exact ⟨rfl, HOB.out⟩
      · go_simp
        refine hK _ _ ?_
        clear hK K
        refine wpAny_take (i := 11) (v := .int .i64 (2 * p.k)) rfl (by kernel_rfl) (by kernel_rfl) (by kernel_rfl) (fun _ _ _ h => h) (Or.inl ⟨by rfl, by intro w; go_simp⟩) ?_
        refine wpAny_ready (rs := [5]) (by kernel_rfl) (by simp) ?_
        refine AllReady.cons rfl (fun K hK => ?_) (AllReady.nil)
        go_simp
        refine hK _ _ ?_
        clear hK K
        refine wpAny_take (i := 12) (v := .bool false) rfl (by kernel_rfl) (by kernel_rfl) (by kernel_rfl) (fun _ _ _ h => h) (Or.inl ⟨by rfl, by intro w; go_simp⟩) ?_
        refine wpAny_take (i := 13) (v := .bool false) rfl (by kernel_rfl) (by kernel_rfl) (by kernel_rfl) (fun _ _ _ h => h) (Or.inl ⟨by rfl, by intro w; go_simp⟩) ?_
        refine wpAny_ready (rs := [14]) (by kernel_rfl) (by simp) ?_
        refine AllReady.cons rfl (fun K hK => ?_) (AllReady.nil)
        go_simp
        go_wp2_with fail
        refine (mustApply_no _).mono ?_
        rintro e2 w2 ⟨rfl, rfl⟩
        refine ⟨rfl, ?_⟩
        rw [HN.out]
        exact ⟨rfl, HOB.out⟩
    · have e1 : decide (0 ≤ ml) = false := by simpa using h0
      clear hm
      refine wp_region_any (by kernel_rfl) ?_
      change wpAny _ _ _ _ _ _ _ w0.drew
      refine wpAny_take (i := 0) (v := .pointer (some ⟨W.heap.size, 2, none⟩)) rfl (by kernel_rfl) (by kernel_rfl) (by kernel_rfl) (fun _ _ _ h => h) (Or.inl ⟨by rfl, by intro w; go_simp⟩) ?_
      refine wpAny_ready (rs := [1]) (by kernel_rfl) (by simp) ?_
      refine AllReady.cons rfl (fun K hK => ?_) (AllReady.nil)
      go_simp
      refine hK _ _ ?_
      clear hK K
      refine wpAny_take (i := 2) (v := .bool false) rfl (by kernel_rfl) (by kernel_rfl) (by kernel_rfl) (fun _ _ _ h => h) (Or.inl ⟨by rfl, by intro w; go_simp⟩) ?_
      refine wpAny_take (i := 3) (v := .bool false) rfl (by kernel_rfl) (by kernel_rfl) (by kernel_rfl) (fun _ _ _ h => h) (Or.inl ⟨by rfl, by intro w; go_simp⟩) ?_
      refine wpAny_take (i := 4) (v := undef) rfl (by kernel_rfl) (by kernel_rfl) (by kernel_rfl) (fun _ _ _ h => h) (Or.inr ⟨by kernel_rfl, rfl⟩) ?_
      refine wpAny_take (i := 5) (v := undef) rfl (by kernel_rfl) (by kernel_rfl) (by kernel_rfl) (fun _ _ _ h => h) (Or.inr ⟨by kernel_rfl, rfl⟩) ?_
      refine wpAny_take (i := 6) (v := undef) rfl (by kernel_rfl) (by kernel_rfl) (by kernel_rfl) (fun _ _ _ h => h) (Or.inr ⟨by kernel_rfl, rfl⟩) ?_
      refine wpAny_take (i := 7) (v := undef) rfl (by kernel_rfl) (by kernel_rfl) (by kernel_rfl) (fun _ _ _ h => h) (Or.inr ⟨by kernel_rfl, rfl⟩) ?_
      refine wpAny_take (i := 8) (v := undef) rfl (by kernel_rfl) (by kernel_rfl) (by kernel_rfl) (fun _ _ _ h => h) (Or.inr ⟨by kernel_rfl, rfl⟩) ?_
      refine wpAny_take (i := 9) (v := undef) rfl (by kernel_rfl) (by kernel_rfl) (by kernel_rfl) (fun _ _ _ h => h) (Or.inr ⟨by kernel_rfl, rfl⟩) ?_
      refine wpAny_take (i := 10) (v := undef) rfl (by kernel_rfl) (by kernel_rfl) (by kernel_rfl) (fun _ _ _ h => h) (Or.inr ⟨by kernel_rfl, rfl⟩) ?_
      refine wpAny_take (i := 11) (v := undef) rfl (by kernel_rfl) (by kernel_rfl) (by kernel_rfl) (fun _ _ _ h => h) (Or.inr ⟨by kernel_rfl, rfl⟩) ?_
      refine wpAny_take (i := 12) (v := undef) rfl (by kernel_rfl) (by kernel_rfl) (by kernel_rfl) (fun _ _ _ h => h) (Or.inr ⟨by kernel_rfl, rfl⟩) ?_
      refine wpAny_take (i := 13) (v := .bool false) rfl (by kernel_rfl) (by kernel_rfl) (by kernel_rfl) (fun _ _ _ h => h) (Or.inl ⟨by rfl, by intro w; go_simp⟩) ?_
      refine wpAny_ready (rs := [14]) (by kernel_rfl) (by simp) ?_
      refine AllReady.cons rfl (fun K hK => ?_) (AllReady.nil)
      go_simp
      go_wp2_with fail
      refine (mustApply_no _).mono ?_
      rintro e2 w2 ⟨rfl, rfl⟩
      refine ⟨rfl, ?_⟩
      rw [HN.out]
      exact ⟨rfl, HOB.out⟩
  case pos =>
    have HS := Lib.hid (HIP.out hm)
    obtain ⟨h0, h1⟩ := hm
    obtain ⟨n, rfl⟩ := Int.eq_ofNat_of_zero_le h0
    have hn : n < 16 := by omega
    simp only [Int.toNat_natCast] at HS
    have e1 : decide ((0 : Int) ≤ (n : Int)) = true := by simp
    have e2 : decide ((n : Int) < 2 * p.k) = true := by simpa using h1
    have hLW := letterWith_any n hn w0.drew
    have HIC := Lib.hid (fun X => inverseLetter_any (ltr n) X)
    generalize ltr n = c at *
    refine wp_region_any (by kernel_rfl) ?_
    change wpAny _ _ _ _ _ _ _ w0.drew
    refine wpAny_take (i := 0) (v := .pointer (some ⟨W.heap.size, 2, none⟩)) rfl (by kernel_rfl) (by kernel_rfl) (by kernel_rfl) (fun _ _ _ h => h) (Or.inl ⟨by rfl, by intro w; go_simp⟩) ?_
    refine wpAny_ready (rs := [1]) (by kernel_rfl) (by simp) ?_
    refine AllReady.cons rfl (fun K hK => ?_) (AllReady.nil)
    go_simp
    refine hK _ _ ?_
    clear hK K
    refine wpAny_take (i := 2) (v := .bool true) rfl (by kernel_rfl) (by kernel_rfl) (by kernel_rfl) (fun _ _ _ h => h) (Or.inl ⟨by rfl, by intro w; go_simp⟩) ?_
    refine wpAny_take (i := 3) (v := .bool true) rfl (by kernel_rfl) (by kernel_rfl) (by kernel_rfl) (fun _ _ _ h => h) (Or.inl ⟨by rfl, by intro w; go_simp⟩) ?_
    refine wpAny_take (i := 4) (v := .pointer (some ⟨W.heap.size, 2, none⟩)) rfl (by kernel_rfl) (by kernel_rfl) (by kernel_rfl) (fun _ _ _ h => h) (Or.inl ⟨by rfl, by intro w; go_simp⟩) ?_
    refine wpAny_take (i := 6) (v := .pointer (some ⟨kb, 0, none⟩)) rfl (by kernel_rfl) (by kernel_rfl) (by kernel_rfl) (fun _ _ _ h => h) (Or.inl ⟨by rfl, by intro w; go_simp⟩) ?_
    refine wpAny_take (i := 7) (v := .pointer (some ⟨kb, 0, none⟩)) rfl (by kernel_rfl) (by kernel_rfl) (by kernel_rfl) (fun _ _ _ h => h) (Or.inl ⟨by rfl, by intro w; go_simp⟩) ?_
    refine wpAny_take (i := 8) (v := .pointer (some ⟨kb, 0, none⟩)) rfl (by kernel_rfl) (by kernel_rfl) (by kernel_rfl) (fun _ _ _ h => h) (Or.inl ⟨by rfl, by intro w; go_simp⟩) ?_
    refine wpAny_take (i := 9) (v := .pointer (some ⟨kb, 0, none⟩)) rfl (by kernel_rfl) (by kernel_rfl) (by kernel_rfl) (fun _ _ _ h => h) (Or.inl ⟨by rfl, by intro w; go_simp⟩) ?_
    refine wpAny_ready (rs := [5, 10]) (by kernel_rfl) (by simp) ?_
    refine AllReady.cons rfl (fun K hK => ?_) (AllReady.cons rfl (fun K hK => ?_) (AllReady.nil))
    · go_simp
      refine hK _ _ ?_
      clear hK K
      refine wpAny_ready (rs := [10]) (by kernel_rfl) (by simp) ?_
      refine AllReady.cons rfl (fun K hK => ?_) (AllReady.nil)
      go_simp
      refine hK _ _ ?_
      clear hK K
      refine wpAny_take (i := 11) (v := .int .i64 (2 * p.k)) rfl (by kernel_rfl) (by kernel_rfl) (by kernel_rfl) (fun _ _ _ h => h) (Or.inl ⟨by rfl, by intro w; go_simp⟩) ?_
      refine wpAny_take (i := 12) (v := .bool true) rfl (by kernel_rfl) (by kernel_rfl) (by kernel_rfl) (fun _ _ _ h => h) (Or.inl ⟨by rfl, by intro w; go_simp⟩) ?_
      refine wpAny_take (i := 13) (v := .bool true) rfl (by kernel_rfl) (by kernel_rfl) (by kernel_rfl) (fun _ _ _ h => h) (Or.inl ⟨by rfl, by intro w; go_simp⟩) ?_
      refine wpAny_ready (rs := [14]) (by kernel_rfl) (by simp) ?_
      refine AllReady.cons rfl (fun K hK => ?_) (AllReady.nil)
      go_simp
      go_wp2_with fail
      refine (mustApply_yes _).mono ?_
      rintro e2 w2 ⟨rfl, rfl⟩
      refine hK _ _ ?_
      clear hK K
      refine wpAny_done (by kernel_rfl) ?_ _
      go_wp2_with fail
      refine hLW.mono ?_
      rintro e3 w3 ⟨rfl, rfl⟩
      clear hLW
      go_wp2_with fail
      have hK0 := HK.out.below ((Below.refl _ w0).drewN 1)
      have hK1 := hK0.below ((Below.refl _ w0.drew).drewN 1)
      have HK2 := Lib.hid (hK1.below ((Below.refl _ w0.drew.drew).alloc (Nat.le_refl _) (.cells #[.int .u8 c.toNat, .int .u8 (invc c).toNat] 5)))
      have hown : (w0.drew.drew.alloc (.cells #[.int .u8 c.toNat, .int .u8 (invc c).toNat] 5)).ownsRow 0 5 1 (.slice (some ⟨w0.heap.size, 0, none⟩) 2 2) 2 (bs [c, invc c]) := World.ownsRow_lit (base := 0) w0.drew.drew #[.int .u8 c.toNat, .int .u8 (invc c).toNat] 2 (Nat.zero_le _) (by unfold maxLen; omega) rfl
      have hgl : g < w0.heap.size := HK.out.word.lt
      have HIS := Lib.hid (insert_any w p R rc kb mb g cap l [c, invc c] _ HK2.out 0 w0.heap.size 2 hown (by omega) (by simp) mp hl (by simp))
      rw [← HS.out] at HIS
      have hb1' : w0.drew.cell? ⟨W.heap.size, 1, none⟩ = some (.int .i64 mp) := hb1
      have hb1x : (w0.alloc (.cells #[.int .u8 c.toNat, .int .u8 (invc c).toNat] 5)).cell? ⟨W.heap.size, 1, none⟩ = some (.int .i64 mp) := (((Below.refl _ w0.drew.drew).alloc (Nat.le_refl _) (.cells #[.int .u8 c.toNat, .int .u8 (invc c).toNat] 5)).cell (p := ⟨W.heap.size, 1, none⟩) (lt_of_cell hb1)).trans hb1
      clear hK0 hK1 hown
      refine wp_region_any (by kernel_rfl) ?_
      change wpAny _ _ _ _ _ _ _ w0.drew.drew
      refine wpAny_take (i := 0) (v := .pointer (some ⟨kb, 0, none⟩)) rfl (by kernel_rfl) (by kernel_rfl) (by kernel_rfl) (fun _ _ _ h => h) (Or.inl ⟨by rfl, by intro w; go_simp⟩) ?_
      refine wpAny_take (i := 1) (v := .pointer (some ⟨W.heap.size, 1, none⟩)) rfl (by kernel_rfl) (by kernel_rfl) (by kernel_rfl) (fun _ _ _ h => h) (Or.inl ⟨by rfl, by intro w; go_simp⟩) ?_
      refine wpAny_take (i := 3) (v := .int .u8 c.toNat) rfl (by kernel_rfl) (by kernel_rfl) (by kernel_rfl) (fun _ _ _ h => h) (Or.inl ⟨by rfl, by intro w; go_simp⟩) ?_
      refine wpAny_take (i := 4) (v := .int .u8 c.toNat) rfl (by kernel_rfl) (by kernel_rfl) (by kernel_rfl) (fun _ _ _ h => h) (Or.inl ⟨by rfl, by intro w; go_simp⟩) ?_
      refine wpAny_ready (rs := [2, 5]) (by kernel_rfl) (by simp) ?_
      refine AllReady.cons rfl (fun K hK => ?_) (AllReady.cons rfl (fun K hK => ?_) (AllReady.nil))
      · go_simp
        refine hK _ _ ?_
        clear hK K
        refine wpAny_ready (rs := [5]) (by kernel_rfl) (by simp) ?_
        refine AllReady.cons rfl (fun K hK => ?_) (AllReady.nil)
        · go_simp
          go_wp2_with fail
          refine (HIC.out _).mono ?_
          rintro e1 w1 ⟨rfl, rfl⟩
          refine hK _ _ ?_
          clear hK K
          refine wpAny_ready (rs := [6]) (by kernel_rfl) (by simp) ?_
          refine AllReady.cons rfl (fun K hK => ?_) (AllReady.nil)
          · go_simp
            refine hK _ _ ?_
            clear hK K
            refine wpAny_ready (rs := [7]) (by kernel_rfl) (by simp) ?_
            refine AllReady.cons rfl (fun K hK => ?_) (AllReady.nil)
            · go_simp
              go_wp2_with fail
              refine HIS.out.mono ?_
              intro e2 w2 hh
              rcases hh.split with ⟨rfl, hs⟩ | ⟨rfl, hs⟩
              · exact ⟨rfl, hs⟩
              refine hK _ _ ?_
              clear hK K
              refine wpAny_done (by kernel_rfl) ?_ _
              go_wp2
              go_end0
              exact hs
      · go_simp
        go_wp2_with fail
        refine (HIC.out _).mono ?_
        rintro e1 w1 ⟨rfl, rfl⟩
        refine hK _ _ ?_
        clear hK K
        refine wpAny_ready (rs := [2, 6]) (by kernel_rfl) (by simp) ?_
        refine AllReady.cons rfl (fun K hK => ?_) (AllReady.cons rfl (fun K hK => ?_) (AllReady.nil))
        · go_simp
          refine hK _ _ ?_
          clear hK K
          refine wpAny_ready (rs := [6]) (by kernel_rfl) (by simp) ?_
          refine AllReady.cons rfl (fun K hK => ?_) (AllReady.nil)
          · go_simp
            refine hK _ _ ?_
            clear hK K
            refine wpAny_ready (rs := [7]) (by kernel_rfl) (by simp) ?_
            refine AllReady.cons rfl (fun K hK => ?_) (AllReady.nil)
            · go_simp
              go_wp2_with fail
              refine HIS.out.mono ?_
              intro e2 w2 hh
              rcases hh.split with ⟨rfl, hs⟩ | ⟨rfl, hs⟩
              · exact ⟨rfl, hs⟩
              refine hK _ _ ?_
              clear hK K
              refine wpAny_done (by kernel_rfl) ?_ _
              go_wp2
              go_end0
              exact hs
        · go_simp
          refine hK _ _ ?_
          clear hK K
          refine wpAny_ready (rs := [2]) (by kernel_rfl) (by simp) ?_
          refine AllReady.cons rfl (fun K hK => ?_) (AllReady.nil)
          · go_simp
            refine hK _ _ ?_
            clear hK K
            refine wpAny_ready (rs := [7]) (by kernel_rfl) (by simp) ?_
            refine AllReady.cons rfl (fun K hK => ?_) (AllReady.nil)
            · go_simp
              go_wp2_with fail
              refine HIS.out.mono ?_
              intro e2 w2 hh
              rcases hh.split with ⟨rfl, hs⟩ | ⟨rfl, hs⟩
              · exact ⟨rfl, hs⟩
              refine hK _ _ ?_
              clear hK K
              refine wpAny_done (by kernel_rfl) ?_ _
              go_wp2
              go_end0
              exact hs
    · go_simp
      refine hK _ _ ?_
      clear hK K
      refine wpAny_take (i := 11) (v := .int .i64 (2 * p.k)) rfl (by kernel_rfl) (by kernel_rfl) (by kernel_rfl) (fun _ _ _ h => h) (Or.inl ⟨by rfl, by intro w; go_simp⟩) ?_
      refine wpAny_ready (rs := [5]) (by kernel_rfl) (by simp) ?_
      refine AllReady.cons rfl (fun K hK => ?_) (AllReady.nil)
      go_simp
      refine hK _ _ ?_
      clear hK K
      refine wpAny_take (i := 12) (v := .bool true) rfl (by kernel_rfl) (by kernel_rfl) (by kernel_rfl) (fun _ _ _ h => h) (Or.inl ⟨by rfl, by intro w; go_simp⟩) ?_
      refine wpAny_take (i := 13) (v := .bool true) rfl (by kernel_rfl) (by kernel_rfl) (by kernel_rfl) (fun _ _ _ h => h) (Or.inl ⟨by rfl, by intro w; go_simp⟩) ?_
      refine wpAny_ready (rs := [14]) (by kernel_rfl) (by simp) ?_
      refine AllReady.cons rfl (fun K hK => ?_) (AllReady.nil)
      go_simp
      go_wp2_with fail
      refine (mustApply_yes _).mono ?_
      rintro e2 w2 ⟨rfl, rfl⟩
      refine hK _ _ ?_
      clear hK K
      refine wpAny_done (by kernel_rfl) ?_ _
      go_wp2_with fail
      refine hLW.mono ?_
      rintro e3 w3 ⟨rfl, rfl⟩
      clear hLW
      go_wp2_with fail
      have hK0 := HK.out.below ((Below.refl _ w0).drewN 1)
      have hK1 := hK0.below ((Below.refl _ w0.drew).drewN 1)
      have HK2 := Lib.hid (hK1.below ((Below.refl _ w0.drew.drew).alloc (Nat.le_refl _) (.cells #[.int .u8 c.toNat, .int .u8 (invc c).toNat] 5)))
      have hown : (w0.drew.drew.alloc (.cells #[.int .u8 c.toNat, .int .u8 (invc c).toNat] 5)).ownsRow 0 5 1 (.slice (some ⟨w0.heap.size, 0, none⟩) 2 2) 2 (bs [c, invc c]) := World.ownsRow_lit (base := 0) w0.drew.drew #[.int .u8 c.toNat, .int .u8 (invc c).toNat] 2 (Nat.zero_le _) (by unfold maxLen; omega) rfl
      have hgl : g < w0.heap.size := HK.out.word.lt
      have HIS := Lib.hid (insert_any w p R rc kb mb g cap l [c, invc c] _ HK2.out 0 w0.heap.size 2 hown (by omega) (by simp) mp hl (by simp))
      rw [← HS.out] at HIS
      have hb1' : w0.drew.cell? ⟨W.heap.size, 1, none⟩ = some (.int .i64 mp) := hb1
      have hb1x : (w0.alloc (.cells #[.int .u8 c.toNat, .int .u8 (invc c).toNat] 5)).cell? ⟨W.heap.size, 1, none⟩ = some (.int .i64 mp) := (((Below.refl _ w0.drew.drew).alloc (Nat.le_refl _) (.cells #[.int .u8 c.toNat, .int .u8 (invc c).toNat] 5)).cell (p := ⟨W.heap.size, 1, none⟩) (lt_of_cell hb1)).trans hb1
      clear hK0 hK1 hown
      refine wp_region_any (by kernel_rfl) ?_
      change wpAny _ _ _ _ _ _ _ w0.drew.drew
      refine wpAny_take (i := 0) (v := .pointer (some ⟨kb, 0, none⟩)) rfl (by kernel_rfl) (by kernel_rfl) (by kernel_rfl) (fun _ _ _ h => h) (Or.inl ⟨by rfl, by intro w; go_simp⟩) ?_
      refine wpAny_take (i := 1) (v := .pointer (some ⟨W.heap.size, 1, none⟩)) rfl (by kernel_rfl) (by kernel_rfl) (by kernel_rfl) (fun _ _ _ h => h) (Or.inl ⟨by rfl, by intro w; go_simp⟩) ?_
      refine wpAny_take (i := 3) (v := .int .u8 c.toNat) rfl (by kernel_rfl) (by kernel_rfl) (by kernel_rfl) (fun _ _ _ h => h) (Or.inl ⟨by rfl, by intro w; go_simp⟩) ?_
      refine wpAny_take (i := 4) (v := .int .u8 c.toNat) rfl (by kernel_rfl) (by kernel_rfl) (by kernel_rfl) (fun _ _ _ h => h) (Or.inl ⟨by rfl, by intro w; go_simp⟩) ?_
      refine wpAny_ready (rs := [2, 5]) (by kernel_rfl) (by simp) ?_
      refine AllReady.cons rfl (fun K hK => ?_) (AllReady.cons rfl (fun K hK => ?_) (AllReady.nil))
      · go_simp
        refine hK _ _ ?_
        clear hK K
        refine wpAny_ready (rs := [5]) (by kernel_rfl) (by simp) ?_
        refine AllReady.cons rfl (fun K hK => ?_) (AllReady.nil)
        · go_simp
          go_wp2_with fail
          refine (HIC.out _).mono ?_
          rintro e1 w1 ⟨rfl, rfl⟩
          refine hK _ _ ?_
          clear hK K
          refine wpAny_ready (rs := [6]) (by kernel_rfl) (by simp) ?_
          refine AllReady.cons rfl (fun K hK => ?_) (AllReady.nil)
          · go_simp
            refine hK _ _ ?_
            clear hK K
            refine wpAny_ready (rs := [7]) (by kernel_rfl) (by simp) ?_
            refine AllReady.cons rfl (fun K hK => ?_) (AllReady.nil)
            · go_simp
              go_wp2_with fail
              refine HIS.out.mono ?_
              intro e2 w2 hh
              rcases hh.split with ⟨rfl, hs⟩ | ⟨rfl, hs⟩
              · exact ⟨rfl, hs⟩
              refine hK _ _ ?_
              clear hK K
              refine wpAny_done (by kernel_rfl) ?_ _
              go_wp2
              go_end0
              exact hs
      · go_simp
        go_wp2_with fail
        refine (HIC.out _).mono ?_
        rintro e1 w1 ⟨rfl, rfl⟩
        refine hK _ _ ?_
        clear hK K
        refine wpAny_ready (rs := [2, 6]) (by kernel_rfl) (by simp) ?_
        refine AllReady.cons rfl (fun K hK => ?_) (AllReady.cons rfl (fun K hK => ?_) (AllReady.nil))
        · go_simp
          refine hK _ _ ?_
          clear hK K
          refine wpAny_ready (rs := [6]) (by kernel_rfl) (by simp) ?_
          refine AllReady.cons rfl (fun K hK => ?_) (AllReady.nil)
          · go_simp
            refine hK _ _ ?_
            clear hK K
            refine wpAny_ready (rs := [7]) (by kernel_rfl) (by simp) ?_
            refine AllReady.cons rfl (fun K hK => ?_) (AllReady.nil)
            · go_simp
              go_wp2_with fail
              refine HIS.out.mono ?_
              intro e2 w2 hh
              rcases hh.split with ⟨rfl, hs⟩ | ⟨rfl, hs⟩
              · exact ⟨rfl, hs⟩
              refine hK _ _ ?_
              clear hK K
              refine wpAny_done (by kernel_rfl) ?_ _
              go_wp2
              go_end0
              exact hs
        · go_simp
          refine hK _ _ ?_
          clear hK K
          refine wpAny_ready (rs := [2]) (by kernel_rfl) (by simp) ?_
          refine AllReady.cons rfl (fun K hK => ?_) (AllReady.nil)
          · go_simp
            refine hK _ _ ?_
            clear hK K
            refine wpAny_ready (rs := [7]) (by kernel_rfl) (by simp) ?_
            refine AllReady.cons rfl (fun K hK => ?_) (AllReady.nil)
            · go_simp
              go_wp2_with fail
              refine HIS.out.mono ?_
              intro e2 w2 hh
              rcases hh.split with ⟨rfl, hs⟩ | ⟨rfl, hs⟩
              · exact ⟨rfl, hs⟩
              refine hK _ _ ?_
              clear hK K
              refine wpAny_done (by kernel_rfl) ?_ _
              go_wp2
              go_end0
              exact hs
end Go.Proofs.Ytbcckfggnlmhoaa

namespace Go.Proofs.Ytbcckfggnlmhoaa
open Go Go.RowKit

def stepM (p : Pr) (l : List UInt8) (m : Mv) : Option (List UInt8) :=
  if m.kind = 1 then insPair p l m else if m.kind = 2 then delPair l m.pos else if m.kind = 3 then insRel p l m else if m.kind = 4 then delRel p l m else none

theorem methF_none (k : Int) (h1 : ¬ k = 1) (h2 : ¬ k = 2) (h3 : ¬ k = 3) (h4 : ¬ k = 4) : methF k = none := by
  unfold methF putF
  rw [if_neg h4, if_neg h3, if_neg h2, if_neg h1]

/-- Whatever the method, its contract. -/
theorem method_any {F : Gh} (w : World) (p : Pr) (R : Option Addr) (rc kb mb g cap : Nat) (l : List UInt8) (W : World) (h : WkAt F w p R rc kb mb g cap l W) (hp : presB p = true) (hr : RelsAt w R p.rels) (hl : l.length ≤ 100000) (m : Mv) :
    (∃ n, (n = 84 ∨ n = 85 ∨ n = 86 ∨ n = 87) ∧ methF m.kind = some (.func (.func n) #[] #[]) ∧ Calls Try.prog n #[.pointer (some ⟨kb, 0, none⟩), mvV m] W (StepP F w p R rc kb mb (stepM p l m))) ∨ (methF m.kind = none ∧ stepM p l m = none) := by
  by_cases h1 : m.kind = 1
  · refine .inl ⟨84, .inl rfl, by rw [h1]; rfl, ?_⟩
    have : stepM p l m = insPair p l m := if_pos h1
    rw [this]; exact insertPair_any w p R rc kb mb g cap l W h hp hl m
  by_cases h2 : m.kind = 2
  · refine .inl ⟨85, .inr (.inl rfl), by rw [h2]; rfl, ?_⟩
    have : stepM p l m = delPair l m.pos := by unfold stepM; rw [if_neg h1, if_pos h2]
    rw [this]; exact deletePair_any w p R rc kb mb g cap l W h hl m
  by_cases h3 : m.kind = 3
  · refine .inl ⟨86, .inr (.inr (.inl rfl)), by rw [h3]; rfl, ?_⟩
    have : stepM p l m = insRel p l m := by unfold stepM; rw [if_neg h1, if_neg h2, if_pos h3]
    rw [this]; exact insertRel_any w p R rc kb mb g cap l W h hp hr hl m
  by_cases h4 : m.kind = 4
  · refine .inl ⟨87, .inr (.inr (.inr rfl)), by rw [h4]; rfl, ?_⟩
    have : stepM p l m = delRel p l m := by unfold stepM; rw [if_neg h1, if_neg h2, if_neg h3, if_pos h4]
    rw [this]; exact deleteRel_any w p R rc kb mb g cap l W h hp hr hl m
  · exact .inr ⟨methF_none _ h1 h2 h3 h4, by unfold stepM; rw [if_neg h1, if_neg h2, if_neg h3, if_neg h4]⟩

set_option maxHeartbeats 4000000 in
set_option maxRecDepth 100000 in
theorem do_any {F : Gh} (w : World) (p : Pr) (R : Option Addr) (rc kb mb g cap : Nat) (l : List UInt8) (W : World) (h : WkAt F w p R rc kb mb g cap l W) (hp : presB p = true) (hr : RelsAt w R p.rels) (hl : l.length ≤ 100000) (m : Mv) (hmw : (Lit.int .i64 m.kind).wf = true) :
    Calls Try.prog 61 #[.pointer (some ⟨kb, 0, none⟩), mvV m] W (StepP F w p R rc kb mb (stepM p l m)) := by
  have HM := Lib.hid (fun X hX => method_any (F := F) w p R rc kb mb g cap l X hX hp hr hl m)
  generalize stepM p l m = r at *
  obtain ⟨mk, mp, ml, mr, ms, mi⟩ := m
  have HBX := Lib.hid (Boxd.start W #[.int .i64 mk, .int .i64 mp, .int .i64 ml, .int .i64 mr, .int .i64 ms, .bool mi] 52)
  have HK := Lib.hid (h.below (Boxd.start W #[.int .i64 mk, .int .i64 mp, .int .i64 ml, .int .i64 mr, .int .i64 ms, .bool mi] 52).old)
  clear h hp hr hl
  show Calls Try.prog 61 #[.pointer (some ⟨kb, 0, none⟩), .agg #[.int .i64 mk, .int .i64 mp, .int .i64 ml, .int .i64 mr, .int .i64 ms, .bool mi]] W (StepP F w p R rc kb mb r)
  go_enter Try.func61, Try.ntmps61
  go_wp2_with fail
  generalize W.alloc (.cells #[.int .i64 mk, .int .i64 mp, .int .i64 ml, .int .i64 mr, .int .i64 ms, .bool mi] 52) = w0 at *
  have hb0 : w0.cell? ⟨W.heap.size, 0, none⟩ = some (.int .i64 mk) := HBX.out.cell 0
  have hc3 : w0.cell? ⟨kb, 3, none⟩ = some (.map (some mb)) := HK.out.c3
  change (Lit.int .i64 mk).wf = true at hmw
  have hMD : ∀ q, WkAt F w p R rc kb mb g cap l (w0.drewN q) := fun q => HK.out.below ((Below.refl _ w0).drewN q)
  have HMD := Lib.hid hMD
  cases hf : methF mk with
  | some v =>
    have hlk := fun q => (hMD q).memo.look_some Try.underlying81 (z := .nilFunc) (by kernel_rfl) mk hmw hf
    have HC : Hid (∃ n, (n = 84 ∨ n = 85 ∨ n = 86 ∨ n = 87) ∧ v = .func (.func n) #[] #[] ∧ ∀ q, Calls Try.prog n #[.pointer (some ⟨kb, 0, none⟩), .agg #[.int .i64 mk, .int .i64 mp, .int .i64 ml, .int .i64 mr, .int .i64 ms, .bool mi]] (w0.drewN q) (StepP F w p R rc kb mb r)) := Lib.hid (by
      rcases HM.out (w0.drewN 0) (hMD 0) with ⟨n, hn, hf', _⟩ | ⟨hf', _⟩
      · refine ⟨n, hn, Option.some.inj (hf.symm.trans hf'), fun q => ?_⟩
        rcases HM.out (w0.drewN q) (hMD q) with ⟨n', _, hf2, hC⟩ | ⟨hf2, _⟩
        · have e1 := Option.some.inj (hf'.symm.trans hf2)
          have e2 : n = n' := by injection e1 with e1; injection e1
          rw [e2]; exact hC
        · rw [show methF mk = _ from hf2] at hf; cases hf
      · rw [show methF mk = _ from hf'] at hf; cases hf)
    obtain ⟨n, hn, rfl, hC⟩ := HC.out
    have HC2 := Lib.hid hC
    clear hf hMD hC HC
    rcases hn with rfl | rfl | rfl | rfl
    all_goals (
      go_quiet (fail)
      go_wp2_with fail
      refine (mustApply_yes _).mono ?_
      rintro e1 w1 ⟨rfl, rfl⟩
      have hb1 : w0.cell? ⟨W.heap.size, 1, none⟩ = some (.int .i64 mp) := HBX.out.cell 1
      have hb2 : w0.cell? ⟨W.heap.size, 2, none⟩ = some (.int .i64 ml) := HBX.out.cell 2
      have hb3 : w0.cell? ⟨W.heap.size, 3, none⟩ = some (.int .i64 mr) := HBX.out.cell 3
      have hb4 : w0.cell? ⟨W.heap.size, 4, none⟩ = some (.int .i64 ms) := HBX.out.cell 4
      have hb5 : w0.cell? ⟨W.heap.size, 5, none⟩ = some (.bool mi) := HBX.out.cell 5
      go_wp2_with fail
      refine (HC2.out _).mono ?_
      intro e2 w2 hh
      rcases hh.split with ⟨rfl, hs⟩ | ⟨rfl, hs⟩
      · exact ⟨rfl, hs⟩
      · have HZ := Lib.hid hs
        clear hs hh hlk
        go_wp2
        go_end0
        exact HZ.out)
  | none =>
    have hlk := fun q => (hMD q).memo.look_none Try.underlying81 (z := .nilFunc) (by kernel_rfl) mk hmw hf
    have HN : Hid (r = none) := Lib.hid (by
      rcases HM.out (w0.drewN 0) (hMD 0) with ⟨n, hn, hf', _⟩ | ⟨_, hn⟩
      · rw [show methF mk = _ from hf'] at hf; cases hf
      · exact hn)
    clear hf hMD
    go_quiet (fail)
    go_wp2_with fail
    refine (mustApply_no _).mono ?_
    rintro e1 w1 ⟨rfl, rfl⟩
    go_wp2
    refine ⟨rfl, ?_⟩
    rw [HN.out]
    exact ⟨rfl, (HMD.out _).old⟩
end Go.Proofs.Ytbcckfggnlmhoaa
