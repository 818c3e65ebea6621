/-
  Our own text, in the proofs of the laws of package disk (cayleylaw04). Proved here: the walk's methods deletePair. Conditions: the walk lies in memory as newWalk leaves it; the presentation is valid.
-/
import Derived.Test.YtbcckfggnlmhoaaIi
namespace Go.Proofs.Ytbcckfggnlmhoaa
open Go Go.RowKit

def insPair (p : Pr) (l : List UInt8) (m : Mv) : Option (List UInt8) := if 0 ≤ m.letter ∧ m.letter < 2 * p.k then insAt l m.pos [ltr m.letter.toNat, invc (ltr m.letter.toNat)] else none
def delPair (l : List UInt8) (i : Int) : Option (List UInt8) := if 0 ≤ i ∧ i ≤ (l.length : Int) - 2 ∧ l.getD (i.toNat + 1) 0 = invc (l.getD i.toNat 0) then some (l.take i.toNat ++ l.drop (i.toNat + 2)) else none

set_option maxHeartbeats 4000000 in
set_option maxRecDepth 100000 in
theorem deletePair_any (w : World) (p : Pr) (R : Option Addr) (rc kb mb g cap : Nat) (l : List UInt8) (W : World) (h : WkAt w p R rc kb mb g cap l W) (hl : l.length ≤ 100000) (m : Mv) :
    Calls Try.prog 85 #[.pointer (some ⟨kb, 0, none⟩), mvV m] W (StepP w p R rc kb mb (delPair l m.pos)) := by
  obtain ⟨mk, mp, ml, mr, ms, mi⟩ := m
  have HBX := Lib.hid (Boxd.start W #[.int .i64 mk, .int .i64 mp, .int .i64 ml, .int .i64 mr, .int .i64 ms, .bool mi] 52)
  have HK := Lib.hid (h.below (Boxd.start W #[.int .i64 mk, .int .i64 mp, .int .i64 ml, .int .i64 mr, .int .i64 ms, .bool mi] 52).old)
  clear h
  show Calls Try.prog 85 #[.pointer (some ⟨kb, 0, none⟩), .agg #[.int .i64 mk, .int .i64 mp, .int .i64 ml, .int .i64 mr, .int .i64 ms, .bool mi]] W (StepP w p R rc kb mb (delPair l mp))
  have hb1 : (W.alloc (.cells #[.int .i64 mk, .int .i64 mp, .int .i64 ml, .int .i64 mr, .int .i64 ms, .bool mi] 52)).cell? ⟨W.heap.size, 1, none⟩ = some (.int .i64 mp) := HBX.out.cell 1
  have hP := part_any w p R rc kb mb g cap l _ HK.out mp 2 (by decide) hl (by decide)
  have HDT : Hid (0 ≤ mp ∧ mp ≤ (l.length : Int) - 2 ∧ l.getD (mp.toNat + 1) 0 = invc (l.getD mp.toNat 0) → delPair l mp = some (l.take mp.toNat ++ l.drop (mp.toNat + 2))) := Lib.hid (fun h => if_pos h)
  have HDF : Hid (¬ (0 ≤ mp ∧ mp ≤ (l.length : Int) - 2 ∧ l.getD (mp.toNat + 1) 0 = invc (l.getD mp.toNat 0)) → delPair l mp = none) := Lib.hid (fun h => if_neg h)
  generalize delPair l mp = r at *
  by_cases hpos : 0 ≤ mp ∧ mp ≤ (l.length : Int) - 2
  case neg =>
    have HN := Lib.hid (HDF.out (fun h => hpos ⟨h.1, h.2.1⟩))
    have hP2 : Calls Try.prog 97 #[.pointer (some ⟨kb, 0, none⟩), .int .i64 mp, .int .i64 2] (W.alloc (.cells #[.int .i64 mk, .int .i64 mp, .int .i64 ml, .int .i64 mr, .int .i64 ms, .bool mi] 52)) fun e w' => e = .panicked pan ∧ W.alloc (.cells #[.int .i64 mk, .int .i64 mp, .int .i64 ml, .int .i64 mr, .int .i64 ms, .bool mi] 52) = w' := hP.mono (by
      rintro e2 w2 ⟨hw, hh⟩
      rcases hh with ⟨h0, h1, _⟩ | ⟨_, he⟩
      · exact absurd ⟨h0, h1⟩ hpos
      · exact ⟨he, hw⟩)
    clear hP hpos
    go_enter Try.func85, Try.ntmps85
    go_wp2_with fail
    refine hP2.mono ?_
    rintro e2 w2 ⟨rfl, rfl⟩
    clear hP2
    go_wp2
    refine ⟨rfl, ?_⟩
    rw [HN.out]
    exact ⟨rfl, HK.out.old⟩
  case pos =>
    obtain ⟨h0, h1⟩ := hpos
    have HP0 := Lib.hid (And.intro h0 h1)
    obtain ⟨k, rfl⟩ := Int.eq_ofNat_of_zero_le h0
    have hk : k + 2 ≤ l.length := by omega
    have hP2 : Calls Try.prog 97 #[.pointer (some ⟨kb, 0, none⟩), .int .i64 (k : Int), .int .i64 2] (W.alloc (.cells #[.int .i64 mk, .int .i64 (k : Int), .int .i64 ml, .int .i64 mr, .int .i64 ms, .bool mi] 52)) fun e w' => e = .returned (.slice (some ⟨g, k, none⟩) 2 (cap - k)) ∧ W.alloc (.cells #[.int .i64 mk, .int .i64 (k : Int), .int .i64 ml, .int .i64 mr, .int .i64 ms, .bool mi] 52) = w' := hP.mono (by
      rintro e2 w2 ⟨hw, hh⟩
      rcases hh with ⟨_, _, he⟩ | ⟨hno, _⟩
      · exact ⟨he, hw⟩
      · exact absurd ⟨h0, h1⟩ hno)
    obtain ⟨x, hx⟩ : ∃ x, l.getD k 0 = x := ⟨_, rfl⟩
    obtain ⟨y, hy⟩ : ∃ y, l.getD (k + 1) 0 = y := ⟨_, rfl⟩
    have hcx : (W.alloc (.cells #[.int .i64 mk, .int .i64 (k : Int), .int .i64 ml, .int .i64 mr, .int .i64 ms, .bool mi] 52)).cell? ⟨g, k, none⟩ = some (.int .u8 x.toNat) := HK.out.word.get k _ (by rw [bs_get l k (by omega), ← hx]; simp [List.getD, show k < l.length by omega])
    have hcy : (W.alloc (.cells #[.int .i64 mk, .int .i64 (k : Int), .int .i64 ml, .int .i64 mr, .int .i64 ms, .bool mi] 52)).cell? ⟨g, k + 1, none⟩ = some (.int .u8 y.toNat) := HK.out.word.get (k + 1) _ (by rw [bs_get l (k + 1) (by omega), ← hy]; simp [List.getD, show k + 1 < l.length by omega])
    simp only [Int.toNat_natCast] at HDT HDF
    have HD := Lib.hid (fun X hX => remove_any w p R rc kb mb g cap l X hX k 2 hk hl)
    have HIC := Lib.hid (fun X => inverseLetter_any x X)
    have hE := eq_nat_bool y (invc x)
    have hE2 := eq_nat_bool' y (invc x)
    have hi0 : (0 : Int) ≤ 1 := by decide
    clear hP h0 h1
    by_cases hq : y = invc x
    · have HS := Lib.hid (HDT.out ⟨HP0.out.1, HP0.out.2, by rw [hx, hy]; exact hq⟩)
      rw [decide_eq_true hq] at hE hE2
      clear hq hx hy
      go_enter Try.func85, Try.ntmps85
      go_wp2_with fail
      refine hP2.mono ?_
      rintro e2 w2 ⟨rfl, rfl⟩
      clear hP2
      go_wp2_with fail
      generalize W.alloc (.cells #[.int .i64 mk, .int .i64 (k : Int), .int .i64 ml, .int .i64 mr, .int .i64 ms, .bool mi] 52) = w0 at *
      refine wp_region_any (by kernel_rfl) ?_
      change wpAny _ _ _ _ _ _ _ w0.drew
      refine wpAny_take (i := 0) (v := .slice (some ⟨g, k, none⟩) 2 (cap - k)) rfl (by kernel_rfl) (by kernel_rfl) (by kernel_rfl) (fun _ _ _ h => h) (Or.inl ⟨by rfl, by intro w; go_simp⟩) ?_
      refine wpAny_take (i := 1) (v := .pointer (some ⟨g, k + 1, none⟩)) rfl (by kernel_rfl) (by kernel_rfl) (by kernel_rfl) (fun _ _ _ h => h) (Or.inl ⟨by rfl, by intro w; go_simp⟩) ?_
      refine wpAny_take (i := 3) (v := .slice (some ⟨g, k, none⟩) 2 (cap - k)) rfl (by kernel_rfl) (by kernel_rfl) (by kernel_rfl) (fun _ _ _ h => h) (Or.inl ⟨by rfl, by intro w; go_simp⟩) ?_
      refine wpAny_take (i := 4) (v := .pointer (some ⟨g, k, none⟩)) rfl (by kernel_rfl) (by kernel_rfl) (by kernel_rfl) (fun _ _ _ h => h) (Or.inl ⟨by rfl, by intro w; go_simp⟩) ?_
      refine wpAny_ready (rs := [2, 5]) (by kernel_rfl) (by simp) ?_
      refine AllReady.cons rfl (fun K hK => ?_) (AllReady.cons rfl (fun K hK => ?_) (AllReady.nil))
      · go_simp
        refine hK _ _ ?_
        clear hK K
        refine wpAny_ready (rs := [5]) (by kernel_rfl) (by simp) ?_
        refine AllReady.cons rfl (fun K hK => ?_) (AllReady.nil)
        · go_simp
          refine hK _ _ ?_
          clear hK K
          refine wpAny_ready (rs := [6]) (by kernel_rfl) (by simp) ?_
          refine AllReady.cons rfl (fun K hK => ?_) (AllReady.nil)
          · go_simp
            go_wp2_with fail
            refine (HIC.out _).mono ?_
            rintro e1 w1 ⟨rfl, rfl⟩
            refine hK _ _ ?_
            clear hK K
            refine wpAny_ready (rs := [7]) (by kernel_rfl) (by simp) ?_
            refine AllReady.cons rfl (fun K hK => ?_) (AllReady.nil)
            · go_simp
              refine hK _ _ ?_
              clear hK K
              refine wpAny_ready (rs := [8]) (by kernel_rfl) (by simp) ?_
              refine AllReady.cons rfl (fun K hK => ?_) (AllReady.nil)
              · go_simp
                go_wp2_with fail
                refine (mustApply_yes _).mono ?_
                rintro e2 w2 ⟨rfl, rfl⟩
                refine hK _ _ ?_
                clear hK K
                refine wpAny_done (by kernel_rfl) ?_ _
                have HD1 := Lib.hid (HD.out _ (HK.out.below ((Below.refl _ w0).drewN 1)))
                rw [← HS.out] at HD1
                go_wp2_with fail
                refine HD1.out.mono ?_
                intro e5 w5 hh
                rcases hh.split with ⟨rfl, hs⟩ | ⟨rfl, hs⟩
                · exact ⟨rfl, hs⟩
                · have HZ := Lib.hid hs
                  clear hs hh
                  go_wp2
                  go_end0
                  exact HZ.out
      · go_simp
        refine hK _ _ ?_
        clear hK K
        refine wpAny_ready (rs := [2, 6]) (by kernel_rfl) (by simp) ?_
        refine AllReady.cons rfl (fun K hK => ?_) (AllReady.cons rfl (fun K hK => ?_) (AllReady.nil))
        · go_simp
          refine hK _ _ ?_
          clear hK K
          refine wpAny_ready (rs := [6]) (by kernel_rfl) (by simp) ?_
          refine AllReady.cons rfl (fun K hK => ?_) (AllReady.nil)
          · go_simp
            go_wp2_with fail
            refine (HIC.out _).mono ?_
            rintro e1 w1 ⟨rfl, rfl⟩
            refine hK _ _ ?_
            clear hK K
            refine wpAny_ready (rs := [7]) (by kernel_rfl) (by simp) ?_
            refine AllReady.cons rfl (fun K hK => ?_) (AllReady.nil)
            · go_simp
              refine hK _ _ ?_
              clear hK K
              refine wpAny_ready (rs := [8]) (by kernel_rfl) (by simp) ?_
              refine AllReady.cons rfl (fun K hK => ?_) (AllReady.nil)
              · go_simp
                go_wp2_with fail
                refine (mustApply_yes _).mono ?_
                rintro e2 w2 ⟨rfl, rfl⟩
                refine hK _ _ ?_
                clear hK K
                refine wpAny_done (by kernel_rfl) ?_ _
                have HD1 := Lib.hid (HD.out _ (HK.out.below ((Below.refl _ w0).drewN 1)))
                rw [← HS.out] at HD1
                go_wp2_with fail
                refine HD1.out.mono ?_
                intro e5 w5 hh
                rcases hh.split with ⟨rfl, hs⟩ | ⟨rfl, hs⟩
                · exact ⟨rfl, hs⟩
                · have HZ := Lib.hid hs
                  clear hs hh
                  go_wp2
                  go_end0
                  exact HZ.out
        · go_simp
          go_wp2_with fail
          refine (HIC.out _).mono ?_
          rintro e1 w1 ⟨rfl, rfl⟩
          refine hK _ _ ?_
          clear hK K
          refine wpAny_ready (rs := [2]) (by kernel_rfl) (by simp) ?_
          refine AllReady.cons rfl (fun K hK => ?_) (AllReady.nil)
          · go_simp
            refine hK _ _ ?_
            clear hK K
            refine wpAny_ready (rs := [7]) (by kernel_rfl) (by simp) ?_
            refine AllReady.cons rfl (fun K hK => ?_) (AllReady.nil)
            · go_simp
              refine hK _ _ ?_
              clear hK K
              refine wpAny_ready (rs := [8]) (by kernel_rfl) (by simp) ?_
              refine AllReady.cons rfl (fun K hK => ?_) (AllReady.nil)
              · go_simp
                go_wp2_with fail
                refine (mustApply_yes _).mono ?_
                rintro e2 w2 ⟨rfl, rfl⟩
                refine hK _ _ ?_
                clear hK K
                refine wpAny_done (by kernel_rfl) ?_ _
                have HD1 := Lib.hid (HD.out _ (HK.out.below ((Below.refl _ w0).drewN 1)))
                rw [← HS.out] at HD1
                go_wp2_with fail
                refine HD1.out.mono ?_
                intro e5 w5 hh
                rcases hh.split with ⟨rfl, hs⟩ | ⟨rfl, hs⟩
                · exact ⟨rfl, hs⟩
                · have HZ := Lib.hid hs
                  clear hs hh
                  go_wp2
                  go_end0
                  exact HZ.out
    · have HS := Lib.hid (HDF.out (fun h => hq (by have := h.2.2; rwa [hx, hy] at this)))
      rw [decide_eq_false hq] at hE hE2
      clear hq hx hy
      go_enter Try.func85, Try.ntmps85
      go_wp2_with fail
      refine hP2.mono ?_
      rintro e2 w2 ⟨rfl, rfl⟩
      clear hP2
      go_wp2_with fail
      generalize W.alloc (.cells #[.int .i64 mk, .int .i64 (k : Int), .int .i64 ml, .int .i64 mr, .int .i64 ms, .bool mi] 52) = w0 at *
      have HPAN : Hid (StepP w p R rc kb mb r (.panicked pan) w0.drew) := Lib.hid (by rw [HS.out]; exact ⟨rfl, HK.out.old.drewN 1⟩)
      refine wp_region_any (by kernel_rfl) ?_
      change wpAny _ _ _ _ _ _ _ w0.drew
      refine wpAny_take (i := 0) (v := .slice (some ⟨g, k, none⟩) 2 (cap - k)) rfl (by kernel_rfl) (by kernel_rfl) (by kernel_rfl) (fun _ _ _ h => h) (Or.inl ⟨by rfl, by intro w; go_simp⟩) ?_
      refine wpAny_take (i := 1) (v := .pointer (some ⟨g, k + 1, none⟩)) rfl (by kernel_rfl) (by kernel_rfl) (by kernel_rfl) (fun _ _ _ h => h) (Or.inl ⟨by rfl, by intro w; go_simp⟩) ?_
      refine wpAny_take (i := 3) (v := .slice (some ⟨g, k, none⟩) 2 (cap - k)) rfl (by kernel_rfl) (by kernel_rfl) (by kernel_rfl) (fun _ _ _ h => h) (Or.inl ⟨by rfl, by intro w; go_simp⟩) ?_
      refine wpAny_take (i := 4) (v := .pointer (some ⟨g, k, none⟩)) rfl (by kernel_rfl) (by kernel_rfl) (by kernel_rfl) (fun _ _ _ h => h) (Or.inl ⟨by rfl, by intro w; go_simp⟩) ?_
      refine wpAny_ready (rs := [2, 5]) (by kernel_rfl) (by simp) ?_
      refine AllReady.cons rfl (fun K hK => ?_) (AllReady.cons rfl (fun K hK => ?_) (AllReady.nil))
      · go_simp
        refine hK _ _ ?_
        clear hK K
        refine wpAny_ready (rs := [5]) (by kernel_rfl) (by simp) ?_
        refine AllReady.cons rfl (fun K hK => ?_) (AllReady.nil)
        · go_simp
          refine hK _ _ ?_
          clear hK K
          refine wpAny_ready (rs := [6]) (by kernel_rfl) (by simp) ?_
          refine AllReady.cons rfl (fun K hK => ?_) (AllReady.nil)
          · go_simp
            go_wp2_with fail
            refine (HIC.out _).mono ?_
            rintro e1 w1 ⟨rfl, rfl⟩
            refine hK _ _ ?_
            clear hK K
            refine wpAny_ready (rs := [7]) (by kernel_rfl) (by simp) ?_
            refine AllReady.cons rfl (fun K hK => ?_) (AllReady.nil)
            · go_simp
              refine hK _ _ ?_
              clear hK K
              refine wpAny_ready (rs := [8]) (by kernel_rfl) (by simp) ?_
              refine AllReady.cons rfl (fun K hK => ?_) (AllReady.nil)
              · go_simp
                go_wp2_with fail
                refine (mustApply_no _).mono ?_
                rintro e2 w2 ⟨rfl, rfl⟩
                exact ⟨rfl, HPAN.out⟩
      · go_simp
        refine hK _ _ ?_
        clear hK K
        refine wpAny_ready (rs := [2, 6]) (by kernel_rfl) (by simp) ?_
        refine AllReady.cons rfl (fun K hK => ?_) (AllReady.cons rfl (fun K hK => ?_) (AllReady.nil))
        · go_simp
          refine hK _ _ ?_
          clear hK K
          refine wpAny_ready (rs := [6]) (by kernel_rfl) (by simp) ?_
          refine AllReady.cons rfl (fun K hK => ?_) (AllReady.nil)
          · go_simp
            go_wp2_with fail
            refine (HIC.out _).mono ?_
            rintro e1 w1 ⟨rfl, rfl⟩
            refine hK _ _ ?_
            clear hK K
            refine wpAny_ready (rs := [7]) (by kernel_rfl) (by simp) ?_
            refine AllReady.cons rfl (fun K hK => ?_) (AllReady.nil)
            · go_simp
              refine hK _ _ ?_
              clear hK K
              refine wpAny_ready (rs := [8]) (by kernel_rfl) (by simp) ?_
              refine AllReady.cons rfl (fun K hK => ?_) (AllReady.nil)
              · go_simp
                go_wp2_with fail
                refine (mustApply_no _).mono ?_
                rintro e2 w2 ⟨rfl, rfl⟩
                exact ⟨rfl, HPAN.out⟩
        · go_simp
          go_wp2_with fail
          refine (HIC.out _).mono ?_
          rintro e1 w1 ⟨rfl, rfl⟩
          refine hK _ _ ?_
          clear hK K
          refine wpAny_ready (rs := [2]) (by kernel_rfl) (by simp) ?_
          refine AllReady.cons rfl (fun K hK => ?_) (AllReady.nil)
          · go_simp
            refine hK _ _ ?_
            clear hK K
            refine wpAny_ready (rs := [7]) (by kernel_rfl) (by simp) ?_
            refine AllReady.cons rfl (fun K hK => ?_) (AllReady.nil)
            · go_simp
              refine hK _ _ ?_
              clear hK K
              refine wpAny_ready (rs := [8]) (by kernel_rfl) (by simp) ?_
              refine AllReady.cons rfl (fun K hK => ?_) (AllReady.nil)
              · go_simp
                go_wp2_with fail
                refine (mustApply_no _).mono ?_
                rintro e2 w2 ⟨rfl, rfl⟩
                exact ⟨rfl, HPAN.out⟩
end Go.Proofs.Ytbcckfggnlmhoaa
