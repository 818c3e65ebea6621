/-
  Our own text, in the proofs of the laws of package rope. Proved here: sane returns true. Conditions: the listed table lies as the program lays it; none other.
-/
import Derived.Test.YtgklmcinbaghmaaGreatDoorRy
namespace Go.Proofs.YtgklmcinbaghmaaGreatDoor
open Go Go.RowKit

set_option maxHeartbeats 4000000 in
set_option maxRecDepth 100000 in
theorem sane_any (w : World) (ht : Tabs w) : Calls Tryz.prog 12 #[] w fun e w' => e = .returned (.bool true) ∧ Below w.heap.size w w' := by
  have HT := Lib.hid ht
  clear ht
  go_enter Tryz.func12, Tryz.ntmps12
  go_wp2_with fail
  refine (example_any w).mono ?_; rintro e w1 ⟨rfl, hr, hb⟩
  have h1 : Sn w (some ⟨w.heap.size, 0, none⟩) w1 := ⟨HT.out.on hb, hr, hb⟩
  clear hr hb
  go_wp2_with fail
  refine (n_len w _ _ h1).mono ?_; rintro e w2 ⟨rfl, h2⟩; clear h1
  go_wp2_with fail
  refine (n_word w _ _ h2).mono ?_; rintro e w3 ⟨rfl, h3⟩; clear h2
  go_wp2_with fail
  refine (n_at5 w _ _ h3).mono ?_; rintro e w4 ⟨rfl, h4⟩; clear h3
  go_wp2_with fail
  refine (n_at8 w _ _ h4).mono ?_; rintro e w5 ⟨rfl, h5⟩; clear h4
  go_wp2_with fail
  refine (n_inv w _ _ h5).mono ?_; rintro e w6 ⟨A1, c1, rfl, hr, h6⟩; clear h5
  go_wp2_with fail
  refine (n_wordI w _ _ _ _ h6 hr).mono ?_; rintro e w7 ⟨rfl, h7⟩; clear h6 hr
  go_wp2_with fail
  refine (n_pow w _ _ h7).mono ?_; rintro e w8 ⟨A2, c2, rfl, hr, h8⟩; clear h7
  go_wp2_with fail
  refine (n_lenP w _ _ _ _ h8 hr).mono ?_; rintro e w9 ⟨rfl, h9⟩; clear h8 hr
  go_wp2_with fail
  refine (n_over w _ _ h9).mono ?_; rintro e w10 ⟨v, rfl, h10⟩; clear h9
  go_wp2_with fail
  refine (n_dif w _ _ h10).mono ?_; rintro e w11 ⟨rfl, h11⟩; clear h10
  go_wp2_with fail
  refine (n_same w _ _ h11).mono ?_; rintro e w12 ⟨rfl, h12⟩; clear h11
  go_wp2_with fail
  refine (n_bad w _ _ h12).mono ?_; rintro e w13 ⟨rfl, h13⟩; clear h12
  go_wp2
  go_ret
  exact ⟨rfl, h13.below⟩
end Go.Proofs.YtgklmcinbaghmaaGreatDoor
