/-
  Our own text, in the proofs of the laws of package word (cayleylaw01). Proved here: sane returns true. Conditions: the arguments read as the row says and the listed tables lie as the program lays them; none other.
-/
import Derived.Test.YtflieikbhgneoaaGreatDoorXe
namespace Go.Proofs.YtflieikbhgneoaaGreatDoor
open Go Go.RowKit

set_option maxHeartbeats 4000000 in
set_option maxRecDepth 100000 in
theorem sane_any (w : World) (ht : Tabs w) : Calls Tryz.prog 5 #[] w fun e w' => e = .returned (.bool true) ∧ Below w.heap.size w w' := by
  have h0 : St w w := ⟨ht, Below.refl _ w⟩
  clear ht
  go_enter Tryz.func5, Tryz.ntmps5
  go_wp2_with fail
  refine (s_cyc w _ h0).mono ?_; rintro e w1 ⟨rfl, h1⟩; clear h0
  go_wp2_with fail
  refine (s_root1 w _ h1).mono ?_; rintro e w2 ⟨rfl, h2⟩; clear h1
  go_wp2_with fail
  refine (s_root2 w _ h2).mono ?_; rintro e w3 ⟨rfl, h3⟩; clear h2
  go_wp2_with fail
  refine (s_pow w _ h3).mono ?_; rintro e w4 ⟨rfl, h4⟩; clear h3
  go_wp2_with fail
  refine (s_conj1 w _ h4).mono ?_; rintro e w5 ⟨rfl, h5⟩; clear h4
  go_wp2_with fail
  refine (s_conj2 w _ h5).mono ?_; rintro e w6 ⟨rfl, h6⟩; clear h5
  go_wp2_with fail
  refine (s_p1 w _ h6).mono ?_; rintro e w7 ⟨rfl, h7⟩; clear h6
  go_wp2_with fail
  refine (s_p2 w _ h7).mono ?_; rintro e w8 ⟨rfl, h8⟩; clear h7
  go_wp2_with fail
  refine (s_p3 w _ h8).mono ?_; rintro e w9 ⟨rfl, h9⟩; clear h8
  go_wp2_with fail
  refine (s_p4 w _ h9).mono ?_; rintro e w10 ⟨rfl, h10⟩; clear h9
  go_wp2_with fail
  refine (s_p5 w _ h10).mono ?_; rintro e w11 ⟨rfl, h11⟩; clear h10
  go_wp2_with fail
  refine (s_red1 w _ h11).mono ?_; rintro e w12 ⟨rfl, h12⟩; clear h11
  go_wp2_with fail
  refine (s_red2 w _ h12).mono ?_; rintro e w13 ⟨rfl, h13⟩; clear h12
  go_wp2_with fail
  refine (s_form1 w _ h13).mono ?_; rintro e w14 ⟨rfl, h14⟩; clear h13
  go_wp2_with fail
  refine (s_form2 w _ h14).mono ?_; rintro e w15 ⟨rfl, h15⟩; clear h14
  go_wp2_with fail
  refine (s_rinv w _ h15).mono ?_; rintro e w16 ⟨rfl, h16⟩; clear h15
  go_wp2_with fail
  refine (s_rred w _ h16).mono ?_; rintro e w17 ⟨rfl, h17⟩; clear h16
  go_wp2_with fail
  refine (s_cmp1 w _ h17).mono ?_; rintro e w18 ⟨rfl, h18⟩; clear h17
  go_wp2_with fail
  refine (s_cmp2 w _ h18).mono ?_; rintro e w19 ⟨rfl, h19⟩; clear h18
  go_wp2_with fail
  refine (s_text w _ h19).mono ?_; rintro e w20 ⟨rfl, h20⟩; clear h19
  go_wp2_with fail
  refine (s_inv w _ h20).mono ?_; rintro e w21 ⟨rfl, h21⟩; clear h20
  go_wp2_with fail
  refine (s_idx w _ h21).mono ?_; rintro e w22 ⟨rfl, h22⟩; clear h21
  go_wp2_with fail
  refine (s_let w _ h22).mono ?_; rintro e w23 ⟨rfl, h23⟩; clear h22
  go_wp2_with fail
  refine (s_chk w _ h23).mono ?_; rintro e w24 ⟨rfl, h24⟩; clear h23
  go_wp2
  go_ret
  exact ⟨rfl, h24.below⟩
end Go.Proofs.YtflieikbhgneoaaGreatDoor
