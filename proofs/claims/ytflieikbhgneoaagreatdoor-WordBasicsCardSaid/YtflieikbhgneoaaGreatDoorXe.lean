/-
  Our own text, in the proofs of the laws of package word (cayleylaw01). Proved here: the calls at the chapter's examples. Conditions: the arguments read as the row says and the listed tables lie as the program lays them; none other.
-/
import Derived.Test.YtflieikbhgneoaaGreatDoorXd
namespace Go.Proofs.YtflieikbhgneoaaGreatDoor
open Go Go.RowKit

/-- The tables lie; nothing of the first world has turned. -/
structure St (w0 w : World) : Prop where
  tabs : Tabs w
  below : Below w0.heap.size w0 w
theorem St.on {w0 w w' : World} (h : St w0 w) (hb : Below w.heap.size w w') : St w0 w' := ⟨h.tabs.on hb, h.below.trans (hb.mono h.below.size)⟩
theorem St.same {w0 w w' : World} (h : St w0 w) (e : w = w') : St w0 w' := e ▸ h
theorem St.drewN {w0 w : World} (h : St w0 w) (n : Nat) : St w0 (w.drewN n) := ⟨h.tabs.drewN n, h.below.drewN n⟩

variable (w0 w : World) (h : St w0 w)
include h
theorem s_cyc : Calls Tryz.prog 23 #[.string ⟨#[97, 98, 97, 66, 65]⟩] w fun e w' => e = .returned (.tuple #[.string ⟨#[97]⟩, .string ⟨#[97, 98]⟩]) ∧ St w0 w' := by
  refine (Cyclic_yes ⟨#[97, 98, 97, 66, 65]⟩ w h.tabs v_cyc.1 (by decide)).mono ?_
  rintro e w' ⟨rfl, hb⟩
  exact ⟨by rw [v_cyc.2.1, v_cyc.2.2], h.on hb⟩
theorem s_root1 : Calls Tryz.prog 24 #[.string ⟨#[98, 97, 97, 66]⟩] w fun e w' => e = .returned (.tuple #[.string ⟨#[98, 97, 66]⟩, .int .i64 2]) ∧ St w0 w' := by
  refine (Root_yes ⟨#[98, 97, 97, 66]⟩ w h.tabs v_root1.1).mono ?_
  rintro e w' ⟨rfl, hb⟩
  exact ⟨by rw [v_root1.2.1, v_root1.2.2]; rfl, h.on hb⟩
theorem s_root2 : Calls Tryz.prog 24 #[.string ⟨#[97, 98, 97, 98]⟩] w fun e w' => e = .returned (.tuple #[.string ⟨#[97, 98]⟩, .int .i64 2]) ∧ St w0 w' := by
  refine (Root_yes ⟨#[97, 98, 97, 98]⟩ w h.tabs v_root2.1).mono ?_
  rintro e w' ⟨rfl, hb⟩
  exact ⟨by rw [v_root2.2.1, v_root2.2.2]; rfl, h.on hb⟩
theorem s_pow : Calls Tryz.prog 28 #[.string ⟨#[97, 66]⟩, .int .i64 (-2)] w fun e w' => e = .returned (.tuple #[.string ⟨#[98, 65, 98, 65]⟩, .int .i64 0]) ∧ St w0 w' := by
  refine (Power_rest ⟨#[97, 66]⟩ (-2) w h.tabs v_pow.1 (by decide) v_pow.2.1).mono ?_
  rintro e w' ⟨rfl, hb⟩
  exact ⟨by rw [v_pow.2.2.1, v_pow.2.2.2], h.on hb⟩
theorem s_conj1 : Calls Tryz.prog 29 #[.string ⟨#[97, 98]⟩, .string ⟨#[98, 97]⟩] w fun e w' => e = .returned (.tuple #[.string ⟨#[66]⟩, .bool true]) ∧ St w0 w' := by
  refine (Conj_yes ⟨#[97, 98]⟩ ⟨#[98, 97]⟩ w h.tabs v_conj1.1 v_conj1.2.1 v_conj1.2.2.1).mono ?_
  rintro e w' ⟨rfl, hb⟩
  exact ⟨by rw [v_conj1.2.2.2], h.on hb⟩
theorem s_conj2 : Calls Tryz.prog 29 #[.string ⟨#[97]⟩, .string ⟨#[65]⟩] w fun e w' => e = .returned (.tuple #[.string ⟨#[]⟩, .bool false]) ∧ St w0 w' := by
  refine (Conj_no3 ⟨#[97]⟩ ⟨#[65]⟩ w h.tabs (by decide) (by decide) v_conj2.1 v_conj2.2.1 v_conj2.2.2).mono ?_
  rintro e w' ⟨rfl, hb⟩
  exact ⟨rfl, h.on hb⟩
theorem s_red1 : Calls Tryz.prog 15 #[.string ⟨#[97, 98, 66, 65, 98]⟩] w fun e w' => e = .returned (.string ⟨#[98]⟩) ∧ St w0 w' := by
  refine (Reduce_yes ⟨#[97, 98, 66, 65, 98]⟩ w h.tabs v_red1.1 (by decide)).mono ?_
  rintro e w' ⟨rfl, hb⟩
  exact ⟨by rw [v_red1.2], h.on hb⟩
theorem s_red2 : Calls Tryz.prog 15 #[.string ⟨#[97, 65, 97]⟩] w fun e w' => e = .returned (.string ⟨#[97]⟩) ∧ St w0 w' := by
  refine (Reduce_yes ⟨#[97, 65, 97]⟩ w h.tabs v_red2.1 (by decide)).mono ?_
  rintro e w' ⟨rfl, hb⟩
  exact ⟨by rw [v_red2.2], h.on hb⟩
theorem s_form1 : Calls Tryz.prog 25 #[.string ⟨#[98, 97, 98]⟩] w fun e w' => e = .returned (.string ⟨#[97, 98, 98]⟩) ∧ St w0 w' := by
  refine (Form_yes ⟨#[98, 97, 98]⟩ w h.tabs v_form1.1 (by decide)).mono ?_
  rintro e w' ⟨rfl, hb⟩
  exact ⟨by rw [v_form1.2], h.on hb⟩
theorem s_form2 : Calls Tryz.prog 25 #[.string ⟨#[65, 98, 97]⟩] w fun e w' => e = .returned (.string ⟨#[98]⟩) ∧ St w0 w' := by
  refine (Form_yes ⟨#[65, 98, 97]⟩ w h.tabs v_form2.1 (by decide)).mono ?_
  rintro e w' ⟨rfl, hb⟩
  exact ⟨by rw [v_form2.2], h.on hb⟩
theorem s_rinv : Calls Tryz.prog 14 #[.string ⟨#[66]⟩] w fun e w' => e = .returned (.string ⟨#[98]⟩) ∧ St w0 w' := by
  refine (rInverse_yes ⟨#[66]⟩ w v_inv1.1).mono ?_
  rintro e w' ⟨rfl, hb⟩
  exact ⟨by rw [v_inv1.2], h.on hb⟩
theorem s_rred : Calls Tryz.prog 16 #[.string ⟨#[66, 98, 97, 98]⟩] w fun e w' => e = .returned (.string ⟨#[97, 98]⟩) ∧ St w0 w' := by
  refine (rReduce_yes ⟨#[66, 98, 97, 98]⟩ w v_red3.1).mono ?_
  rintro e w' ⟨rfl, hb⟩
  exact ⟨by rw [v_red3.2], h.on hb⟩
theorem s_cmp1 : Calls Tryz.prog 17 #[.string ⟨#[98]⟩, .string ⟨#[97, 97]⟩] w fun e w' => e = .returned (.int .i64 (-1)) ∧ St w0 w' := by
  refine (Compare_any ⟨#[98]⟩ ⟨#[97, 97]⟩ w h.tabs (by decide) (by decide)).mono ?_
  rintro e w' ⟨rfl, n, rfl⟩
  exact ⟨by rw [v_cmp.1], h.drewN n⟩
theorem s_cmp2 : Calls Tryz.prog 17 #[.string ⟨#[65]⟩, .string ⟨#[98]⟩] w fun e w' => e = .returned (.int .i64 (-1)) ∧ St w0 w' := by
  refine (Compare_any ⟨#[65]⟩ ⟨#[98]⟩ w h.tabs (by decide) (by decide)).mono ?_
  rintro e w' ⟨rfl, n, rfl⟩
  exact ⟨by rw [v_cmp.2], h.drewN n⟩
theorem s_text : Calls Tryz.prog 19 #[.string ⟨#[97, 97, 66, 97]⟩] w fun e w' => e = .returned (.string ⟨#[97, 94, 50, 32, 66, 32, 97]⟩) ∧ St w0 w' := by
  refine (Text_yes ⟨#[97, 97, 66, 97]⟩ w h.tabs v_text.1).mono ?_
  rintro e w' ⟨rfl, hb⟩
  exact ⟨by rw [v_text.2], h.on hb⟩
theorem s_inv : Calls Tryz.prog 13 #[.string ⟨#[97, 66]⟩] w fun e w' => e = .returned (.string ⟨#[98, 65]⟩) ∧ St w0 w' := by
  refine (Inverse_yes ⟨#[97, 66]⟩ w h.tabs v_pow.1 (by decide)).mono ?_
  rintro e w' ⟨rfl, hb⟩
  exact ⟨by rw [v_inv2], h.on hb⟩
theorem s_idx : Calls Tryz.prog 9 #[.int .u8 66] w fun e w' => e = .returned (.int .i64 3) ∧ St w0 w' := by
  refine (index_any 66 w h.tabs).mono ?_
  rintro e w' ⟨rfl, hw⟩
  exact ⟨by rw [v_idx.1], h.same hw⟩
theorem s_let : Calls Tryz.prog 11 #[.int .i64 3] w fun e w' => e = .returned (.int .u8 66) ∧ St w0 w' := by
  refine (Letter_any 3 w h.tabs (by decide) (by decide)).mono ?_
  rintro e w' ⟨rfl, hw⟩
  exact ⟨by rw [v_idx.2.1]; rfl, h.same hw⟩
theorem s_chk : Calls Tryz.prog 7 #[.int .i64 2, .string ⟨#[97, 66]⟩] w fun e w' => e = .returned (.int .i64 0) ∧ St w0 w' := by
  refine (check_any 2 ⟨#[97, 66]⟩ w h.tabs (by decide)).mono ?_
  rintro e w' ⟨rfl, hw⟩
  exact ⟨by rw [v_idx.2.2], h.same hw⟩
theorem s_p1 : Calls Tryz.prog 33 #[.int .i64 2, .string ⟨#[40, 97, 98, 41, 94, 50, 32, 91, 97, 44, 98, 93, 94, 45, 49, 32, 49]⟩] w fun e w' => e = .returned (.tuple #[.string ⟨#[97, 98, 97, 98, 98, 97, 66, 65]⟩, .int .i64 0]) ∧ St w0 w' := by
  refine (parse_ok 2 [40, 97, 98, 41, 94, 50, 32, 91, 97, 44, 98, 93, 94, 45, 49, 32, 49] w h.tabs (by decide) (by decide) (by decide) 30 60 1 v_p1.1 (by decide) _ _ v_p1.2).mono ?_
  rintro e w' ⟨rfl, hb⟩
  exact ⟨rfl, h.on hb⟩
theorem s_p2 : Calls Tryz.prog 33 #[.int .i64 2, .string ⟨#[91, 97, 44, 98, 93]⟩] w fun e w' => e = .returned (.tuple #[.string ⟨#[97, 98, 65, 66]⟩, .int .i64 0]) ∧ St w0 w' := by
  refine (parse_ok 2 [91, 97, 44, 98, 93] w h.tabs (by decide) (by decide) (by decide) 30 60 1 v_p2.1 (by decide) _ _ v_p2.2).mono ?_
  rintro e w' ⟨rfl, hb⟩
  exact ⟨rfl, h.on hb⟩
theorem s_p3 : Calls Tryz.prog 33 #[.int .i64 1, .string ⟨#[98]⟩] w fun e w' => e = .returned (.tuple #[.string ⟨#[]⟩, .int .i64 4]) ∧ St w0 w' := by
  refine (parse_form 1 [98] w h.tabs (by decide) (by decide) (by decide) 30 v_p3).mono ?_
  rintro e w' ⟨rfl, hb⟩
  exact ⟨rfl, h.on hb⟩
theorem s_p4 : Calls Tryz.prog 33 #[.int .i64 2, .string ⟨#[97, 94]⟩] w fun e w' => e = .returned (.tuple #[.string ⟨#[]⟩, .int .i64 4]) ∧ St w0 w' := by
  refine (parse_form 2 [97, 94] w h.tabs (by decide) (by decide) (by decide) 30 v_p4).mono ?_
  rintro e w' ⟨rfl, hb⟩
  exact ⟨rfl, h.on hb⟩
theorem s_p5 : Calls Tryz.prog 33 #[.int .i64 2, .string ⟨#[97, 94, 57, 57, 57, 57, 57, 57]⟩] w fun e w' => e = .returned (.tuple #[.string ⟨#[]⟩, .int .i64 2]) ∧ St w0 w' := by
  refine (parse_lim 2 [97, 94, 57, 57, 57, 57, 57, 57] w h.tabs (by decide) (by decide) (by decide) 30 60 0 v_p5.1 (by decide) v_p5.2).mono ?_
  rintro e w' ⟨rfl, hb⟩
  exact ⟨rfl, h.on hb⟩
end Go.Proofs.YtflieikbhgneoaaGreatDoor
