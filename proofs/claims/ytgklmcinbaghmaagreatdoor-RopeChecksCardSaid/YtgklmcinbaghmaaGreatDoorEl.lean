/-
  Our own text, in the proof of the law RopeChecks of package rope (cayleylaw02). Proved here: RopeChecks returns true, whatever the list. Conditions: the nodes lie in memory as the slice says; the listed table lies as the program lays it.
-/
import Derived.Test.YtgklmcinbaghmaaGreatDoorEk
namespace Go.Proofs.YtgklmcinbaghmaaGreatDoor
open Go Go.RowKit

/-- How the law goes on. -/
structure Sr (w0 : World) (A : Option Addr) (r : List Nd) (w : World) : Prop where
  tabs : Tabs w
  ra : RopeAt w A r
  below : Below w0.heap.size w0 w
theorem Sr.on {w0 : World} {A : Option Addr} {r : List Nd} {w w' : World} (h : Sr w0 A r w) (hb : Below w.heap.size w w') : Sr w0 A r w' :=
  ⟨h.tabs.on hb, h.ra.on hb, h.below.trans (hb.mono h.below.size)⟩

set_option maxHeartbeats 4000000 in
set_option maxRecDepth 100000 in
theorem checks_any (A : Option Addr) (r : List Nd) (cap : Nat) (w : World) (ht : Tabs w) (hr : RopeAt w A r) (hm : r.length ≤ maxLen) :
    Calls Tryz.prog 3 #[.slice A r.length cap] w fun e w' => e = .returned (.bool true) ∧ Below w.heap.size w w' := by
  have h0 : Sr w A r w := ⟨ht, hr, Below.refl _ _⟩
  have HM := Lib.hid hm
  obtain ⟨n, hn⟩ : ∃ n, lenI r = n := ⟨_, rfl⟩
  obtain ⟨f, hf⟩ : ∃ f, errI r = f := ⟨_, rfl⟩
  have HLN := Lib.hid (fun w0 w (h : Sr w0 A r w) => (Len_any A r cap w h.tabs h.ra hm).mono (fun e w' x => (show e = .returned (.tuple #[.int .i64 n, .int .i64 f]) ∧ Sr w0 A r w' from ⟨by rw [x.1, hn, hf], h.on x.2⟩)))
  have HRL := Lib.hid (fun w0 w (h : Sr w0 A r w) => (rLen_any A r cap w h.ra hm).mono (fun e w' x => (show e = .returned (.tuple #[.int .i64 n, .int .i64 f]) ∧ Sr w0 A r w' from ⟨by rw [x.1, hn, hf], h.on x.2⟩)))
  have HCK := Lib.hid (fun w0 w (h : Sr w0 A r w) => (Check_any A r cap w h.tabs h.ra hm).mono (fun e w' x => (show e = .returned (.int .i64 f) ∧ Sr w0 A r w' from ⟨by rw [x.1, hf], h.on x.2⟩)))
  have HRC := Lib.hid (fun w0 w (h : Sr w0 A r w) => (rCheck_any A r cap w h.ra hm).mono (fun e w' x => (show e = .returned (.int .i64 f) ∧ Sr w0 A r w' from ⟨by rw [x.1, hf], h.on x.2⟩)))
  have HSA := Lib.hid (fun w0 w (h : Sr w0 A r w) => (sane_any w h.tabs).mono (fun e w' x => (show e = .returned (.bool true) ∧ Sr w0 A r w' ∧ Below w.heap.size w w' from ⟨x.1, h.on x.2, x.2⟩)))
  have HSU := Lib.hid (fun w (h : Sr w A r w) => Sums_any A r cap w h.tabs h.ra hm)
  clear ht hr hm hn hf
  cases hl : lens r with
  | none =>
    have hS := fun w1 (h : Sr w A r w1) => (Sums_any A r cap w1 h.tabs h.ra HM.out).mono (fun e w' x => (show e = .returned (.tuple #[.slice none 0 0, .int .i64 20]) ∧ Sr w A r w' from ⟨(x.2 hl).1, h.on (x.2 hl).2⟩))
    have hR := fun w1 (h : Sr w A r w1) => (rSums_any A r cap w1 h.ra HM.out).mono (fun e w' x => (show e = .returned (.tuple #[.slice none 0 0, .int .i64 20]) ∧ Sr w A r w' from ⟨(x.2 hl).1, h.on (x.2 hl).2⟩))
    have HS := Lib.hid hS
    have HR := Lib.hid hR
    clear hS hR hl HSU
    go_enter Tryz.func3, Tryz.ntmps3
    go_wp2_with fail
    refine (HLN.out w w h0).mono ?_; rintro e w1 ⟨rfl, h1⟩; clear h0
    go_wp2_with fail
    refine (HRL.out w w1 h1).mono ?_; rintro e w2 ⟨rfl, h2⟩; clear h1
    go_wp2_with fail
    refine (HS.out w2 h2).mono ?_; rintro e w3 ⟨rfl, h3⟩; clear h2
    go_wp2_with fail
    refine (HR.out w3 h3).mono ?_; rintro e w4 ⟨rfl, h4⟩; clear h3
    go_wp2_with fail
    refine (HSA.out w w4 h4).mono ?_; rintro e w5 ⟨rfl, h5, _⟩; clear h4
    go_wp2_with fail
    refine (HCK.out w w5 h5).mono ?_; rintro e w6 ⟨rfl, h6⟩; clear h5
    go_wp2_with fail
    refine (HRC.out w w6 h6).mono ?_; rintro e w7 ⟨rfl, h7⟩; clear h6
    go_wp2_with fail
    refine (ints_nil w7).mono ?_; rintro e w8 ⟨rfl, hb8⟩
    go_wp2
    go_ret
    exact ⟨rfl, (h7.on hb8).below⟩
  | some L =>
    obtain ⟨S, hSS⟩ : ∃ S, sumW (wordOf r) = S := ⟨_, rfl⟩
    have hS8 : S.length = 8 := by rw [← hSS]; exact sumW_len _
    have hS := fun w1 (h : Sr w A r w1) => (Sums_any A r cap w1 h.tabs h.ra HM.out).mono (fun e w' x => (show ∃ g, e = .returned (.tuple #[.slice (some ⟨g, 0, none⟩) 8 8, .int .i64 0]) ∧ Blk w' g 55 (cellsS S) ∧ Sr w A r w' from by
      obtain ⟨g, q1, q2, q3⟩ := x.1 L hl
      rw [hSS] at q2
      exact ⟨g, q1, q2, h.on q3⟩))
    have hR := fun w1 (h : Sr w A r w1) => (rSums_any A r cap w1 h.ra HM.out).mono (fun e w' x => (show ∃ g, e = .returned (.tuple #[.slice (some ⟨g, 0, none⟩) 8 8, .int .i64 0]) ∧ Blk w' g 3 (cellsS S) ∧ Sr w A r w' ∧ Below w1.heap.size w1 w' from by
      obtain ⟨g, q1, q2, q3⟩ := x.1 L hl
      rw [hSS] at q2
      exact ⟨g, q1, q2, h.on q3, q3⟩))
    have HS := Lib.hid hS
    have HR := Lib.hid hR
    have H8 := Lib.hid hS8
    clear hS hR hl HSU hSS hS8
    have HCK2 := Lib.hid (fun w1 (h : Sr w A r w1) => (Check_any A r cap w1 h.tabs h.ra HM.out).mono (fun e w' x => (show e = .returned (.int .i64 (errI r)) ∧ Sr w A r w' ∧ Below w1.heap.size w1 w' from ⟨x.1, h.on x.2, x.2⟩)))
    have HRC2 := Lib.hid (fun w1 (h : Sr w A r w1) => (rCheck_any A r cap w1 h.ra HM.out).mono (fun e w' x => (show e = .returned (.int .i64 (errI r)) ∧ Sr w A r w' ∧ Below w1.heap.size w1 w' from ⟨x.1, h.on x.2, x.2⟩)))
    generalize errI r = f2 at *
    go_enter Tryz.func3, Tryz.ntmps3
    go_wp2_with fail
    refine (HLN.out w w h0).mono ?_; rintro e w1 ⟨rfl, h1⟩; clear h0
    go_wp2_with fail
    refine (HRL.out w w1 h1).mono ?_; rintro e w2 ⟨rfl, h2⟩; clear h1
    go_wp2_with fail
    refine (HS.out w2 h2).mono ?_; rintro e w3 ⟨g1, rfl, b1, h3⟩; clear h2
    go_wp2_with fail
    refine (HR.out w3 h3).mono ?_; rintro e w4 ⟨g2, rfl, b2, h4, k4⟩; clear h3
    have d4 := Lib.hid (b1.below k4 b1.lt)
    have e4 := Lib.hid b2
    clear b1 b2 k4
    go_wp2_with fail
    refine (HSA.out w w4 h4).mono ?_; rintro e w5 ⟨rfl, h5, k5⟩; clear h4
    have d5 := Lib.hid (d4.out.below k5 d4.out.lt)
    have e5 := Lib.hid (e4.out.below k5 e4.out.lt)
    clear k5
    go_wp2_with fail
    refine (HCK2.out w5 h5).mono ?_; rintro e w6 ⟨rfl, h6, k6⟩; clear h5
    have d6 := Lib.hid (d5.out.below k6 d5.out.lt)
    have e6 := Lib.hid (e5.out.below k6 e5.out.lt)
    clear k6
    go_wp2_with fail
    refine (HRC2.out w6 h6).mono ?_; rintro e w7 ⟨rfl, h7, k7⟩; clear h6
    have d7 := Lib.hid (d6.out.below k7 d6.out.lt)
    have e7 := Lib.hid (e6.out.below k7 e6.out.lt)
    clear k7
    go_wp2_with fail
    refine (ints_same g1 g2 55 3 S H8.out w7 d7.out e7.out).mono ?_; rintro e w8 ⟨rfl, hb8⟩
    go_wp2
    go_ret
    exact ⟨rfl, (h7.on hb8).below⟩
end Go.Proofs.YtgklmcinbaghmaaGreatDoor
