/-
  Our own text, in the proof of the law DiskFromMoves of package disk (cayleylaw04). Proved here: DiskFromMoves returns true at every presentation, word and moves. Conditions: the arguments lie in memory as the slices say.
-/
import Derived.Test.YtbcckfggnlmhoaaLg
import Derived.Test.YtbcckfggnlmhoaaBc
namespace Go.Proofs.Ytbcckfggnlmhoaa
open Go Go.RowKit

/-- How Apply and FromMoves answer together. -/
theorem both_cases (p : Pr) (l : List UInt8) (ms : List Mv) : (apE p l ms ≠ 0 ∧ fmE p l ms = apE p l ms ∧ fmL p l ms = []) ∨ (apE p l ms = 0 ∧ fmE p l ms = 2 ∧ fmL p l ms = []) ∨
    (apE p l ms = 0 ∧ fmE p l ms = 0 ∧ ∃ x ds, runC p l ms = some (x, ds) ∧ apV p l ms = x ∧ fmL p l ms = ds ∧ presB p = true ∧ isWd p.k l = true ∧ CInv p l (x, ds) ∧ ds.length = cntM ms ∧ diskB p ds = true) := by
  by_cases hk : appI p l ms.length = 0
  · have hchk : chk p [l] [] = 0 := by
      unfold appI at hk; split at hk; assumption; exact absurd hk ‹_›
    have hms : ms.length ≤ 100000 := by
      unfold appI at hk; rw [if_pos hchk] at hk; split at hk; assumption; cases hk
    obtain ⟨hp, hw, _⟩ := chk_ok hchk
    simp only [List.all_cons, List.all_nil, Bool.and_true] at hw
    have e1 : apE p l ms = if (runM p l ms).isSome then 0 else 43 := if_pos hk
    have e2 : apV p l ms = (runM p l ms).getD [] := if_pos hk
    have e3 : fmE p l ms = (match runC p l ms with | some s => if conjs s.2 ≤ 1000000 then 0 else 2 | none => 43) := if_pos hk
    have e4 : fmL p l ms = (match runC p l ms with | some s => if conjs s.2 ≤ 1000000 then s.2 else [] | none => []) := if_pos hk
    rw [← runC_fst] at e1 e2
    cases hc : runC p l ms with
    | none =>
      rw [hc] at e1 e2 e3 e4
      refine .inl ⟨by rw [e1]; simp, by rw [e1, e3]; rfl, e4⟩
    | some s =>
      obtain ⟨x, ds⟩ := s
      rw [hc] at e1 e2 e3 e4
      simp only at e3 e4
      have hi := runC_inv hp hw hc
      have hn := runC_cnt hc
      by_cases hcj : conjs ds ≤ 1000000
      · rw [if_pos hcj] at e3 e4
        refine .inr (.inr ⟨e1, e3, x, ds, rfl, e2, e4, hp, hw, hi, hn, ?_⟩)
        have hle := cntM_le ms
        exact diskB_good (by simp only at hn; omega) hcj (List.all_eq_true.2 hi.cells)
      · rw [if_neg hcj] at e3 e4
        exact .inr (.inl ⟨e1, e3, e4⟩)
  · have e1 : apE p l ms = appI p l ms.length := if_neg hk
    have e2 : fmE p l ms = appI p l ms.length := if_neg hk
    exact .inl ⟨by rw [e1]; exact hk, by rw [e1, e2], if_neg hk⟩

set_option maxHeartbeats 8000000 in
set_option maxRecDepth 100000 in
theorem diskFromMoves_any (p : Pr) (R : Option Addr) (rc : Nat) (l : List UInt8) (M : Option Addr) (mc : Nat) (ms : List Mv) (w : World) (hr : RelsAt w R p.rels) (hm : p.rels.length ≤ maxLen) (hl : l.length ≤ maxLen) (hM : MovesAt w M ms) (hn : ms.length ≤ 5000000000000) :
    Calls Try.prog 7 #[prV p.k R p.rels.length rc, .string ⟨l.toArray⟩, .slice M ms.length mc] w fun e w' => e = .returned (.bool true) ∧ Below w.heap.size w w' := by
  have HR := Lib.hid hr
  have HMV := Lib.hid hM
  have HX0 := Lib.hid (Boxd.start w (prC p.k R p.rels.length rc) 24)
  have h1 := Apply_any p R rc l M mc ms _ (HR.out.below HX0.out.old) hm hl (HMV.out.below HX0.out.old) hn
  have HF := Lib.hid (fun X (hX : Below w.heap.size w X) => FromMoves_any p R rc l M mc ms X (HR.out.below hX) hm hl (HMV.out.below hX) hn)
  have HREL := Lib.hid (fun X (hX : Below w.heap.size w X) => Relators_any M mc ms X (HMV.out.below hX) hn)
  have HM := Lib.hid hm
  have HBC := Lib.hid (both_cases p l ms)
  generalize apV p l ms = v at *
  generalize apE p l ms = a at *
  generalize fmL p l ms = L at *
  generalize fmE p l ms = f at *
  clear hr hm hM hn
  go_enter Try.func7, Try.ntmps7
  go_wp2_with fail
  refine h1.mono ?_
  rintro e1 w1 ⟨rfl, hb1⟩
  have HX1 := Lib.hid (HX0.out.on hb1)
  have h2 := HF.out w1 HX1.out.old
  have c0 : w1.cell? ⟨w.heap.size, 0, none⟩ = some (.int .i64 p.k) := HX1.out.cell 0
  have c1 : w1.cell? ⟨w.heap.size, 1, none⟩ = some (.slice R p.rels.length rc) := HX1.out.cell 1
  clear h1 hb1
  go_wp2_with fail
  refine h2.mono ?_
  rintro e2 w2 ⟨A, cap, rfl, hcl, hnl, hb2⟩
  have HX2 := Lib.hid (HX1.out.on hb2)
  have HCL := Lib.hid hcl
  have hS := sane_any w2
  clear h2 hb2 hcl hnl c0 c1
  rcases HBC.out with ⟨hne, hfa, hL⟩ | ⟨ha, hf, hL⟩ | ⟨ha, hf, x, ds, hrun, hvx, hLd, hp, hw, hi, hcn, hdk⟩
  · subst hfa
    have e1 : (f != 0) = true := by simpa using hne
    clear hne hL HBC
    go_wp2_with fail
    refine hS.mono ?_
    rintro e3 w3 ⟨rfl, hb3⟩
    have HX3 := Lib.hid (HX2.out.on hb3)
    clear hb3 hS
    go_wp2
    go_ret
    exact ⟨rfl, HX3.out.old⟩
  · subst ha hf
    clear hL HBC
    go_wp2_with fail
    refine hS.mono ?_
    rintro e3 w3 ⟨rfl, hb3⟩
    have HX3 := Lib.hid (HX2.out.on hb3)
    clear hb3 hS
    go_wp2
    go_ret
    exact ⟨rfl, HX3.out.old⟩
  · subst ha hf hvx hLd
    clear HBC hrun
    have hck : chk p [] [L] = 0 := by unfold chk; rw [if_neg (by rw [hp]; simp), if_neg (by simp), if_neg (by simp [hdk])]
    have hk8 := (presB_k hp).2.1
    have hlx : v.length ≤ 100000 := hi.len
    have hla := isWd_len hw
    have HB : Hid (bdS p L = red (l ++ invW v)) := Lib.hid (by rw [bdS_yes hck]; exact hi.bd)
    have HVA := Lib.hid (all_mono hk8 hi.all)
    have HLA : Hid ((l ++ invW v).all (letB 8) = true) := Lib.hid (all_app (all_mono hk8 (isWd_all hw)) (all_mono hk8 (all_invW hi.all)))
    have HIV : Hid ((invW v).length = v.length) := Lib.hid (ginv_len _ _)
    have h3 := Boundary_any p R rc A cap L w2 (HR.out.below HX2.out.old) HM.out HCL.out (by have := (diskB_facts hdk).1; omega)
    rw [hck, HB.out] at h3
    have c0 : w2.cell? ⟨w.heap.size, 0, none⟩ = some (.int .i64 p.k) := HX2.out.cell 0
    have c1 : w2.cell? ⟨w.heap.size, 1, none⟩ = some (.slice R p.rels.length rc) := HX2.out.cell 1
    have HCN := Lib.hid hcn
    have HI0 : Hid (∀ X, Calls Try.prog 26 #[.string ⟨v.toArray⟩] X fun e w' => e = .returned (.string ⟨(invW v).toArray⟩) ∧ Below X.heap.size X w') := Lib.hid (fun X => Invert_any ⟨v.toArray⟩ X HVA.out (by rw [size_mk]; omega))
    have HRD0 : Hid (∀ X, Calls Try.prog 25 #[.string ⟨(l ++ invW v).toArray⟩] X fun e w' => e = .returned (.string ⟨(red (l ++ invW v)).toArray⟩) ∧ Below X.heap.size X w') := Lib.hid (fun X => Reduce_any ⟨(l ++ invW v).toArray⟩ X HLA.out (by rw [size_mk, List.length_append, HIV.out]; omega))
    have hcat : ByteArray.mk l.toArray ++ ByteArray.mk (invW v).toArray = ⟨(l ++ invW v).toArray⟩ := catC _ _ _ rfl
    have hul : (l ++ invW v).length ≤ 200000 := by rw [List.length_append, HIV.out]; omega
    have hvl : (invW v).length ≤ 100000 := by rw [HIV.out]; exact hlx
    have hll : L.length ≤ 100000 := (diskB_facts hdk).1
    clear hck hdk hp hw hi hcn hS
    generalize red (l ++ invW v) = y at *
    generalize l ++ invW v = u at *
    generalize invW v = v' at *
    go_wp2_with fail
    refine h3.mono ?_
    rintro e3 w3 ⟨rfl, hb3⟩
    have HX3 := Lib.hid (HX2.out.on hb3)
    have hS := sane_any w3
    clear h3 hb3 c0 c1
    go_wp2_with fail
    refine hS.mono ?_
    rintro e4 w4 ⟨rfl, hb4⟩
    have HX4 := Lib.hid (HX3.out.on hb4)
    have h5 := HREL.out w4 HX4.out.old
    rw [← HCN.out] at h5
    clear hb4 hS
    go_wp2_with fail
    refine h5.mono ?_
    rintro e5 w5 ⟨rfl, hb5⟩
    have HX5 := Lib.hid (HX4.out.on hb5)
    have h6 := HI0.out w5
    clear h5 hb5
    go_wp2_with fail
    refine h6.mono ?_
    rintro e6 w6 ⟨rfl, hb6⟩
    have HX6 := Lib.hid (HX5.out.on hb6)
    have h7 := HRD0.out w6
    clear h6 hb6
    go_wp2_with fail
    refine h7.mono ?_
    rintro e7 w7 ⟨rfl, hb7⟩
    have HX7 := Lib.hid (HX6.out.on hb7)
    clear h7 hb7
    go_wp2
    go_ret
    exact ⟨rfl, HX7.out.old⟩
end Go.Proofs.Ytbcckfggnlmhoaa
