/-
  Our own text, in the proofs of the laws of package disk (cayleylaw04). Proved here: the walk's method deleteRel. Conditions: the walk lies in memory as newWalk leaves it; the presentation is valid.
-/
import Derived.Test.YtbcckfggnlmhoaaIh
namespace Go.Proofs.Ytbcckfggnlmhoaa
open Go Go.RowKit

/-- A part of the word is a row. -/
theorem part_row {W : World} {g cap : Nat} {l : List UInt8} (h : WRow W g cap l) (k n : Nat) : RowAt W (some ⟨g, k, none⟩) ((l.drop k).take n) := by
  intro j hj
  rw [List.length_take, List.length_drop] at hj
  obtain ⟨b, o, hA, hc⟩ := h.row (k + j) (by omega)
  cases hA
  rw [Nat.zero_add] at hc
  exact ⟨g, k, rfl, by rw [List.getElem_take, List.getElem_drop]; exact hc⟩

set_option maxHeartbeats 4000000 in
set_option maxRecDepth 100000 in
theorem deleteRel_any (w : World) (p : Pr) (R : Option Addr) (rc kb mb g cap : Nat) (l : List UInt8) (W : World) (h : WkAt w p R rc kb mb g cap l W) (hp : presB p = true) (hr : RelsAt w R p.rels) (hl : l.length ≤ 100000) (m : Mv) :
    Calls Try.prog 87 #[.pointer (some ⟨kb, 0, none⟩), mvV m] W (StepP w p R rc kb mb (delRel p l m)) := by
  have HRL := Lib.hid (fun v (hv : rotOf p m = some v) => rotOf_len hp hv)
  have HIR : Hid (∀ v, rotOf p m = some v → delRel p l m = cutAt l m.pos v) := Lib.hid (fun v hv => by unfold delRel; rw [hv])
  have HIN : Hid (rotOf p m = none → delRel p l m = none) := Lib.hid (fun hv => by unfold delRel; rw [hv])
  obtain ⟨mk, mp, ml, mr, ms, mi⟩ := m
  have HBX := Lib.hid (Boxd.start W #[.int .i64 mk, .int .i64 mp, .int .i64 ml, .int .i64 mr, .int .i64 ms, .bool mi] 52)
  have HK := Lib.hid (h.below (Boxd.start W #[.int .i64 mk, .int .i64 mp, .int .i64 ml, .int .i64 mr, .int .i64 ms, .bool mi] 52).old)
  have hRO : Calls Try.prog 99 #[.pointer (some ⟨kb, 0, none⟩), .agg #[.int .i64 mk, .int .i64 mp, .int .i64 ml, .int .i64 mr, .int .i64 ms, .bool mi]] (W.alloc (.cells #[.int .i64 mk, .int .i64 mp, .int .i64 ml, .int .i64 mr, .int .i64 ms, .bool mi] 52)) (RotP (W.alloc (.cells #[.int .i64 mk, .int .i64 mp, .int .i64 ml, .int .i64 mr, .int .i64 ms, .bool mi] 52)) (rotOf p ⟨mk, mp, ml, mr, ms, mi⟩)) := rotated_any w p R rc kb mb g cap l _ HK.out hp hr ⟨mk, mp, ml, mr, ms, mi⟩
  clear h hr hp
  show Calls Try.prog 87 #[.pointer (some ⟨kb, 0, none⟩), .agg #[.int .i64 mk, .int .i64 mp, .int .i64 ml, .int .i64 mr, .int .i64 ms, .bool mi]] W (StepP w p R rc kb mb (delRel p l ⟨mk, mp, ml, mr, ms, mi⟩))
  generalize delRel p l ⟨mk, mp, ml, mr, ms, mi⟩ = r at *
  cases hrot : rotOf p ⟨mk, mp, ml, mr, ms, mi⟩ with
  | none =>
    have HN := Lib.hid (HIN.out hrot)
    rw [hrot] at hRO
    clear hrot
    go_enter Try.func87, Try.ntmps87
    go_wp2_with fail
    refine hRO.mono ?_
    rintro e1 w1 ⟨rfl, hb⟩
    have HB := Lib.hid hb
    clear hRO hb
    go_wp2
    refine ⟨rfl, ?_⟩
    rw [HN.out]
    exact ⟨rfl, HK.out.old.trans (HB.out.mono HK.out.old.size)⟩
  | some v =>
    have HS := Lib.hid (HIR.out v hrot)
    obtain ⟨hv0, hv2⟩ := HRL.out v hrot
    rw [hrot] at hRO
    clear hrot
    go_enter Try.func87, Try.ntmps87
    go_wp2_with fail
    refine hRO.mono ?_
    rintro e1 w1 ⟨vb, vc, rfl, hown, hvb, hb⟩
    have HX1 := Lib.hid (HBX.out.on hb)
    have HK1 := Lib.hid (HK.out.below hb)
    have HOW := Lib.hid hown
    have hc1 : w1.cell? ⟨W.heap.size, 1, none⟩ = some (.int .i64 mp) := HX1.out.cell 1
    have hP := part_any w p R rc kb mb g cap l w1 HK1.out mp v.length hv0 hl (by omega)
    clear hRO hb hown hvb
    by_cases hpos : 0 ≤ mp ∧ mp ≤ (l.length : Int) - v.length
    · obtain ⟨h0, h1⟩ := hpos
      obtain ⟨k, rfl⟩ := Int.eq_ofNat_of_zero_le h0
      have hk : k + v.length ≤ l.length := by omega
      have hln : ((l.drop k).take v.length).length = v.length := by simp; omega
      have hE := Equal_any (some ⟨g, k, none⟩) (some ⟨vb, 0, none⟩) ((l.drop k).take v.length) v (cap - k) vc w1 (part_row HK1.out.word k v.length) (rowAt_own HOW.out) (by omega) (by omega)
      rw [hln] at hE
      have hE : Calls Try.prog 100 #[.slice (some ⟨g, k, none⟩) v.length (cap - k), .slice (some ⟨vb, 0, none⟩) v.length vc] w1 fun e w' => e = .returned (.bool ((l.drop k).take v.length == v)) ∧ w1 = w' := hE.mono fun _ _ h => ⟨h.1, h.2.symm⟩
      have hP2 : Calls Try.prog 97 #[.pointer (some ⟨kb, 0, none⟩), .int .i64 (k : Int), .int .i64 v.length] w1 fun e w' => e = .returned (.slice (some ⟨g, k, none⟩) v.length (cap - k)) ∧ w1 = w' := hP.mono (by
        rintro e2 w2 ⟨hw, hh⟩
        rcases hh with ⟨_, _, he⟩ | ⟨hno, _⟩
        · exact ⟨he, hw⟩
        · exact absurd ⟨h0, h1⟩ hno)
      clear hP h0 h1 hln
      go_wp2_with fail
      refine hP2.mono ?_
      rintro e2 w2 ⟨rfl, rfl⟩
      clear hP2
      go_wp2_with fail
      refine hE.mono ?_
      rintro e3 w3 ⟨rfl, rfl⟩
      clear hE
      cases heq : ((l.drop k).take v.length == v) with
      | true =>
        have HC : Hid (r = some (l.take k ++ l.drop (k + v.length))) := Lib.hid (by
          rw [HS.out]; unfold cutAt
          rw [if_pos ⟨by omega, by omega, by simpa using heq⟩]; rfl)
        have hD := remove_any w p R rc kb mb g cap l w1 HK1.out k v.length hk hl
        rw [← HC.out] at hD
        clear heq
        go_wp2_with fail
        refine (mustApply_yes _).mono ?_
        rintro e4 w4 ⟨rfl, rfl⟩
        go_wp2_with fail
        refine hD.mono ?_
        intro e5 w5 hh
        rcases hh.split with ⟨rfl, hs⟩ | ⟨rfl, hs⟩
        · exact ⟨rfl, hs⟩
        · have HZ := Lib.hid hs
          clear hs hh hD
          go_wp2
          go_end0
          exact HZ.out
      | false =>
        have HC : Hid (r = none) := Lib.hid (by
          rw [HS.out]; unfold cutAt
          rw [if_neg (fun h => by have := h.2.2; simp only [Int.toNat_natCast] at this; rw [this] at heq; simp at heq)])
        clear heq
        go_wp2_with fail
        refine (mustApply_no _).mono ?_
        rintro e4 w4 ⟨rfl, rfl⟩
        go_wp2
        refine ⟨rfl, ?_⟩
        rw [HC.out]
        exact ⟨rfl, HK1.out.old⟩
    · have HC : Hid (r = none) := Lib.hid (by
        rw [HS.out]; unfold cutAt
        rw [if_neg (fun h => hpos ⟨h.1, h.2.1⟩)])
      have hP2 : Calls Try.prog 97 #[.pointer (some ⟨kb, 0, none⟩), .int .i64 mp, .int .i64 v.length] w1 fun e w' => e = .panicked pan ∧ w1 = w' := hP.mono (by
        rintro e2 w2 ⟨hw, hh⟩
        rcases hh with ⟨h0, h1, _⟩ | ⟨_, he⟩
        · exact absurd ⟨h0, h1⟩ hpos
        · exact ⟨he, hw⟩)
      clear hP hpos
      go_wp2_with fail
      refine hP2.mono ?_
      rintro e2 w2 ⟨rfl, rfl⟩
      clear hP2
      go_wp2
      refine ⟨rfl, ?_⟩
      rw [HC.out]
      exact ⟨rfl, HK1.out.old⟩
end Go.Proofs.Ytbcckfggnlmhoaa
