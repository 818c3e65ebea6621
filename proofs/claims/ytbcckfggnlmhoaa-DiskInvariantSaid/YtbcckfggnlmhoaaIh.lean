/-
  Our own text, in the proofs of the laws of package disk (cayleylaw04). Proved here: the walk's methods insertRel and deleteRel. Conditions: the walk lies in memory as newWalk leaves it; the presentation is valid.
-/
import Derived.Test.YtbcckfggnlmhoaaIg
namespace Go.Proofs.Ytbcckfggnlmhoaa
open Go Go.RowKit

theorem rotOf_len {p : Pr} (hp : presB p = true) {m : Mv} {v : List UInt8} (h : rotOf p m = some v) : 0 < v.length ∧ v.length ≤ 200 := by
  unfold rotOf at h
  split at h
  case isTrue hr =>
    split at h
    case isTrue hs =>
      cases h
      have := relOf_len hp hr m.inv
      simp; omega
    case isFalse => cases h
  case isFalse => cases h

def insRel (p : Pr) (l : List UInt8) (m : Mv) : Option (List UInt8) := match rotOf p m with | some v => insAt l m.pos v | none => none
def cutAt (l : List UInt8) (i : Int) (v : List UInt8) : Option (List UInt8) := if 0 ≤ i ∧ i ≤ (l.length : Int) - v.length ∧ (l.drop i.toNat).take v.length = v then some (l.take i.toNat ++ l.drop (i.toNat + v.length)) else none
def delRel (p : Pr) (l : List UInt8) (m : Mv) : Option (List UInt8) := match rotOf p m with | some v => cutAt l m.pos v | none => none

theorem StepP.split {w : World} {p : Pr} {R : Option Addr} {rc kb mb : Nat} {r : Option (List UInt8)} {e : Ending} {w' : World} (h : StepP w p R rc kb mb r e w') :
    (e = .panicked pan ∧ StepP w p R rc kb mb r (.panicked pan) w') ∨ (e = .returned (.tuple #[]) ∧ StepP w p R rc kb mb r (.returned (.tuple #[])) w') := by
  cases r with
  | none => exact .inl ⟨h.1, rfl, h.2⟩
  | some l' => exact .inr ⟨h.1, rfl, h.2⟩

/-- insert, told by what rotated hands back. -/
theorem rot_then (w : World) (p : Pr) (R : Option Addr) (rc kb mb g cap : Nat) (l : List UInt8) (W : World) (h : WkAt w p R rc kb mb g cap l W) (hp : presB p = true) (hr : RelsAt w R p.rels) (hl : l.length ≤ 100000) (m : Mv) :
    Calls Try.prog 99 #[.pointer (some ⟨kb, 0, none⟩), mvV m] W fun e w' => (e = .panicked pan ∧ StepP w p R rc kb mb (insRel p l m) (.panicked pan) w') ∨
      (∃ vb v vc, e = .returned (.slice (some ⟨vb, 0, none⟩) v vc) ∧ Below W.heap.size W w' ∧ Calls Try.prog 96 #[.pointer (some ⟨kb, 0, none⟩), .int .i64 m.pos, .slice (some ⟨vb, 0, none⟩) v vc] w' (StepP w p R rc kb mb (insRel p l m))) := by
  refine (rotated_any w p R rc kb mb g cap l W h hp hr m).mono ?_
  intro e w' hh
  cases hrot : rotOf p m with
  | none =>
    rw [hrot] at hh
    have hi : insRel p l m = none := by unfold insRel; rw [hrot]
    rw [hi]
    exact .inl ⟨hh.1, rfl, h.old.trans (hh.2.mono h.old.size)⟩
  | some v =>
    rw [hrot] at hh
    obtain ⟨vb, vc, rfl, hown, hvb, hb⟩ := hh
    have hi : insRel p l m = insAt l m.pos v := by unfold insRel; rw [hrot]
    have hv := rotOf_len hp hrot
    have hg := h.word.lt
    rw [hi]
    exact .inr ⟨vb, v.length, vc, rfl, hb, insert_any w p R rc kb mb g cap l v w' (h.below hb) _ vb vc hown (by omega) hv.1 m.pos hl (by omega)⟩

set_option maxHeartbeats 4000000 in
set_option maxRecDepth 100000 in
theorem insertRel_any (w : World) (p : Pr) (R : Option Addr) (rc kb mb g cap : Nat) (l : List UInt8) (W : World) (h : WkAt w p R rc kb mb g cap l W) (hp : presB p = true) (hr : RelsAt w R p.rels) (hl : l.length ≤ 100000) (m : Mv) :
    Calls Try.prog 86 #[.pointer (some ⟨kb, 0, none⟩), mvV m] W (StepP w p R rc kb mb (insRel p l m)) := by
  obtain ⟨mk, mp, ml, mr, ms, mi⟩ := m
  have HBX := Lib.hid (Boxd.start W #[.int .i64 mk, .int .i64 mp, .int .i64 ml, .int .i64 mr, .int .i64 ms, .bool mi] 52)
  have HK := Lib.hid (h.below (Boxd.start W #[.int .i64 mk, .int .i64 mp, .int .i64 ml, .int .i64 mr, .int .i64 ms, .bool mi] 52).old)
  have HRO := Lib.hid (fun X (hX : WkAt w p R rc kb mb g cap l X) => rot_then w p R rc kb mb g cap l X hX hp hr hl ⟨mk, mp, ml, mr, ms, mi⟩)
  clear h hr hp
  show Calls Try.prog 86 #[.pointer (some ⟨kb, 0, none⟩), .agg #[.int .i64 mk, .int .i64 mp, .int .i64 ml, .int .i64 mr, .int .i64 ms, .bool mi]] W (StepP w p R rc kb mb (insRel p l ⟨mk, mp, ml, mr, ms, mi⟩))
  generalize insRel p l ⟨mk, mp, ml, mr, ms, mi⟩ = r at *
  go_enter Try.func86, Try.ntmps86
  go_wp2_with fail
  generalize W.alloc (.cells #[.int .i64 mk, .int .i64 mp, .int .i64 ml, .int .i64 mr, .int .i64 ms, .bool mi] 52) = w0 at *
  have hb0 : w0.cell? ⟨W.heap.size, 0, none⟩ = some (.int .i64 mk) := HBX.out.cell 0
  have hb1 : w0.cell? ⟨W.heap.size, 1, none⟩ = some (.int .i64 mp) := HBX.out.cell 1
  have hb2 : w0.cell? ⟨W.heap.size, 2, none⟩ = some (.int .i64 ml) := HBX.out.cell 2
  have hb3 : w0.cell? ⟨W.heap.size, 3, none⟩ = some (.int .i64 mr) := HBX.out.cell 3
  have hb4 : w0.cell? ⟨W.heap.size, 4, none⟩ = some (.int .i64 ms) := HBX.out.cell 4
  have hb5 : w0.cell? ⟨W.heap.size, 5, none⟩ = some (.bool mi) := HBX.out.cell 5
  have hRO : Calls Try.prog 99 #[.pointer (some ⟨kb, 0, none⟩), .agg #[.int .i64 mk, .int .i64 mp, .int .i64 ml, .int .i64 mr, .int .i64 ms, .bool mi]] w0.drew _ := HRO.out w0.drew (HK.out.below ((Below.refl _ w0).drewN 1))
  have HX : Hid (∀ X, Below w0.drew.heap.size w0.drew X → X.cell? ⟨W.heap.size, 1, none⟩ = some (.int .i64 mp)) := Lib.hid (fun X hX => (hX.cell (p := ⟨W.heap.size, 1, none⟩) (lt_of_cell hb1)).trans hb1)
  have HR0 := Lib.hid hRO
  clear hRO
  refine wp_region_any (by kernel_rfl) ?_
  change wpAny _ _ _ _ _ _ _ w0.drew
  refine wpAny_take (i := 0) (v := .pointer (some ⟨kb, 0, none⟩)) rfl (by kernel_rfl) (by kernel_rfl) (by kernel_rfl) (fun _ _ _ h => h) (Or.inl ⟨by rfl, by intro w; go_simp⟩) ?_
  refine wpAny_take (i := 1) (v := .pointer (some ⟨W.heap.size, 1, none⟩)) rfl (by kernel_rfl) (by kernel_rfl) (by kernel_rfl) (fun _ _ _ h => h) (Or.inl ⟨by rfl, by intro w; go_simp⟩) ?_
  refine wpAny_take (i := 3) (v := .pointer (some ⟨kb, 0, none⟩)) rfl (by kernel_rfl) (by kernel_rfl) (by kernel_rfl) (fun _ _ _ h => h) (Or.inl ⟨by rfl, by intro w; go_simp⟩) ?_
  refine wpAny_ready (rs := [2, 4]) (by kernel_rfl) (by simp) ?_
  refine AllReady.cons rfl (fun K hK => ?_) (AllReady.cons rfl (fun K hK => ?_) (AllReady.nil))
  · go_simp
    refine hK _ _ ?_
    clear hK K
    refine wpAny_ready (rs := [4]) (by kernel_rfl) (by simp) ?_
    refine AllReady.cons rfl (fun K hK => ?_) (AllReady.nil)
    · go_simp
      refine hK _ _ ?_
      clear hK K
      refine wpAny_ready (rs := [5]) (by kernel_rfl) (by simp) ?_
      refine AllReady.cons rfl (fun K hK => ?_) (AllReady.nil)
      · go_simp
        go_wp2_with fail
        refine HR0.out.mono ?_
        rintro e1 w1 (⟨rfl, hs⟩ | ⟨vb, v, vc, rfl, hb, h96⟩)
        · exact ⟨rfl, hs⟩
        refine hK _ _ ?_
        clear hK K
        have hc1 := HX.out w1 hb
        refine wpAny_ready (rs := [6]) (by kernel_rfl) (by simp) ?_
        refine AllReady.cons rfl (fun K hK => ?_) (AllReady.nil)
        · go_simp
          go_wp2_with fail
          refine h96.mono ?_
          intro e2 w2 hh
          rcases hh.split with ⟨rfl, hs⟩ | ⟨rfl, hs⟩
          · exact ⟨rfl, hs⟩
          refine hK _ _ ?_
          clear hK K
          refine wpAny_done (by kernel_rfl) ?_ _
          go_wp2
          go_end0
          exact hs
  · go_simp
    refine hK _ _ ?_
    clear hK K
    refine wpAny_ready (rs := [2, 5]) (by kernel_rfl) (by simp) ?_
    refine AllReady.cons rfl (fun K hK => ?_) (AllReady.cons rfl (fun K hK => ?_) (AllReady.nil))
    · go_simp
      refine hK _ _ ?_
      clear hK K
      refine wpAny_ready (rs := [5]) (by kernel_rfl) (by simp) ?_
      refine AllReady.cons rfl (fun K hK => ?_) (AllReady.nil)
      · go_simp
        go_wp2_with fail
        refine HR0.out.mono ?_
        rintro e1 w1 (⟨rfl, hs⟩ | ⟨vb, v, vc, rfl, hb, h96⟩)
        · exact ⟨rfl, hs⟩
        refine hK _ _ ?_
        clear hK K
        have hc1 := HX.out w1 hb
        refine wpAny_ready (rs := [6]) (by kernel_rfl) (by simp) ?_
        refine AllReady.cons rfl (fun K hK => ?_) (AllReady.nil)
        · go_simp
          go_wp2_with fail
          refine h96.mono ?_
          intro e2 w2 hh
          rcases hh.split with ⟨rfl, hs⟩ | ⟨rfl, hs⟩
          · exact ⟨rfl, hs⟩
          refine hK _ _ ?_
          clear hK K
          refine wpAny_done (by kernel_rfl) ?_ _
          go_wp2
          go_end0
          exact hs
    · go_simp
      go_wp2_with fail
      refine HR0.out.mono ?_
      rintro e1 w1 (⟨rfl, hs⟩ | ⟨vb, v, vc, rfl, hb, h96⟩)
      · exact ⟨rfl, hs⟩
      refine hK _ _ ?_
      clear hK K
      have hc1 := HX.out w1 hb
      refine wpAny_ready (rs := [2]) (by kernel_rfl) (by simp) ?_
      refine AllReady.cons rfl (fun K hK => ?_) (AllReady.nil)
      · go_simp
        refine hK _ _ ?_
        clear hK K
        refine wpAny_ready (rs := [6]) (by kernel_rfl) (by simp) ?_
        refine AllReady.cons rfl (fun K hK => ?_) (AllReady.nil)
        · go_simp
          go_wp2_with fail
          refine h96.mono ?_
          intro e2 w2 hh
          rcases hh.split with ⟨rfl, hs⟩ | ⟨rfl, hs⟩
          · exact ⟨rfl, hs⟩
          refine hK _ _ ?_
          clear hK K
          refine wpAny_done (by kernel_rfl) ?_ _
          go_wp2
          go_end0
          exact hs
end Go.Proofs.Ytbcckfggnlmhoaa
