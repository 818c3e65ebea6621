/-
  Our own text, in the proof of the law DiskMoves of package disk (cayleylaw04). Proved here: move of the reference, where a pair is deleted. Conditions: the presentation is valid, the word's letters are its letters.
-/
import Derived.Test.YtbcckfggnlmhoaaMb
import Derived.IntWalk
namespace Go.Proofs.Ytbcckfggnlmhoaa
open Go Go.RowKit

set_option maxHeartbeats 4000000 in
set_option maxRecDepth 100000 in
theorem move_delPair (p : Pr) (R : Option Addr) (rc : Nat) (x : List UInt8) (m : Mv) (w : World) (hl : x.length ≤ 100000) (ha : x.all (letB 8) = true) (h0 : 0 ≤ m.pos) (h1 : m.pos ≤ x.length) (hk : m.kind = 2) : Calls Try.prog 82 #[prV p.k R p.rels.length rc, .string ⟨x.toArray⟩, mvV m] w (MoveP p x m w) := by
  have HR : Hid (moveR p x m = if m.pos.toNat + 2 ≤ x.length ∧ x.getD (m.pos.toNat + 1) 0 = invc (x.getD m.pos.toNat 0) then some (x.take m.pos.toNat ++ x.drop (m.pos.toNat + 2)) else none) := Lib.hid (by unfold moveR; rw [if_pos ⟨h0, h1⟩, if_neg (by omega), if_pos hk])
  have HM : Hid (isRM m = false) := Lib.hid (by unfold isRM; rw [hk]; rfl)
  have HB := Lib.hid (MvB.start w p R rc m)
  obtain ⟨mk, mp, ml, mr, ms, mi⟩ := m
  simp only at h0 h1 hk
  subst hk
  obtain ⟨q, rfl⟩ := Int.eq_ofNat_of_zero_le h0
  have hq : q ≤ x.length := by omega
  have hsz : (ByteArray.mk x.toArray).size = x.length := size_mk x
  have e1 : decide ((q : Int) < 0) = false := by simp
  have e2 : decide ((x.length : Int) < (q : Int)) = false := by simp; omega
  have e2' : decide (x.length < q) = false := by simp; omega
  simp only [Int.toNat_natCast] at HR
  show Calls Try.prog 82 #[prV p.k R p.rels.length rc, .string ⟨x.toArray⟩, .agg #[.int .i64 2, .int .i64 q, .int .i64 ml, .int .i64 mr, .int .i64 ms, .bool mi]] w (MoveP p x ⟨2, q, ml, mr, ms, mi⟩ w)
  have HB : Hid (MvB w p R rc ⟨2, q, ml, mr, ms, mi⟩ ((w.alloc (.cells #[.int .i64 p.k, .slice R p.rels.length rc] 24)).alloc (.cells #[.int .i64 2, .int .i64 q, .int .i64 ml, .int .i64 mr, .int .i64 ms, .bool mi] 52))) := Lib.hid HB.out
  clear h0 h1
  by_cases h2 : q + 2 ≤ x.length
  · have f1 : decide ((x.length : Int) < (q : Int) + 2) = false := by simp; omega
    have f1' : decide (x.length < q + 2) = false := by simp; omega
    have ha' : q < x.length := by omega
    have hb' : q + 1 < x.length := by omega
    have g1 : x.getD q 0 = x[q] := by simp [List.getD, ha']
    have g2 : x.getD (q + 1) 0 = x[q + 1] := by simp [List.getD, hb']
    have hlet : letB 8 x[q] = true := List.all_eq_true.1 ha _ (List.getElem_mem _)
    have HV := Lib.hid (invt_let hlet)
    rw [g1, g2] at HR
    have HI : Hid (∀ (X : World) (m : Nat), Calls Try.prog 55 #[.int .u8 (x[q]).toNat] (X.drewN m) fun e w'' => e = .returned (.int .u8 (invc x[q]).toNat) ∧ ∃ j, w'' = X.drewN j) := Lib.hid (fun (X : World) (m : Nat) => Calls.quiet_of_same (((inverted_any x[q] (X.drewN m)).mono fun _ _ h => ⟨by rw [h.1, HV.out], h.2.symm⟩)))
    have k1 : (0 : Int) ≤ (q : Int) := by omega
    have k2 : (q : Int) < (x.length : Int) := by omega
    have k3 : (q : Int) + 1 < (x.length : Int) := by omega
    have k4 : ((q : Int) + 1).toNat = q + 1 := by omega
    have hw2 : IntKind.i64.wrap ((q : Int) + 2) = (q : Int) + 2 := IntWalk.i64_in _ (by omega)
    have hw1 : IntKind.i64.wrap ((q : Int) + 1) = (q : Int) + 1 := IntWalk.i64_in _ (by omega)
    have k5 : (0 : Int) ≤ (q : Int) + 1 := by omega
    clear g1 g2 ha
    go_enter Try.func82, Try.ntmps82
    go_wp2_with fail
    generalize ((w.alloc (.cells #[.int .i64 p.k, .slice R p.rels.length rc] 24)).alloc (.cells #[.int .i64 2, .int .i64 q, .int .i64 ml, .int .i64 mr, .int .i64 ms, .bool mi] 52)) = w0 at *
    have d1 : w0.cell? ⟨w.heap.size + 1, 1, none⟩ = some (.int .i64 q) := HB.out.mc 1
    have x1 := ex_take x q hq
    have x2 := ex_drop x (q + 2)
    have hcat := catC (x.take q) (x.drop (q + 2)) _ rfl
    have u1 : (x.take q).length ≤ 100000 := by rw [List.length_take]; omega
    have u2 : (x.drop (q + 2)).length ≤ 100000 := by rw [List.length_drop]; omega
    have u3 : (x.take q ++ x.drop (q + 2)).length ≤ 200000 := by rw [List.length_append]; omega
    have k6 : (q : Int) ≤ (x.length : Int) := by omega
    have k7 : (q : Int) + 2 ≤ (x.length : Int) := by omega
    have k8 : (0 : Int) ≤ (q : Int) + 2 := by omega
    have k9 : ((q : Int) + 2).toNat = q + 2 := by omega
    by_cases hc : x[q + 1] = invc x[q]
    · have HY : Hid (moveR p x ⟨2, q, ml, mr, ms, mi⟩ = some (x.take q ++ x.drop (q + 2))) := Lib.hid (by rw [HR.out, if_pos ⟨h2, hc⟩])
      have n1 : ((((ByteArray.mk x.toArray)[q + 1]'(by rw [hsz]; exact hb')).toNat : Int) != ((invc x[q]).toNat : Int)) = false := by
        show (((x[q + 1]).toNat : Int) != ((invc x[q]).toNat : Int)) = false
        rw [hc]; simp
      have n2 : (((ByteArray.mk x.toArray)[q + 1]'(by rw [hsz]; exact hb')).toNat != (invc x[q]).toNat) = false := by
        show ((x[q + 1]).toNat != (invc x[q]).toNat) = false
        rw [hc]; simp
      generalize x.take q ++ x.drop (q + 2) = y3 at *
      generalize x.take q = a1 at *
      generalize x.drop (q + 2) = a2 at *
      clear h2 hc
      go_quiet ((go_at_call 55; exact HI.out _ _))
      go_wp2_with fail
      go_quiet (fail)
      go_wp2
      go_ret3
      exact move_pair HY.out HM.out ((HB.out.old.drewN _).drewN _)
    · have HY : Hid (moveR p x ⟨2, q, ml, mr, ms, mi⟩ = none) := Lib.hid (by rw [HR.out, if_neg (fun h => hc h.2)])
      have hcn : (x[q + 1]).toNat ≠ (invc x[q]).toNat := fun e => hc (UInt8.toNat_inj.1 e)
      have n1 : ((((ByteArray.mk x.toArray)[q + 1]'(by rw [hsz]; exact hb')).toNat : Int) != ((invc x[q]).toNat : Int)) = true := by
        show (((x[q + 1]).toNat : Int) != ((invc x[q]).toNat : Int)) = true
        simpa using fun e => hcn (by exact_mod_cast e)
      have n2 : (((ByteArray.mk x.toArray)[q + 1]'(by rw [hsz]; exact hb')).toNat != (invc x[q]).toNat) = true := by
        show ((x[q + 1]).toNat != (invc x[q]).toNat) = true
        simpa using hcn
      clear h2 hc hcn
      go_quiet ((go_at_call 55; exact HI.out _ _))
      go_wp2
      go_ret3
      exact move_no HY.out (HB.out.old.drewN _)
  · have HY : Hid (moveR p x ⟨2, q, ml, mr, ms, mi⟩ = none) := Lib.hid (by rw [HR.out, if_neg (fun h => h2 h.1)])
    have f1 : decide ((x.length : Int) < (q : Int) + 2) = true := by simp; omega
    have f1' : decide (x.length < q + 2) = true := by simp; omega
    have hw2 : IntKind.i64.wrap ((q : Int) + 2) = (q : Int) + 2 := IntWalk.i64_in _ (by omega)
    clear h2 ha
    go_enter Try.func82, Try.ntmps82
    go_wp2_with fail
    generalize ((w.alloc (.cells #[.int .i64 p.k, .slice R p.rels.length rc] 24)).alloc (.cells #[.int .i64 2, .int .i64 q, .int .i64 ml, .int .i64 mr, .int .i64 ms, .bool mi] 52)) = w0 at *
    have d1 : w0.cell? ⟨w.heap.size + 1, 1, none⟩ = some (.int .i64 q) := HB.out.mc 1
    go_quiet (fail)
    go_wp2
    go_ret3
    exact move_no HY.out (HB.out.old.drewN _)
end Go.Proofs.Ytbcckfggnlmhoaa
