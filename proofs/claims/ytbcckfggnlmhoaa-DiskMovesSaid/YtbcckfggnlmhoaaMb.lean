/-
  Our own text, in the proof of the law DiskMoves of package disk (cayleylaw04). Proved here: move of the reference. Conditions: the presentation is valid, the word's letters are its letters.
-/
import Derived.Test.YtbcckfggnlmhoaaMa
import Derived.Deep.RegionHeld3
namespace Go.Proofs.Ytbcckfggnlmhoaa
open Go Go.RowKit

/-- A move, as the reference applies it: whatever the length. -/
def moveR (p : Pr) (x : List UInt8) (m : Mv) : Option (List UInt8) :=
  if 0 ≤ m.pos ∧ m.pos ≤ x.length then
    (if m.kind = 1 then (if 0 ≤ m.letter ∧ m.letter < 2 * p.k then some (x.take m.pos.toNat ++ [ltr m.letter.toNat, invc (ltr m.letter.toNat)] ++ x.drop m.pos.toNat) else none)
    else if m.kind = 2 then (if m.pos.toNat + 2 ≤ x.length ∧ x.getD (m.pos.toNat + 1) 0 = invc (x.getD m.pos.toNat 0) then some (x.take m.pos.toNat ++ x.drop (m.pos.toNat + 2)) else none)
    else if m.kind = 3 then (match rotOf p m with | some v => some (x.take m.pos.toNat ++ v ++ x.drop m.pos.toNat) | none => none)
    else if m.kind = 4 then (match rotOf p m with | some v => if m.pos.toNat + v.length ≤ x.length ∧ (x.drop m.pos.toNat).take v.length = v then some (x.take m.pos.toNat ++ x.drop (m.pos.toNat + v.length)) else none | none => none)
    else none)
  else none
def cellsM (p : Pr) (x : List UInt8) (m : Mv) : List Cel := if isRM m = true then [cellM p x m] else []
def MoveP (p : Pr) (x : List UInt8) (m : Mv) (w : World) (e : Ending) (w' : World) : Prop :=
  match moveR p x m with
  | none => e = .returned (.tuple #[.string ⟨#[]⟩, .slice none 0 0, .bool false]) ∧ Below w.heap.size w w'
  | some y => ∃ A cap, e = .returned (.tuple #[.string ⟨y.toArray⟩, .slice A (cellsM p x m).length cap, .bool true]) ∧ CellsAt w' A (cellsM p x m) ∧ (A = none → cellsM p x m = [] ∧ cap = 0) ∧ Below w.heap.size w w'
theorem move_no {p : Pr} {x : List UInt8} {m : Mv} {w w' : World} (h : moveR p x m = none) (hb : Below w.heap.size w w') : MoveP p x m w (.returned (.tuple #[.string ⟨#[]⟩, .slice none 0 0, .bool false])) w' := by
  unfold MoveP; rw [h]; exact ⟨rfl, hb⟩
theorem move_pair {p : Pr} {x y : List UInt8} {m : Mv} {w w' : World} (h : moveR p x m = some y) (hm : isRM m = false) (hb : Below w.heap.size w w') : MoveP p x m w (.returned (.tuple #[.string ⟨y.toArray⟩, .slice none 0 0, .bool true])) w' := by
  have hc : cellsM p x m = [] := by unfold cellsM; rw [hm]; rfl
  unfold MoveP; rw [h]
  refine ⟨none, 0, ?_, ?_, fun _ => ⟨hc, rfl⟩, hb⟩
  · rw [hc]; rfl
  · rw [hc]; intro i hi; exact absurd hi (Nat.not_lt_zero i)
theorem move_rel {p : Pr} {x y : List UInt8} {m : Mv} {w w' : World} (h : moveR p x m = some y) (hm : isRM m = true) (b : Nat) (hc : CellsAt w' (some ⟨b, 0, none⟩) [cellM p x m]) (hb : Below w.heap.size w w') : MoveP p x m w (.returned (.tuple #[.string ⟨y.toArray⟩, .slice (some ⟨b, 0, none⟩) 1 1, .bool true])) w' := by
  have hcc : cellsM p x m = [cellM p x m] := by unfold cellsM; rw [hm]; rfl
  unfold MoveP; rw [h]
  refine ⟨some ⟨b, 0, none⟩, 1, ?_, ?_, (fun h => by cases h), hb⟩
  · rw [hcc]; rfl
  · rw [hcc]; exact hc

/-- The boxes of move. -/
structure MvB (w : World) (p : Pr) (R : Option Addr) (rc : Nat) (m : Mv) (X : World) : Prop where
  old : Below w.heap.size w X
  lt : w.heap.size + 1 < X.heap.size
  pc : ∀ i, X.cell? ⟨w.heap.size, i, none⟩ = (prC p.k R p.rels.length rc)[i]?
  mc : ∀ i, X.cell? ⟨w.heap.size + 1, i, none⟩ = (mvC m)[i]?
theorem MvB.below {w : World} {p : Pr} {R : Option Addr} {rc : Nat} {m : Mv} {X Y : World} (h : MvB w p R rc m X) (hb : Below X.heap.size X Y) : MvB w p R rc m Y := by
  have hl := h.lt
  exact ⟨h.old.trans (hb.mono h.old.size), Nat.lt_of_lt_of_le hl hb.size, fun i => (hb.cell (p := ⟨w.heap.size, i, none⟩) (by simp only; omega)).trans (h.pc i), fun i => (hb.cell (p := ⟨w.heap.size + 1, i, none⟩) (by simp only; omega)).trans (h.mc i)⟩
theorem MvB.start (w : World) (p : Pr) (R : Option Addr) (rc : Nat) (m : Mv) : MvB w p R rc m ((w.alloc (.cells (prC p.k R p.rels.length rc) 24)).alloc (.cells (mvC m) 52)) := by
  have s1 := World.size_alloc w (.cells (prC p.k R p.rels.length rc) 24)
  refine ⟨(Boxd.start w (prC p.k R p.rels.length rc) 24).old.alloc (by simp) _, by simp, fun i => ?_, fun i => ?_⟩
  · exact (((Below.refl _ (w.alloc (.cells (prC p.k R p.rels.length rc) 24))).alloc (Nat.le_refl _) _).cell (p := ⟨w.heap.size, i, none⟩) (by simp)).trans (alloc_cell _ _ _ _)
  · rw [← s1]; exact alloc_cell _ _ _ _

set_option maxHeartbeats 4000000 in
set_option maxRecDepth 100000 in
theorem move_out (p : Pr) (R : Option Addr) (rc : Nat) (x : List UInt8) (m : Mv) (w : World) (hl : x.length ≤ 100000) (ho : ¬ (0 ≤ m.pos ∧ m.pos ≤ x.length)) : Calls Try.prog 82 #[prV p.k R p.rels.length rc, .string ⟨x.toArray⟩, mvV m] w (MoveP p x m w) := by
  have HN : Hid (moveR p x m = none) := Lib.hid (if_neg ho)
  have HB := Lib.hid (MvB.start w p R rc m)
  obtain ⟨mk, mp, ml, mr, ms, mi⟩ := m
  simp only at ho
  have hsz : (ByteArray.mk x.toArray).size = x.length := size_mk x
  show Calls Try.prog 82 #[prV p.k R p.rels.length rc, .string ⟨x.toArray⟩, .agg #[.int .i64 mk, .int .i64 mp, .int .i64 ml, .int .i64 mr, .int .i64 ms, .bool mi]] w (MoveP p x ⟨mk, mp, ml, mr, ms, mi⟩ w)
  by_cases h0 : mp < 0
  · have e1 : decide (mp < 0) = true := by simpa using h0
    clear ho
    go_enter Try.func82, Try.ntmps82
    go_wp2
    go_ret3
    exact move_no HN.out HB.out.old
  · have e1 : decide (mp < 0) = false := by simpa using h0
    have e2 : decide ((x.length : Int) < mp) = true := by simp; omega
    clear ho
    go_enter Try.func82, Try.ntmps82
    go_wp2
    go_ret3
    exact move_no HN.out HB.out.old

theorem xor_one : ∀ n : Nat, n < 16 → bits .xor .i64 (n : Int) 1 = ((n ^^^ 1 : Nat) : Int) := by decide +kernel
theorem ltr_xor : ∀ n, n < 16 → ltr (n ^^^ 1) = invc (ltr n) := by decide +kernel
theorem xor_lt : ∀ n, n < 16 → n ^^^ 1 < 16 := by decide +kernel

set_option maxHeartbeats 4000000 in
set_option maxRecDepth 100000 in
theorem move_insPair (p : Pr) (R : Option Addr) (rc : Nat) (x : List UInt8) (m : Mv) (w : World) (hp : presB p = true) (hl : x.length ≤ 100000) (h0 : 0 ≤ m.pos) (h1 : m.pos ≤ x.length) (hk : m.kind = 1) : Calls Try.prog 82 #[prV p.k R p.rels.length rc, .string ⟨x.toArray⟩, mvV m] w (MoveP p x m w) := by
  obtain ⟨k1, k8, _⟩ := presB_k hp
  have HR : Hid (moveR p x m = if 0 ≤ m.letter ∧ m.letter < 2 * p.k then some (x.take m.pos.toNat ++ [ltr m.letter.toNat, invc (ltr m.letter.toNat)] ++ x.drop m.pos.toNat) else none) := Lib.hid (by unfold moveR; rw [if_pos ⟨h0, h1⟩, if_pos hk])
  have HM : Hid (isRM m = false) := Lib.hid (by unfold isRM; rw [hk]; rfl)
  have HB := Lib.hid (MvB.start w p R rc m)
  obtain ⟨mk, mp, ml, mr, ms, mi⟩ := m
  simp only at h0 h1 hk
  subst hk
  obtain ⟨q, rfl⟩ := Int.eq_ofNat_of_zero_le h0
  have hq : q ≤ x.length := by omega
  have hsz : (ByteArray.mk x.toArray).size = x.length := size_mk x
  have e1 : decide ((q : Int) < 0) = false := by simp
  have e2 : decide ((x.length : Int) < (q : Int)) = false := by simp; omega
  have e2' : decide (x.length < q) = false := by simp; omega
  show Calls Try.prog 82 #[prV p.k R p.rels.length rc, .string ⟨x.toArray⟩, .agg #[.int .i64 1, .int .i64 q, .int .i64 ml, .int .i64 mr, .int .i64 ms, .bool mi]] w (MoveP p x ⟨1, q, ml, mr, ms, mi⟩ w)
  clear hp h0 h1
  by_cases hm : 0 ≤ ml ∧ ml < 2 * p.k
  · obtain ⟨m0, m1⟩ := hm
    obtain ⟨n, rfl⟩ := Int.eq_ofNat_of_zero_le m0
    have hn : n < 16 := by omega
    have HY : Hid (moveR p x ⟨1, q, n, mr, ms, mi⟩ = some (x.take q ++ [ltr n] ++ [ltr (n ^^^ 1)] ++ x.drop q)) := Lib.hid (by
      rw [HR.out, if_pos ⟨m0, m1⟩, ltr_xor n hn]; simp)
    have f1 : decide ((n : Int) < 0) = false := by simp
    have f2 : decide (2 * p.k ≤ (n : Int)) = false := by simp; omega
    have L1 := Lib.hid (fun X => Letter_any n hn X)
    have L2 := Lib.hid (fun X => Letter_any (n ^^^ 1) (xor_lt n hn) X)
    have hx := xor_one n hn
    have hc1 := catC (x.take q) [ltr n] _ rfl
    have hc2 := catC (x.take q ++ [ltr n]) [ltr (n ^^^ 1)] _ rfl
    have hc3 := catC (x.take q ++ [ltr n] ++ [ltr (n ^^^ 1)]) (x.drop q) _ rfl
    have x1 := ex_take x q hq
    have x2 := ex_drop x q
    have z1 : (x.take q ++ [ltr n]).length ≤ 200000 := by simp; omega
    have z2 : (x.take q ++ [ltr n] ++ [ltr (n ^^^ 1)]).length ≤ 200000 := by simp; omega
    have z3 : (x.take q ++ [ltr n] ++ [ltr (n ^^^ 1)] ++ x.drop q).length ≤ 200000 := by simp; omega
    have hq2 : (q : Int) ≤ (x.length : Int) := by omega
    have u1 : (x.take q).length ≤ 100000 := by rw [List.length_take]; omega
    have u2 : (x.drop q).length ≤ 100000 := by rw [List.length_drop]; omega
    have u3 : [ltr n].length ≤ 100000 := by simp
    have u4 : [ltr (n ^^^ 1)].length ≤ 100000 := by simp
    generalize n ^^^ 1 = n' at *
    generalize x.take q ++ [ltr n] ++ [ltr n'] ++ x.drop q = y3 at *
    generalize x.take q ++ [ltr n] ++ [ltr n'] = y2 at *
    generalize x.take q ++ [ltr n] = y1 at *
    generalize [ltr n] = c1 at *
    generalize [ltr n'] = c2 at *
    generalize x.take q = a1 at *
    generalize x.drop q = a2 at *
    have HB : Hid (MvB w p R rc ⟨1, q, n, mr, ms, mi⟩ ((w.alloc (.cells #[.int .i64 p.k, .slice R p.rels.length rc] 24)).alloc (.cells #[.int .i64 1, .int .i64 q, .int .i64 n, .int .i64 mr, .int .i64 ms, .bool mi] 52))) := Lib.hid HB.out
    have s1 : a1.length + c1.length ≤ 9223372036854775807 := by omega
    have s2 : y1.length + c2.length ≤ 9223372036854775807 := by omega
    have s3 : y2.length + a2.length ≤ 9223372036854775807 := by omega
    clear m0 m1
    go_enter Try.func82, Try.ntmps82
    go_wp2_with fail
    generalize ((w.alloc (.cells #[.int .i64 p.k, .slice R p.rels.length rc] 24)).alloc (.cells #[.int .i64 1, .int .i64 q, .int .i64 n, .int .i64 mr, .int .i64 ms, .bool mi] 52)) = w0 at *
    have HBd := Lib.hid (HB.out.below ((Below.refl _ w0).drewN 1))
    have d1 : w0.drew.cell? ⟨w.heap.size + 1, 1, none⟩ = some (.int .i64 q) := HBd.out.mc 1
    have d2 : w0.drew.cell? ⟨w.heap.size + 1, 2, none⟩ = some (.int .i64 n) := HBd.out.mc 2
    refine wp_region_held_drew (S := fun X => X.cell? ⟨w.heap.size + 1, 1, none⟩ = some (.int .i64 q) ∧ X.cell? ⟨w.heap.size + 1, 2, none⟩ = some (.int .i64 n)) (by kernel_rfl) ⟨d1, d2⟩ (fun hHeld => ?_)
    refine wpAnyH_take (i := 0) (v := .string ⟨x.toArray⟩) rfl (by kernel_rfl) (by kernel_rfl) (by kernel_rfl) (fun _ _ _ h => h) (Or.inl ⟨by rfl, by intro w hSw; (try dsimp only at hSw); go_simp⟩) (by assumption) ?_
    refine wpAnyH_take (i := 1) (v := .pointer (some ⟨w.heap.size + 1, 1, none⟩)) rfl (by kernel_rfl) (by kernel_rfl) (by kernel_rfl) (fun _ _ _ h => h) (Or.inl ⟨by rfl, by intro w hSw; (try dsimp only at hSw); go_simp⟩) (by assumption) ?_
    refine wpAnyH_take (i := 2) (v := .int .i64 q) rfl (by kernel_rfl) (by kernel_rfl) (by kernel_rfl) (fun _ _ _ h => h) (Or.inl ⟨by rfl, by intro w hSw; (try dsimp only at hSw); go_simp⟩) (by assumption) ?_
    refine wpAnyH_take (i := 3) (v := .string ⟨a1.toArray⟩) rfl (by kernel_rfl) (by kernel_rfl) (by kernel_rfl) (fun _ _ _ h => h) (Or.inl ⟨by rfl, by intro w hSw; (try dsimp only at hSw); go_simp⟩) (by assumption) ?_
    refine wpAnyH_take (i := 4) (v := .pointer (some ⟨w.heap.size + 1, 2, none⟩)) rfl (by kernel_rfl) (by kernel_rfl) (by kernel_rfl) (fun _ _ _ h => h) (Or.inl ⟨by rfl, by intro w hSw; (try dsimp only at hSw); go_simp⟩) (by assumption) ?_
    refine wpAnyH_take (i := 5) (v := .int .i64 n) rfl (by kernel_rfl) (by kernel_rfl) (by kernel_rfl) (fun _ _ _ h => h) (Or.inl ⟨by rfl, by intro w hSw; (try dsimp only at hSw); go_simp⟩) (by assumption) ?_
    refine wpAnyH_take (i := 8) (v := .pointer (some ⟨w.heap.size + 1, 2, none⟩)) rfl (by kernel_rfl) (by kernel_rfl) (by kernel_rfl) (fun _ _ _ h => h) (Or.inl ⟨by rfl, by intro w hSw; (try dsimp only at hSw); go_simp⟩) (by assumption) ?_
    refine wpAnyH_take (i := 9) (v := .int .i64 n) rfl (by kernel_rfl) (by kernel_rfl) (by kernel_rfl) (fun _ _ _ h => h) (Or.inl ⟨by rfl, by intro w hSw; (try dsimp only at hSw); go_simp⟩) (by assumption) ?_
    refine wpAnyH_take (i := 10) (v := .int .i64 n') rfl (by kernel_rfl) (by kernel_rfl) (by kernel_rfl) (fun _ _ _ h => h) (Or.inl ⟨by rfl, by intro w hSw; (try dsimp only at hSw); go_simp⟩) (by assumption) ?_
    refine wpAnyH_take (i := 13) (v := .string ⟨x.toArray⟩) rfl (by kernel_rfl) (by kernel_rfl) (by kernel_rfl) (fun _ _ _ h => h) (Or.inl ⟨by rfl, by intro w hSw; (try dsimp only at hSw); go_simp⟩) (by assumption) ?_
    refine wpAnyH_take (i := 14) (v := .pointer (some ⟨w.heap.size + 1, 1, none⟩)) rfl (by kernel_rfl) (by kernel_rfl) (by kernel_rfl) (fun _ _ _ h => h) (Or.inl ⟨by rfl, by intro w hSw; (try dsimp only at hSw); go_simp⟩) (by assumption) ?_
    refine wpAnyH_take (i := 15) (v := .int .i64 q) rfl (by kernel_rfl) (by kernel_rfl) (by kernel_rfl) (fun _ _ _ h => h) (Or.inl ⟨by rfl, by intro w hSw; (try dsimp only at hSw); go_simp⟩) (by assumption) ?_
    refine wpAnyH_take (i := 16) (v := .string ⟨a2.toArray⟩) rfl (by kernel_rfl) (by kernel_rfl) (by kernel_rfl) (fun _ _ _ h => h) (Or.inl ⟨by rfl, by intro w hSw; (try dsimp only at hSw); go_simp⟩) (by assumption) ?_
    refine wpAnyH_ready (rs := [6]) (by kernel_rfl) (by simp) ?_
    refine AllReadyH.cons rfl (fun K hK => ?_) (AllReadyH.nil)
    go_simp
    go_wp2_with fail
    refine (L1.out _).mono ?_
    rintro e wA ⟨rfl, hbA⟩
    have HBA := Lib.hid (HBd.out.below hbA)
    clear hbA d1 d2
    refine hK.out _ _ (⟨HBA.out.mc 1, HBA.out.mc 2⟩) (fun hHeld => ?_)
    clear hK K
    refine wpAnyH_take (i := 7) (v := .string ⟨y1.toArray⟩) rfl (by kernel_rfl) (by kernel_rfl) (by kernel_rfl) (fun _ _ _ h => h) (Or.inl ⟨by rfl, by intro w hSw; (try dsimp only at hSw); go_simp⟩) (by assumption) ?_
    refine wpAnyH_ready (rs := [11]) (by kernel_rfl) (by simp) ?_
    refine AllReadyH.cons rfl (fun K hK => ?_) (AllReadyH.nil)
    go_simp
    go_wp2_with fail
    refine (L2.out _).mono ?_
    rintro e wB ⟨rfl, hbB⟩
    have HBB := Lib.hid (HBA.out.below hbB)
    clear hbB
    refine hK.out _ _ (⟨HBB.out.mc 1, HBB.out.mc 2⟩) (fun hHeld => ?_)
    clear hK K
    refine wpAnyH_take (i := 12) (v := .string ⟨y2.toArray⟩) rfl (by kernel_rfl) (by kernel_rfl) (by kernel_rfl) (fun _ _ _ h => h) (Or.inl ⟨by rfl, by intro w hSw; (try dsimp only at hSw); go_simp⟩) (by assumption) ?_
    refine wpAnyH_take (i := 17) (v := .string ⟨y3.toArray⟩) rfl (by kernel_rfl) (by kernel_rfl) (by kernel_rfl) (fun _ _ _ h => h) (Or.inl ⟨by rfl, by intro w hSw; (try dsimp only at hSw); go_simp⟩) (by assumption) ?_
    refine wpAnyH_take (i := 18) (v := .string ⟨y3.toArray⟩) rfl (by kernel_rfl) (by kernel_rfl) (by kernel_rfl) (fun _ _ _ h => h) (Or.inl ⟨by rfl, by intro w hSw; (try dsimp only at hSw); go_simp⟩) (by assumption) ?_
    refine wpAnyH_take (i := 19) (v := .slice none 0 0) rfl (by kernel_rfl) (by kernel_rfl) (by kernel_rfl) (fun _ _ _ h => h) (Or.inl ⟨by rfl, by intro w hSw; (try dsimp only at hSw); go_simp⟩) (by assumption) ?_
    refine wpAnyH_take (i := 20) (v := .bool true) rfl (by kernel_rfl) (by kernel_rfl) (by kernel_rfl) (fun _ _ _ h => h) (Or.inl ⟨by rfl, by intro w hSw; (try dsimp only at hSw); go_simp⟩) (by assumption) ?_
    refine wpAnyH_done (by kernel_rfl) ?_ _
    go_wp2
    go_ret3
    exact move_pair HY.out HM.out HBB.out.old
  · have HY : Hid (moveR p x ⟨1, q, ml, mr, ms, mi⟩ = none) := Lib.hid (by rw [HR.out, if_neg hm])
    have hP0 : ((w.alloc (.cells #[.int .i64 p.k, .slice R p.rels.length rc] 24)).alloc (.cells #[.int .i64 1, .int .i64 q, .int .i64 ml, .int .i64 mr, .int .i64 ms, .bool mi] 52)).cell? ⟨w.heap.size, 0, none⟩ = some (.int .i64 p.k) := HB.out.pc 0
    by_cases h0 : ml < 0
    · have f1 : decide (ml < 0) = true := by simpa using h0
      clear hm
      go_enter Try.func82, Try.ntmps82
      go_wp2
      go_ret3
      exact move_no HY.out HB.out.old
    · have f1 : decide (ml < 0) = false := by simpa using h0
      have f2 : decide (2 * p.k ≤ ml) = true := by simp; omega
      clear hm
      go_enter Try.func82, Try.ntmps82
      go_wp2
      go_ret3
      exact move_no HY.out HB.out.old
end Go.Proofs.Ytbcckfggnlmhoaa
