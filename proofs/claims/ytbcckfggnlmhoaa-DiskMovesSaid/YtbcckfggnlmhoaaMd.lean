/-
  Our own text, in the proof of the law DiskMoves of package disk (cayleylaw04). Proved here: move of the reference, where a relator is inserted or deleted. Conditions: the presentation is valid, the word's letters are its letters.
-/
import Derived.Test.YtbcckfggnlmhoaaMb
import Derived.Test.YtbcckfggnlmhoaaLi
import Derived.Deep.CutRange
namespace Go.Proofs.Ytbcckfggnlmhoaa
open Go Go.RowKit

theorem MvB.three {w : World} {p : Pr} {R : Option Addr} {rc : Nat} {mk mp ml mr ms : Int} {mi : Bool} {X : World} (h : MvB w p R rc ⟨mk, mp, ml, mr, ms, mi⟩ X) : X.cell? ⟨w.heap.size + 1, 1, none⟩ = some (.int .i64 mp) ∧ X.cell? ⟨w.heap.size + 1, 3, none⟩ = some (.int .i64 mr) ∧ X.cell? ⟨w.heap.size + 1, 5, none⟩ = some (.bool mi) := ⟨h.mc 1, h.mc 3, h.mc 5⟩
theorem MvB.alc {w : World} {p : Pr} {R : Option Addr} {rc : Nat} {m : Mv} {X : World} (h : MvB w p R rc m X) (o : Obj) : MvB w p R rc m (X.alloc o) := h.below ((Below.refl _ _).alloc (Nat.le_refl _) _)
theorem MvB.alcd {w : World} {p : Pr} {R : Option Addr} {rc : Nat} {m : Mv} {X : World} (h : MvB w p R rc m X) (o : Obj) : MvB w p R rc m (X.alloc o).drew := (h.alc o).below ((Below.refl _ _).drewN 1)
/-- The variable of the cell, in block cb. -/
structure CSt (w : World) (p : Pr) (R : Option Addr) (rc : Nat) (m : Mv) (cb : Nat) (c : List UInt8) (r : Int) (i : Bool) (X : World) : Prop where
  box : MvB w p R rc m X
  lo : w.heap.size + 1 < cb
  hi : cb < X.heap.size
  c0 : X.cell? ⟨cb, 0, none⟩ = some (.string ⟨c.toArray⟩)
  c1 : X.cell? ⟨cb, 1, none⟩ = some (.int .i64 r)
  c2 : X.cell? ⟨cb, 2, none⟩ = some (.bool i)
  f2 : X.frozen? ⟨cb, 2, none⟩ = false

/-- A fresh variable of a cell, seen later. -/
theorem zero_kept {X Y : World} (hb : Below (X.alloc (.cells #[.string ⟨#[]⟩, .int .i64 0, .bool false] 61)).heap.size (X.alloc (.cells #[.string ⟨#[]⟩, .int .i64 0, .bool false] 61)) Y) :
    (Y.cell? ⟨X.heap.size, 0, none⟩ = some (.string ⟨#[]⟩) ∧ Y.cell? ⟨X.heap.size, 1, none⟩ = some (.int .i64 0) ∧ Y.cell? ⟨X.heap.size, 2, none⟩ = some (.bool false)) ∧ (∀ i, Y.frozen? ⟨X.heap.size, i, none⟩ = false) ∧ X.heap.size < Y.heap.size := by
  have hs : X.heap.size < (X.alloc (.cells #[.string ⟨#[]⟩, .int .i64 0, .bool false] 61)).heap.size := by simp
  have hc : ∀ i, Y.cell? ⟨X.heap.size, i, none⟩ = (#[.string ⟨#[]⟩, .int .i64 0, .bool false] : Array Value)[i]? := fun i => (hb.cell (p := ⟨X.heap.size, i, none⟩) hs).trans (alloc_cell _ _ _ _)
  exact ⟨⟨hc 0, hc 1, hc 2⟩, fun i => (hb.frozen (p := ⟨X.heap.size, i, none⟩) hs).trans (frozen_new _ _ _ _), Nat.lt_of_lt_of_le hs hb.size⟩
theorem MvB.set {w : World} {p : Pr} {R : Option Addr} {rc : Nat} {m : Mv} {X : World} (h : MvB w p R rc m X) (b i : Nat) (v : Value) (hb : w.heap.size + 1 < b) : MvB w p R rc m (X.setCell ⟨b, i, none⟩ v) := by
  have hl := h.lt
  refine ⟨h.old.setCell (p := ⟨b, i, none⟩) (by simp only; omega) v, by rw [World.size_setCell]; exact hl, fun j => ?_, fun j => ?_⟩
  · rw [World.cell?_setCell_other (h := by intro e; cases e; omega)]; exact h.pc j
  · rw [World.cell?_setCell_other (h := by intro e; cases e; omega)]; exact h.mc j
theorem cst_set {w : World} {p : Pr} {R : Option Addr} {rc : Nat} {m : Mv} {X : World} (h : MvB w p R rc m X) {cb : Nat} (hlo : w.heap.size + 1 < cb) (hz : (X.cell? ⟨cb, 0, none⟩ = some (.string ⟨#[]⟩) ∧ X.cell? ⟨cb, 1, none⟩ = some (.int .i64 0) ∧ X.cell? ⟨cb, 2, none⟩ = some (.bool false)) ∧ (∀ i, X.frozen? ⟨cb, i, none⟩ = false) ∧ cb < X.heap.size) (c : List UInt8) (r : Int) (i : Bool) :
    CSt w p R rc m cb c r i (((X.setCell ⟨cb, 0, none⟩ (.string ⟨c.toArray⟩)).setCell ⟨cb, 1, none⟩ (.int .i64 r)).setCell ⟨cb, 2, none⟩ (.bool i)) := by
  obtain ⟨⟨z0, z1, z2⟩, zf, zl⟩ := hz
  refine ⟨((h.set cb 0 _ hlo).set cb 1 _ hlo).set cb 2 _ hlo, hlo, by rw [World.size_setCell, World.size_setCell, World.size_setCell]; exact zl, ?_, ?_, ?_, ?_⟩
  · rw [World.cell?_setCell_other (h := by simp), World.cell?_setCell_other (h := by simp)]; exact World.cell?_setCell_same _ _ _ z0
  · rw [World.cell?_setCell_other (h := by simp)]; exact World.cell?_setCell_same _ _ _ (by rw [World.cell?_setCell_other (h := by simp)]; exact z1)
  · exact World.cell?_setCell_same _ _ _ (by rw [World.cell?_setCell_other (h := by simp), World.cell?_setCell_other (h := by simp)]; exact z2)
  · rw [World.frozen?_setCell, World.frozen?_setCell, World.frozen?_setCell]; exact zf 2
theorem cst_new {w : World} {p : Pr} {R : Option Addr} {rc : Nat} {m : Mv} {X : World} (h : MvB w p R rc m X) (c : List UInt8) (r : Int) (i : Bool) : CSt w p R rc m X.heap.size c r i (X.alloc (.cells (celC c r i) 61)) :=
  ⟨h.alc _, h.lt, by simp, alloc_cell _ _ _ _, alloc_cell _ _ _ _, alloc_cell _ _ _ _, frozen_new _ _ _ _⟩

theorem CSt.flip {w : World} {p : Pr} {R : Option Addr} {rc : Nat} {m : Mv} {cb : Nat} {c : List UInt8} {r : Int} {i : Bool} {X : World} (h : CSt w p R rc m cb c r i X) : CSt w p R rc m cb c r (!i) (X.setCell ⟨cb, 2, none⟩ (.bool !i)) :=
  ⟨h.box.set cb 2 _ h.lo, h.lo, by rw [World.size_setCell]; exact h.hi, by rw [World.cell?_setCell_other (h := by simp)]; exact h.c0, by rw [World.cell?_setCell_other (h := by simp)]; exact h.c1, World.cell?_setCell_same _ _ _ h.c2, by rw [World.frozen?_setCell]; exact h.f2⟩
theorem CSt.four {w : World} {p : Pr} {R : Option Addr} {rc cb : Nat} {mk mp ml mr ms : Int} {mi : Bool} {c : List UInt8} {r : Int} {i : Bool} {X Y : World} (h : CSt w p R rc ⟨mk, mp, ml, mr, ms, mi⟩ cb c r i X) (hb : Below X.heap.size X Y) :
    Y.cell? ⟨w.heap.size + 1, 1, none⟩ = some (.int .i64 mp) ∧ Y.cell? ⟨cb, 0, none⟩ = some (.string ⟨c.toArray⟩) ∧ Y.cell? ⟨cb, 1, none⟩ = some (.int .i64 r) ∧ Y.cell? ⟨cb, 2, none⟩ = some (.bool i) :=
  ⟨(h.box.below hb).mc 1, (hb.cell (p := ⟨cb, 0, none⟩) h.hi).trans h.c0, (hb.cell (p := ⟨cb, 1, none⟩) h.hi).trans h.c1, (hb.cell (p := ⟨cb, 2, none⟩) h.hi).trans h.c2⟩

set_option maxHeartbeats 8000000 in
set_option maxRecDepth 100000 in
theorem move_insRel (p : Pr) (R : Option Addr) (rc : Nat) (x : List UInt8) (m : Mv) (w : World) (hp : presB p = true) (hr : RelsAt w R p.rels) (hl : x.length ≤ 100000) (ha : x.all (letB p.k) = true) (h0 : 0 ≤ m.pos) (h1 : m.pos ≤ x.length) (hk : m.kind = 3) : Calls Try.prog 82 #[prV p.k R p.rels.length rc, .string ⟨x.toArray⟩, mvV m] w (MoveP p x m w) := by
  obtain ⟨k1, k8, _⟩ := presB_k hp
  have HR : Hid (moveR p x m = (match rotOf p m with | some v => some (x.take m.pos.toNat ++ v ++ x.drop m.pos.toNat) | none => none)) := Lib.hid (by unfold moveR; rw [if_pos ⟨h0, h1⟩, if_neg (by omega), if_neg (by omega), if_pos hk]; cases rotOf p m <;> rfl)
  have HM : Hid (isRM m = true) := Lib.hid (by unfold isRM; rw [hk]; rfl)
  have HB := Lib.hid (MvB.start w p R rc m)
  have HTS : Hid (turnS p m = (rotOf p m).getD []) := Lib.hid rfl
  have HTF : Hid ((rotOf p m).isSome = true → turnF p m = (relOf p m.rel m.inv).take m.shift.toNat) := Lib.hid (fun h => if_pos h)
  have HRT : Hid (∀ v, rotOf p m = some v → isRelB p m.rel = true) := Lib.hid (fun v hv => (rotOf_some hv).1)
  have HCM : Hid (cellM p x m = ⟨red (x.take m.pos.toNat ++ invW ((relOf p m.rel m.inv).take m.shift.toNat)), m.rel, m.inv != decide (m.kind = 3)⟩) := Lib.hid rfl
  have HT := Lib.hid (fun X (hX : Below w.heap.size w X) => turned_any p R rc m X hp (hr.below hX))
  have HLN : Hid (∀ v, rotOf p m = some v → v.length ≤ 200) := Lib.hid (fun v hv => by rw [rot_len hv]; exact relOf_len hp (rotOf_some hv).1 _)
  obtain ⟨mk, mp, ml, mr, ms, mi⟩ := m
  simp only at h0 h1 hk
  subst hk
  obtain ⟨q, rfl⟩ := Int.eq_ofNat_of_zero_le h0
  have hq : q ≤ x.length := by omega
  have hsz : (ByteArray.mk x.toArray).size = x.length := size_mk x
  have e1 : decide ((q : Int) < 0) = false := by simp
  have e2 : decide ((x.length : Int) < (q : Int)) = false := by simp; omega
  have e2' : decide (x.length < q) = false := by simp; omega
  have hq2 : (q : Int) ≤ (x.length : Int) := by omega
  simp only [Int.toNat_natCast] at HR HCM
  show Calls Try.prog 82 #[prV p.k R p.rels.length rc, .string ⟨x.toArray⟩, .agg #[.int .i64 3, .int .i64 q, .int .i64 ml, .int .i64 mr, .int .i64 ms, .bool mi]] w (MoveP p x ⟨3, q, ml, mr, ms, mi⟩ w)
  have HB : Hid (MvB w p R rc ⟨3, q, ml, mr, ms, mi⟩ ((w.alloc (.cells #[.int .i64 p.k, .slice R p.rels.length rc] 24)).alloc (.cells #[.int .i64 3, .int .i64 q, .int .i64 ml, .int .i64 mr, .int .i64 ms, .bool mi] 52))) := Lib.hid HB.out
  have HP := Lib.hid hp
  clear h0 h1 hp hr
  have hT : Calls Try.prog 83 #[prV p.k R p.rels.length rc, .agg #[.int .i64 3, .int .i64 q, .int .i64 ml, .int .i64 mr, .int .i64 ms, .bool mi]] ((w.alloc (.cells #[.int .i64 p.k, .slice R p.rels.length rc] 24)).alloc (.cells #[.int .i64 3, .int .i64 q, .int .i64 ml, .int .i64 mr, .int .i64 ms, .bool mi] 52)) _ := HT.out _ HB.out.old
  clear HT
  go_enter Try.func82, Try.ntmps82
  go_wp2_with fail
  generalize ((w.alloc (.cells #[.int .i64 p.k, .slice R p.rels.length rc] 24)).alloc (.cells #[.int .i64 3, .int .i64 q, .int .i64 ml, .int .i64 mr, .int .i64 ms, .bool mi] 52)) = w0 at *
  refine hT.mono ?_
  rintro e w1 ⟨rfl, hb1⟩
  have HB1 := Lib.hid (HB.out.below hb1)
  clear hT hb1
  cases hv : rotOf p ⟨3, q, ml, mr, ms, mi⟩ with
  | none =>
    have HY : Hid (moveR p x ⟨3, q, ml, mr, ms, mi⟩ = none) := Lib.hid (by rw [HR.out, hv])
    simp only [Option.isSome_none]
    clear hv
    go_wp2
    go_ret3
    exact move_no HY.out HB1.out.old
  | some v =>
    have hrel := HRT.out v hv
    have hvl := HLN.out v hv
    have HSS : Hid (turnS p ⟨3, q, ml, mr, ms, mi⟩ = v) := Lib.hid (by rw [HTS.out, hv]; rfl)
    have HFF := Lib.hid (HTF.out (by rw [hv]; rfl))
    rw [hv] at HR
    have ht := relOf_all HP.out hrel mi
    have htl := relOf_len HP.out hrel mi
    have hfa : ((relOf p mr mi).take ms.toNat).all (letB 8) = true := all_mono k8 (all_take _ ht)
    have hfl : ((relOf p mr mi).take ms.toNat).length ≤ 200 := by rw [List.length_take]; omega
    have hal : (x.take q).all (letB 8) = true := all_mono k8 (all_take _ ha)
    have u1 : (x.take q).length ≤ 100000 := by rw [List.length_take]; omega
    have u2 : (x.drop q).length ≤ 100000 := by rw [List.length_drop]; omega
    have x1 := ex_take x q hq
    have x2 := ex_drop x q
    simp only [Option.isSome_some]
    rw [HSS.out, HFF.out]
    clear hv HTS HTF HRT HLN ht htl ha HSS HFF
    generalize (relOf p mr mi).take ms.toNat = f at *
    generalize ha1 : x.take q = a1 at *
    generalize ha2 : x.drop q = a2 at *
    have HA1 := Lib.hid ha1
    have HA2 := Lib.hid ha2
    clear ha1 ha2
    have hcat := catC a1 (invW f) _ rfl
    have hil : (invW f).length = f.length := ginv_len _ _
    have u3 : (a1 ++ invW f).length ≤ 200000 := by rw [List.length_append, hil]; omega
    have u4 : (invW f).length ≤ 1000 := by rw [hil]; omega
    have L26 : Hid (∀ X, Calls Try.prog 26 #[.string ⟨f.toArray⟩] X fun e w' => e = .returned (.string ⟨(invW f).toArray⟩) ∧ Below X.heap.size X w') := Lib.hid (fun X => Invert_any ⟨f.toArray⟩ X hfa (by rw [size_mk]; omega))
    have L25 : Hid (∀ X, Calls Try.prog 25 #[.string ⟨(a1 ++ invW f).toArray⟩] X fun e w' => e = .returned (.string ⟨(red (a1 ++ invW f)).toArray⟩) ∧ Below X.heap.size X w') := Lib.hid (fun X => Reduce_any ⟨(a1 ++ invW f).toArray⟩ X (by
      show (a1 ++ ginv invc f).all (letB 8) = true
      exact all_app hal (all_invW hfa)) (by rw [size_mk]; omega))
    have hcl : (red (a1 ++ invW f)).length ≤ 200000 := Nat.le_trans (red_len _) u3
    clear hil
    generalize red (a1 ++ invW f) = cj at *
    generalize a1 ++ invW f = ai at *
    generalize invW f = fi at *
    have u5 : a1.length + fi.length ≤ 9223372036854775807 := by omega
    go_upto_region 17 with (fail)
    go_cut [12] from 99 to 111 (fun s12 wx => ∃ cb, s12 = .pointer (some ⟨cb, 0, none⟩) ∧ CSt w p R rc ⟨3, q, ml, mr, ms, mi⟩ cb cj mr mi wx)
    case first =>
      have HBd := Lib.hid (HB1.out.below ((Below.refl _ w1).drewN 1))
      refine wp_region_held_drew (S := fun X => X.cell? ⟨w.heap.size + 1, 1, none⟩ = some (.int .i64 q) ∧ X.cell? ⟨w.heap.size + 1, 3, none⟩ = some (.int .i64 mr) ∧ X.cell? ⟨w.heap.size + 1, 5, none⟩ = some (.bool mi)) (by kernel_rfl) HBd.out.three (fun hHeld => ?_)
      refine wpAnyH_take (i := 0) (v := .string ⟨x.toArray⟩) rfl (by kernel_rfl) (by kernel_rfl) (by kernel_rfl) (fun _ _ _ h => h) (Or.inl ⟨by rfl, by intro w hSw; (try dsimp only at hSw); go_simp⟩) (by assumption) ?_
      refine wpAnyH_take (i := 1) (v := .pointer (some ⟨w.heap.size + 1, 1, none⟩)) rfl (by kernel_rfl) (by kernel_rfl) (by kernel_rfl) (fun _ _ _ h => h) (Or.inl ⟨by rfl, by intro w hSw; (try dsimp only at hSw); go_simp⟩) (by assumption) ?_
      refine wpAnyH_take (i := 2) (v := .int .i64 q) rfl (by kernel_rfl) (by kernel_rfl) (by kernel_rfl) (fun _ _ _ h => h) (Or.inl ⟨by rfl, by intro w hSw; (try dsimp only at hSw); go_simp⟩) (by assumption) ?_
      refine wpAnyH_take (i := 3) (v := .string ⟨a1.toArray⟩) rfl (by kernel_rfl) (by kernel_rfl) (by kernel_rfl) (fun _ _ _ h => h) (Or.inl ⟨by rfl, by intro w hSw; (try dsimp only at hSw); go_simp⟩) (by assumption) ?_
      refine wpAnyH_take (i := 4) (v := .string ⟨f.toArray⟩) rfl (by kernel_rfl) (by kernel_rfl) (by kernel_rfl) (fun _ _ _ h => h) (Or.inl ⟨by rfl, by intro w hSw; (try dsimp only at hSw); go_simp⟩) (by assumption) ?_
      refine wpAnyH_take (i := 8) (v := .pointer (some ⟨w.heap.size + 1, 3, none⟩)) rfl (by kernel_rfl) (by kernel_rfl) (by kernel_rfl) (fun _ _ _ h => h) (Or.inl ⟨by rfl, by intro w hSw; (try dsimp only at hSw); go_simp⟩) (by assumption) ?_
      refine wpAnyH_take (i := 9) (v := .int .i64 mr) rfl (by kernel_rfl) (by kernel_rfl) (by kernel_rfl) (fun _ _ _ h => h) (Or.inl ⟨by rfl, by intro w hSw; (try dsimp only at hSw); go_simp⟩) (by assumption) ?_
      refine wpAnyH_take (i := 10) (v := .pointer (some ⟨w.heap.size + 1, 5, none⟩)) rfl (by kernel_rfl) (by kernel_rfl) (by kernel_rfl) (fun _ _ _ h => h) (Or.inl ⟨by rfl, by intro w hSw; (try dsimp only at hSw); go_simp⟩) (by assumption) ?_
      refine wpAnyH_take (i := 11) (v := .bool mi) rfl (by kernel_rfl) (by kernel_rfl) (by kernel_rfl) (fun _ _ _ h => h) (Or.inl ⟨by rfl, by intro w hSw; (try dsimp only at hSw); go_simp⟩) (by assumption) ?_
      refine wpAnyH_ready (rs := [5, 13]) (by kernel_rfl) (by simp) ?_
      refine AllReadyH.cons rfl (fun K hK => ?_) (AllReadyH.cons rfl (fun K hK => ?_) (AllReadyH.nil))
      · go_simp
        go_wp2_with fail
        refine (L26.out _).mono ?_
        rintro e wA ⟨rfl, hbA⟩
        have HBA := Lib.hid (HBd.out.below hbA)
        clear hbA
        refine hK.out _ _ (HBA.out.three) (fun hHeld => ?_)
        clear hK K
        refine wpAnyH_take (i := 6) (v := .string ⟨ai.toArray⟩) rfl (by kernel_rfl) (by kernel_rfl) (by kernel_rfl) (fun _ _ _ h => h) (Or.inl ⟨by rfl, by intro w hSw; (try dsimp only at hSw); go_simp⟩) (by assumption) ?_
        refine wpAnyH_ready (rs := [7, 13]) (by kernel_rfl) (by simp) ?_
        refine AllReadyH.cons rfl (fun K hK => ?_) (AllReadyH.cons rfl (fun K hK => ?_) (AllReadyH.nil))
        · go_simp
          go_wp2_with fail
          refine (L25.out _).mono ?_
          rintro e wB ⟨rfl, hbB⟩
          have HBB := Lib.hid (HBA.out.below hbB)
          have HCS := Lib.hid (cst_new HBB.out cj mr mi)
          clear hbB
          refine hK.out _ _ (HBB.out.three) (fun hHeld => ?_)
          clear hK K
          refine wpAnyH_take (i := 12) (v := .agg #[.string ⟨cj.toArray⟩, .int .i64 mr, .bool mi]) rfl (by kernel_rfl) (by kernel_rfl) (by kernel_rfl) (fun _ _ _ h => h) (Or.inl ⟨by rfl, by intro w hSw; (try dsimp only at hSw); go_simp⟩) (by assumption) ?_
          refine wpAnyH_ready (rs := [13]) (by kernel_rfl) (by simp) ?_
          refine AllReadyH.cons rfl (fun K hK => ?_) (AllReadyH.nil)
          go_simp
          refine hK.out _ _ ((HBB.out.alc _).three) (fun hHeld => ?_)
          clear hK K
          refine wpAnyH_ready (rs := [14]) (by kernel_rfl) (by simp) ?_
          refine AllReadyH.cons rfl (fun K hK => ?_) (AllReadyH.nil)
          go_simp
          refine hK.out _ _ (HCS.out.box.three) (fun hHeld => ?_)
          clear hK K
          refine wpAnyH_done (by kernel_rfl) ?_ _
          go_wp2_with fail
          go_meet
          exact ⟨_, rfl, HCS.out⟩
        · go_simp
          refine hK.out _ _ ((HBA.out.alc _).three) (fun hHeld => ?_)
          clear hK K
          refine wpAnyH_ready (rs := [7]) (by kernel_rfl) (by simp) ?_
          refine AllReadyH.cons rfl (fun K hK => ?_) (AllReadyH.nil)
          go_simp
          go_wp2_with fail
          refine (L25.out _).mono ?_
          rintro e wB ⟨rfl, hbB⟩
          have HBB := Lib.hid ((HBA.out.alc _).below hbB)
          have HZ := Lib.hid (zero_kept (X := wA) hbB)
          have HCS := Lib.hid (cst_set HBB.out HBA.out.lt HZ.out cj mr mi)
          clear hbB
          refine hK.out _ _ (HBB.out.three) (fun hHeld => ?_)
          clear hK K
          refine wpAnyH_take (i := 12) (v := .agg #[.string ⟨cj.toArray⟩, .int .i64 mr, .bool mi]) rfl (by kernel_rfl) (by kernel_rfl) (by kernel_rfl) (fun _ _ _ h => h) (Or.inl ⟨by rfl, by intro w hSw; (try dsimp only at hSw); go_simp⟩) (by assumption) ?_
          obtain ⟨⟨z0, z1, z2⟩, zf, zl⟩ := HZ.out
          have zf0 := zf 0
          have zf1 := zf 1
          have zf2 := zf 2
          refine wpAnyH_ready (rs := [14]) (by kernel_rfl) (by simp) ?_
          refine AllReadyH.cons rfl (fun K hK => ?_) (AllReadyH.nil)
          go_simp
          refine hK.out _ _ (HCS.out.box.three) (fun hHeld => ?_)
          clear hK K
          refine wpAnyH_done (by kernel_rfl) ?_ _
          go_wp2_with fail
          go_meet
          exact ⟨_, rfl, HCS.out⟩
      · go_simp
        refine hK.out _ _ ((HB1.out.alcd _).three) (fun hHeld => ?_)
        clear hK K
        refine wpAnyH_ready (rs := [5]) (by kernel_rfl) (by simp) ?_
        refine AllReadyH.cons rfl (fun K hK => ?_) (AllReadyH.nil)
        go_simp
        go_wp2_with fail
        refine (L26.out _).mono ?_
        rintro e wA ⟨rfl, hbA⟩
        have HBA := Lib.hid ((HB1.out.alcd _).below hbA)
        have HKA := Lib.hid hbA
        clear hbA
        refine hK.out _ _ (HBA.out.three) (fun hHeld => ?_)
        clear hK K
        refine wpAnyH_take (i := 6) (v := .string ⟨ai.toArray⟩) rfl (by kernel_rfl) (by kernel_rfl) (by kernel_rfl) (fun _ _ _ h => h) (Or.inl ⟨by rfl, by intro w hSw; (try dsimp only at hSw); go_simp⟩) (by assumption) ?_
        refine wpAnyH_ready (rs := [7]) (by kernel_rfl) (by simp) ?_
        refine AllReadyH.cons rfl (fun K hK => ?_) (AllReadyH.nil)
        go_simp
        go_wp2_with fail
        refine (L25.out _).mono ?_
        rintro e wB ⟨rfl, hbB⟩
        have HBB := Lib.hid (HBA.out.below hbB)
        have HZ := Lib.hid (zero_kept (X := w1) (((Below.refl _ _).drewN 1).trans (HKA.out.trans (hbB.mono HKA.out.size))))
        have HCS := Lib.hid (cst_set HBB.out HB1.out.lt HZ.out cj mr mi)
        clear hbB
        refine hK.out _ _ (HBB.out.three) (fun hHeld => ?_)
        clear hK K
        refine wpAnyH_take (i := 12) (v := .agg #[.string ⟨cj.toArray⟩, .int .i64 mr, .bool mi]) rfl (by kernel_rfl) (by kernel_rfl) (by kernel_rfl) (fun _ _ _ h => h) (Or.inl ⟨by rfl, by intro w hSw; (try dsimp only at hSw); go_simp⟩) (by assumption) ?_
        obtain ⟨⟨z0, z1, z2⟩, zf, zl⟩ := HZ.out
        have zf0 := zf 0
        have zf1 := zf 1
        have zf2 := zf 2
        refine wpAnyH_ready (rs := [14]) (by kernel_rfl) (by simp) ?_
        refine AllReadyH.cons rfl (fun K hK => ?_) (AllReadyH.nil)
        go_simp
        refine hK.out _ _ (HCS.out.box.three) (fun hHeld => ?_)
        clear hK K
        refine wpAnyH_done (by kernel_rfl) ?_ _
        go_wp2_with fail
        go_meet
        exact ⟨_, rfl, HCS.out⟩
    case rest =>
      obtain ⟨cb, rfl, hcs⟩ := hcut
      have HC6 := Lib.hid hcs.flip
      have HCEL : Hid (cellM p x ⟨3, q, ml, mr, ms, mi⟩ = ⟨cj, mr, !mi⟩) := Lib.hid (by rw [HCM.out]; cases mi <;> rfl)
      have HY : Hid (moveR p x ⟨3, q, ml, mr, ms, mi⟩ = some (a1 ++ v ++ a2)) := Lib.hid (by rw [HR.out])
      have b0 : wc.cell? ⟨w.heap.size + 1, 0, none⟩ = some (.int .i64 3) := hcs.box.mc 0
      have d2 := hcs.c2
      have df := hcs.f2
      have hc2 := catC a1 v _ rfl
      have hc3 := catC (a1 ++ v) a2 _ rfl
      have y1 : (a1 ++ v).length ≤ 200000 := by rw [List.length_append]; omega
      have y2 : (a1 ++ v ++ a2).length ≤ 400000 := by rw [List.length_append]; omega
      generalize a1 ++ v ++ a2 = yy at *
      generalize a1 ++ v = av at *
      have y3 : a1.length + v.length ≤ 9223372036854775807 := by omega
      have y4 : av.length + a2.length ≤ 9223372036854775807 := by omega
      clear hcs
      go_wp2_with fail
      generalize wc.setCell ⟨cb, 2, none⟩ (.bool !mi) = w6 at *
      have HD6 := Lib.hid (HC6.out.four (Y := w6.drew) ((Below.refl _ w6).drewN 1))
      have HD7 := Lib.hid (HC6.out.four (Y := (w6.alloc (.cells (celC cj mr (!mi)) 61)).drew) (((Below.refl _ w6).alloc (Nat.le_refl _) (.cells (celC cj mr (!mi)) 61)).drewN 1))
      have HCA : Hid (CellsAt (w6.alloc (.cells (celC cj mr (!mi)) 61)).drew (some ⟨w6.heap.size, 0, none⟩) [cellM p x ⟨3, q, ml, mr, ms, mi⟩]) := Lib.hid (by rw [HCEL.out]; exact (cellOne w6 cj mr (!mi) 61 (by omega)).below ((Below.refl _ _).drewN 1))
      have HBZ : Hid (Below w.heap.size w (w6.alloc (.cells (celC cj mr (!mi)) 61)).drew) := Lib.hid ((HC6.out.box.alcd _).old)
      clear b0 d2 df
      generalize (!mi) = ni at *
      refine wp_region_held_drew (S := fun X => X.cell? ⟨w.heap.size + 1, 1, none⟩ = some (.int .i64 q) ∧ X.cell? ⟨cb, 0, none⟩ = some (.string ⟨cj.toArray⟩) ∧ X.cell? ⟨cb, 1, none⟩ = some (.int .i64 mr) ∧ X.cell? ⟨cb, 2, none⟩ = some (.bool ni)) (by kernel_rfl) HD6.out (fun hHeld => ?_)
      refine wpAnyH_take (i := 0) (v := .string ⟨x.toArray⟩) rfl (by kernel_rfl) (by kernel_rfl) (by kernel_rfl) (fun _ _ _ h => h) (Or.inl ⟨by rfl, by intro w hSw; (try dsimp only at hSw); go_simp⟩) (by assumption) ?_
      refine wpAnyH_take (i := 1) (v := .pointer (some ⟨w.heap.size + 1, 1, none⟩)) rfl (by kernel_rfl) (by kernel_rfl) (by kernel_rfl) (fun _ _ _ h => h) (Or.inl ⟨by rfl, by intro w hSw; (try dsimp only at hSw); go_simp⟩) (by assumption) ?_
      refine wpAnyH_take (i := 2) (v := .int .i64 q) rfl (by kernel_rfl) (by kernel_rfl) (by kernel_rfl) (fun _ _ _ h => h) (Or.inl ⟨by rfl, by intro w hSw; (try dsimp only at hSw); go_simp⟩) (by assumption) ?_
      refine wpAnyH_take (i := 3) (v := .string ⟨a1.toArray⟩) rfl (by kernel_rfl) (by kernel_rfl) (by kernel_rfl) (fun _ _ _ h => h) (Or.inl ⟨by rfl, by intro w hSw; (try dsimp only at hSw); go_simp⟩) (by assumption) ?_
      refine wpAnyH_take (i := 4) (v := .string ⟨v.toArray⟩) rfl (by kernel_rfl) (by kernel_rfl) (by kernel_rfl) (fun _ _ _ h => h) (Or.inl ⟨by rfl, by intro w hSw; (try dsimp only at hSw); go_simp⟩) (by assumption) ?_
      refine wpAnyH_take (i := 5) (v := .string ⟨av.toArray⟩) rfl (by kernel_rfl) (by kernel_rfl) (by kernel_rfl) (fun _ _ _ h => h) (Or.inl ⟨by rfl, by intro w hSw; (try dsimp only at hSw); go_simp⟩) (by assumption) ?_
      refine wpAnyH_take (i := 6) (v := .string ⟨x.toArray⟩) rfl (by kernel_rfl) (by kernel_rfl) (by kernel_rfl) (fun _ _ _ h => h) (Or.inl ⟨by rfl, by intro w hSw; (try dsimp only at hSw); go_simp⟩) (by assumption) ?_
      refine wpAnyH_take (i := 7) (v := .pointer (some ⟨w.heap.size + 1, 1, none⟩)) rfl (by kernel_rfl) (by kernel_rfl) (by kernel_rfl) (fun _ _ _ h => h) (Or.inl ⟨by rfl, by intro w hSw; (try dsimp only at hSw); go_simp⟩) (by assumption) ?_
      refine wpAnyH_take (i := 8) (v := .int .i64 q) rfl (by kernel_rfl) (by kernel_rfl) (by kernel_rfl) (fun _ _ _ h => h) (Or.inl ⟨by rfl, by intro w hSw; (try dsimp only at hSw); go_simp⟩) (by assumption) ?_
      refine wpAnyH_take (i := 9) (v := .string ⟨a2.toArray⟩) rfl (by kernel_rfl) (by kernel_rfl) (by kernel_rfl) (fun _ _ _ h => h) (Or.inl ⟨by rfl, by intro w hSw; (try dsimp only at hSw); go_simp⟩) (by assumption) ?_
      refine wpAnyH_take (i := 10) (v := .string ⟨yy.toArray⟩) rfl (by kernel_rfl) (by kernel_rfl) (by kernel_rfl) (fun _ _ _ h => h) (Or.inl ⟨by rfl, by intro w hSw; (try dsimp only at hSw); go_simp⟩) (by assumption) ?_
      refine wpAnyH_take (i := 11) (v := .agg #[.string ⟨cj.toArray⟩, .int .i64 mr, .bool ni]) rfl (by kernel_rfl) (by kernel_rfl) (by kernel_rfl) (fun _ _ _ h => h) (Or.inl ⟨by rfl, by intro w hSw; (try dsimp only at hSw); go_simp⟩) (by assumption) ?_
      refine wpAnyH_take (i := 13) (v := .string ⟨yy.toArray⟩) rfl (by kernel_rfl) (by kernel_rfl) (by kernel_rfl) (fun _ _ _ h => h) (Or.inl ⟨by rfl, by intro w hSw; (try dsimp only at hSw); go_simp⟩) (by assumption) ?_
      refine wpAnyH_ready (rs := [12]) (by kernel_rfl) (by simp) ?_
      refine AllReadyH.cons rfl (fun K hK => ?_) (AllReadyH.nil)
      go_simp
      refine hK.out _ _ (HD7.out) (fun hHeld => ?_)
      clear hK K
      refine wpAnyH_take (i := 14) (v := .slice (some ⟨w6.heap.size, 0, none⟩) 1 1) rfl (by kernel_rfl) (by kernel_rfl) (by kernel_rfl) (fun _ _ _ h => h) (Or.inl ⟨by rfl, by intro w hSw; (try dsimp only at hSw); go_simp⟩) (by assumption) ?_
      refine wpAnyH_take (i := 15) (v := .bool true) rfl (by kernel_rfl) (by kernel_rfl) (by kernel_rfl) (fun _ _ _ h => h) (Or.inl ⟨by rfl, by intro w hSw; (try dsimp only at hSw); go_simp⟩) (by assumption) ?_
      refine wpAnyH_done (by kernel_rfl) ?_ _
      go_wp2
      go_ret3
      exact move_rel HY.out HM.out _ HCA.out HBZ.out
end Go.Proofs.Ytbcckfggnlmhoaa
