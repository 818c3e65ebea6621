/-
  Our own text, in the proof of the law DiskMoves of package disk (cayleylaw04). Proved here: move of the reference, where a relator is deleted. Conditions: the presentation is valid, the word's letters are its letters.
-/
import Derived.Test.YtbcckfggnlmhoaaMd
import Derived.IntWalk
namespace Go.Proofs.Ytbcckfggnlmhoaa
open Go Go.RowKit

set_option maxHeartbeats 8000000 in
set_option maxRecDepth 100000 in
theorem move_delRel (p : Pr) (R : Option Addr) (rc : Nat) (x : List UInt8) (m : Mv) (w : World) (hp : presB p = true) (hr : RelsAt w R p.rels) (hl : x.length ≤ 100000) (ha : x.all (letB p.k) = true) (h0 : 0 ≤ m.pos) (h1 : m.pos ≤ x.length) (hk : m.kind = 4) : Calls Try.prog 82 #[prV p.k R p.rels.length rc, .string ⟨x.toArray⟩, mvV m] w (MoveP p x m w) := by
  obtain ⟨k1, k8, _⟩ := presB_k hp
  have HR : Hid (moveR p x m = (match rotOf p m with | some v => if m.pos.toNat + v.length ≤ x.length ∧ (x.drop m.pos.toNat).take v.length = v then some (x.take m.pos.toNat ++ x.drop (m.pos.toNat + v.length)) else none | none => none)) := Lib.hid (by unfold moveR; rw [if_pos ⟨h0, h1⟩, if_neg (by omega), if_neg (by omega), if_neg (by omega), if_pos hk]; cases rotOf p m <;> rfl)
  have HM : Hid (isRM m = true) := Lib.hid (by unfold isRM; rw [hk]; rfl)
  have HB := Lib.hid (MvB.start w p R rc m)
  have HTS : Hid (turnS p m = (rotOf p m).getD []) := Lib.hid rfl
  have HTF : Hid ((rotOf p m).isSome = true → turnF p m = (relOf p m.rel m.inv).take m.shift.toNat) := Lib.hid (fun h => if_pos h)
  have HRT : Hid (∀ v, rotOf p m = some v → isRelB p m.rel = true) := Lib.hid (fun v hv => (rotOf_some hv).1)
  have HCM : Hid (cellM p x m = ⟨red (x.take m.pos.toNat ++ invW ((relOf p m.rel m.inv).take m.shift.toNat)), m.rel, m.inv != decide (m.kind = 3)⟩) := Lib.hid rfl
  have HT := Lib.hid (fun X (hX : Below w.heap.size w X) => turned_any p R rc m X hp (hr.below hX))
  have HLN : Hid (∀ v, rotOf p m = some v → v.length ≤ 200) := Lib.hid (fun v hv => by rw [rot_len hv]; exact relOf_len hp (rotOf_some hv).1 _)
  obtain ⟨mk, mp, ml, mr, ms, mi⟩ := m
  simp only at h0 h1 hk
  subst hk
  obtain ⟨q, rfl⟩ := Int.eq_ofNat_of_zero_le h0
  have hq : q ≤ x.length := by omega
  have hsz : (ByteArray.mk x.toArray).size = x.length := size_mk x
  have e1 : decide ((q : Int) < 0) = false := by simp
  have e2 : decide ((x.length : Int) < (q : Int)) = false := by simp; omega
  have e2' : decide (x.length < q) = false := by simp; omega
  have hq2 : (q : Int) ≤ (x.length : Int) := by omega
  simp only [Int.toNat_natCast] at HR HCM
  show Calls Try.prog 82 #[prV p.k R p.rels.length rc, .string ⟨x.toArray⟩, .agg #[.int .i64 4, .int .i64 q, .int .i64 ml, .int .i64 mr, .int .i64 ms, .bool mi]] w (MoveP p x ⟨4, q, ml, mr, ms, mi⟩ w)
  have HB : Hid (MvB w p R rc ⟨4, q, ml, mr, ms, mi⟩ ((w.alloc (.cells #[.int .i64 p.k, .slice R p.rels.length rc] 24)).alloc (.cells #[.int .i64 4, .int .i64 q, .int .i64 ml, .int .i64 mr, .int .i64 ms, .bool mi] 52))) := Lib.hid HB.out
  have HP := Lib.hid hp
  clear h0 h1 hp hr
  have hT : Calls Try.prog 83 #[prV p.k R p.rels.length rc, .agg #[.int .i64 4, .int .i64 q, .int .i64 ml, .int .i64 mr, .int .i64 ms, .bool mi]] ((w.alloc (.cells #[.int .i64 p.k, .slice R p.rels.length rc] 24)).alloc (.cells #[.int .i64 4, .int .i64 q, .int .i64 ml, .int .i64 mr, .int .i64 ms, .bool mi] 52)) _ := HT.out _ HB.out.old
  clear HT
  go_enter Try.func82, Try.ntmps82
  go_wp2_with fail
  generalize ((w.alloc (.cells #[.int .i64 p.k, .slice R p.rels.length rc] 24)).alloc (.cells #[.int .i64 4, .int .i64 q, .int .i64 ml, .int .i64 mr, .int .i64 ms, .bool mi] 52)) = w0 at *
  refine hT.mono ?_
  rintro e w1 ⟨rfl, hb1⟩
  have HB1 := Lib.hid (HB.out.below hb1)
  clear hT hb1
  cases hv : rotOf p ⟨4, q, ml, mr, ms, mi⟩ with
  | none =>
    have HY : Hid (moveR p x ⟨4, q, ml, mr, ms, mi⟩ = none) := Lib.hid (by rw [HR.out, hv])
    simp only [Option.isSome_none]
    clear hv
    go_wp2
    go_ret3
    exact move_no HY.out HB1.out.old
  | some v =>
    have hrel := HRT.out v hv
    have hvl := HLN.out v hv
    have HSS : Hid (turnS p ⟨4, q, ml, mr, ms, mi⟩ = v) := Lib.hid (by rw [HTS.out, hv]; rfl)
    have HFF := Lib.hid (HTF.out (by rw [hv]; rfl))
    rw [hv] at HR
    have ht := relOf_all HP.out hrel mi
    have htl := relOf_len HP.out hrel mi
    have hfa : ((relOf p mr mi).take ms.toNat).all (letB 8) = true := all_mono k8 (all_take _ ht)
    have hfl : ((relOf p mr mi).take ms.toNat).length ≤ 200 := by rw [List.length_take]; omega
    have hal : (x.take q).all (letB 8) = true := all_mono k8 (all_take _ ha)
    have u1 : (x.take q).length ≤ 100000 := by rw [List.length_take]; omega
    have u2 : (x.drop q).length ≤ 100000 := by rw [List.length_drop]; omega
    have x1 := ex_take x q hq
    have x2 := ex_drop x q
    simp only [Option.isSome_some]
    rw [HSS.out, HFF.out]
    clear hv HTS HTF HRT HLN ht htl ha HSS HFF
    generalize (relOf p mr mi).take ms.toNat = f at *
    generalize ha1 : x.take q = a1 at *
    generalize ha2 : x.drop q = a2 at *
    have HA1 := Lib.hid ha1
    have HA2 := Lib.hid ha2
    clear ha1 ha2
    have hcat := catC a1 (invW f) _ rfl
    have hil : (invW f).length = f.length := ginv_len _ _
    have u3 : (a1 ++ invW f).length ≤ 200000 := by rw [List.length_append, hil]; omega
    have u4 : (invW f).length ≤ 1000 := by rw [hil]; omega
    have L26 : Hid (∀ X, Calls Try.prog 26 #[.string ⟨f.toArray⟩] X fun e w' => e = .returned (.string ⟨(invW f).toArray⟩) ∧ Below X.heap.size X w') := Lib.hid (fun X => Invert_any ⟨f.toArray⟩ X hfa (by rw [size_mk]; omega))
    have L25 : Hid (∀ X, Calls Try.prog 25 #[.string ⟨(a1 ++ invW f).toArray⟩] X fun e w' => e = .returned (.string ⟨(red (a1 ++ invW f)).toArray⟩) ∧ Below X.heap.size X w') := Lib.hid (fun X => Reduce_any ⟨(a1 ++ invW f).toArray⟩ X (by
      show (a1 ++ ginv invc f).all (letB 8) = true
      exact all_app hal (all_invW hfa)) (by rw [size_mk]; omega))
    have hcl : (red (a1 ++ invW f)).length ≤ 200000 := Nat.le_trans (red_len _) u3
    clear hil
    generalize red (a1 ++ invW f) = cj at *
    generalize a1 ++ invW f = ai at *
    generalize invW f = fi at *
    have u5 : a1.length + fi.length ≤ 9223372036854775807 := by omega
    go_upto_region 17 with (fail)
    go_cut [12] from 99 to 111 (fun s12 wx => ∃ cb, s12 = .pointer (some ⟨cb, 0, none⟩) ∧ CSt w p R rc ⟨4, q, ml, mr, ms, mi⟩ cb cj mr mi wx)
    case first =>
      have HBd := Lib.hid (HB1.out.below ((Below.refl _ w1).drewN 1))
      refine wp_region_held_drew (S := fun X => X.cell? ⟨w.heap.size + 1, 1, none⟩ = some (.int .i64 q) ∧ X.cell? ⟨w.heap.size + 1, 3, none⟩ = some (.int .i64 mr) ∧ X.cell? ⟨w.heap.size + 1, 5, none⟩ = some (.bool mi)) (by kernel_rfl) HBd.out.three (fun hHeld => ?_)
      refine wpAnyH_take (i := 0) (v := .string ⟨x.toArray⟩) rfl (by kernel_rfl) (by kernel_rfl) (by kernel_rfl) (fun _ _ _ h => h) (Or.inl ⟨by rfl, by intro w hSw; (try dsimp only at hSw); go_simp⟩) (by assumption) ?_
      refine wpAnyH_take (i := 1) (v := .pointer (some ⟨w.heap.size + 1, 1, none⟩)) rfl (by kernel_rfl) (by kernel_rfl) (by kernel_rfl) (fun _ _ _ h => h) (Or.inl ⟨by rfl, by intro w hSw; (try dsimp only at hSw); go_simp⟩) (by assumption) ?_
      refine wpAnyH_take (i := 2) (v := .int .i64 q) rfl (by kernel_rfl) (by kernel_rfl) (by kernel_rfl) (fun _ _ _ h => h) (Or.inl ⟨by rfl, by intro w hSw; (try dsimp only at hSw); go_simp⟩) (by assumption) ?_
      refine wpAnyH_take (i := 3) (v := .string ⟨a1.toArray⟩) rfl (by kernel_rfl) (by kernel_rfl) (by kernel_rfl) (fun _ _ _ h => h) (Or.inl ⟨by rfl, by intro w hSw; (try dsimp only at hSw); go_simp⟩) (by assumption) ?_
      refine wpAnyH_take (i := 4) (v := .string ⟨f.toArray⟩) rfl (by kernel_rfl) (by kernel_rfl) (by kernel_rfl) (fun _ _ _ h => h) (Or.inl ⟨by rfl, by intro w hSw; (try dsimp only at hSw); go_simp⟩) (by assumption) ?_
      refine wpAnyH_take (i := 8) (v := .pointer (some ⟨w.heap.size + 1, 3, none⟩)) rfl (by kernel_rfl) (by kernel_rfl) (by kernel_rfl) (fun _ _ _ h => h) (Or.inl ⟨by rfl, by intro w hSw; (try dsimp only at hSw); go_simp⟩) (by assumption) ?_
      refine wpAnyH_take (i := 9) (v := .int .i64 mr) rfl (by kernel_rfl) (by kernel_rfl) (by kernel_rfl) (fun _ _ _ h => h) (Or.inl ⟨by rfl, by intro w hSw; (try dsimp only at hSw); go_simp⟩) (by assumption) ?_
      refine wpAnyH_take (i := 10) (v := .pointer (some ⟨w.heap.size + 1, 5, none⟩)) rfl (by kernel_rfl) (by kernel_rfl) (by kernel_rfl) (fun _ _ _ h => h) (Or.inl ⟨by rfl, by intro w hSw; (try dsimp only at hSw); go_simp⟩) (by assumption) ?_
      refine wpAnyH_take (i := 11) (v := .bool mi) rfl (by kernel_rfl) (by kernel_rfl) (by kernel_rfl) (fun _ _ _ h => h) (Or.inl ⟨by rfl, by intro w hSw; (try dsimp only at hSw); go_simp⟩) (by assumption) ?_
      refine wpAnyH_ready (rs := [5, 13]) (by kernel_rfl) (by simp) ?_
      refine AllReadyH.cons rfl (fun K hK => ?_) (AllReadyH.cons rfl (fun K hK => ?_) (AllReadyH.nil))
      · go_simp
        go_wp2_with fail
        refine (L26.out _).mono ?_
        rintro e wA ⟨rfl, hbA⟩
        have HBA := Lib.hid (HBd.out.below hbA)
        clear hbA
        refine hK.out _ _ (HBA.out.three) (fun hHeld => ?_)
        clear hK K
        refine wpAnyH_take (i := 6) (v := .string ⟨ai.toArray⟩) rfl (by kernel_rfl) (by kernel_rfl) (by kernel_rfl) (fun _ _ _ h => h) (Or.inl ⟨by rfl, by intro w hSw; (try dsimp only at hSw); go_simp⟩) (by assumption) ?_
        refine wpAnyH_ready (rs := [7, 13]) (by kernel_rfl) (by simp) ?_
        refine AllReadyH.cons rfl (fun K hK => ?_) (AllReadyH.cons rfl (fun K hK => ?_) (AllReadyH.nil))
        · go_simp
          go_wp2_with fail
          refine (L25.out _).mono ?_
          rintro e wB ⟨rfl, hbB⟩
          have HBB := Lib.hid (HBA.out.below hbB)
          have HCS := Lib.hid (cst_new HBB.out cj mr mi)
          clear hbB
          refine hK.out _ _ (HBB.out.three) (fun hHeld => ?_)
          clear hK K
          refine wpAnyH_take (i := 12) (v := .agg #[.string ⟨cj.toArray⟩, .int .i64 mr, .bool mi]) rfl (by kernel_rfl) (by kernel_rfl) (by kernel_rfl) (fun _ _ _ h => h) (Or.inl ⟨by rfl, by intro w hSw; (try dsimp only at hSw); go_simp⟩) (by assumption) ?_
          refine wpAnyH_ready (rs := [13]) (by kernel_rfl) (by simp) ?_
          refine AllReadyH.cons rfl (fun K hK => ?_) (AllReadyH.nil)
          go_simp
          refine hK.out _ _ ((HBB.out.alc _).three) (fun hHeld => ?_)
          clear hK K
          refine wpAnyH_ready (rs := [14]) (by kernel_rfl) (by simp) ?_
          refine AllReadyH.cons rfl (fun K hK => ?_) (AllReadyH.nil)
          go_simp
          refine hK.out _ _ (HCS.out.box.three) (fun hHeld => ?_)
          clear hK K
          refine wpAnyH_done (by kernel_rfl) ?_ _
          go_wp2_with fail
          go_meet
          exact ⟨_, rfl, HCS.out⟩
        · go_simp
          refine hK.out _ _ ((HBA.out.alc _).three) (fun hHeld => ?_)
          clear hK K
          refine wpAnyH_ready (rs := [7]) (by kernel_rfl) (by simp) ?_
          refine AllReadyH.cons rfl (fun K hK => ?_) (AllReadyH.nil)
          go_simp
          go_wp2_with fail
          refine (L25.out _).mono ?_
          rintro e wB ⟨rfl, hbB⟩
          have HBB := Lib.hid ((HBA.out.alc _).below hbB)
          have HZ := Lib.hid (zero_kept (X := wA) hbB)
          have HCS := Lib.hid (cst_set HBB.out HBA.out.lt HZ.out cj mr mi)
          clear hbB
          refine hK.out _ _ (HBB.out.three) (fun hHeld => ?_)
          clear hK K
          refine wpAnyH_take (i := 12) (v := .agg #[.string ⟨cj.toArray⟩, .int .i64 mr, .bool mi]) rfl (by kernel_rfl) (by kernel_rfl) (by kernel_rfl) (fun _ _ _ h => h) (Or.inl ⟨by rfl, by intro w hSw; (try dsimp only at hSw); go_simp⟩) (by assumption) ?_
          obtain ⟨⟨z0, z1, z2⟩, zf, zl⟩ := HZ.out
          have zf0 := zf 0
          have zf1 := zf 1
          have zf2 := zf 2
          refine wpAnyH_ready (rs := [14]) (by kernel_rfl) (by simp) ?_
          refine AllReadyH.cons rfl (fun K hK => ?_) (AllReadyH.nil)
          go_simp
          refine hK.out _ _ (HCS.out.box.three) (fun hHeld => ?_)
          clear hK K
          refine wpAnyH_done (by kernel_rfl) ?_ _
          go_wp2_with fail
          go_meet
          exact ⟨_, rfl, HCS.out⟩
      · go_simp
        refine hK.out _ _ ((HB1.out.alcd _).three) (fun hHeld => ?_)
        clear hK K
        refine wpAnyH_ready (rs := [5]) (by kernel_rfl) (by simp) ?_
        refine AllReadyH.cons rfl (fun K hK => ?_) (AllReadyH.nil)
        go_simp
        go_wp2_with fail
        refine (L26.out _).mono ?_
        rintro e wA ⟨rfl, hbA⟩
        have HBA := Lib.hid ((HB1.out.alcd _).below hbA)
        have HKA := Lib.hid hbA
        clear hbA
        refine hK.out _ _ (HBA.out.three) (fun hHeld => ?_)
        clear hK K
        refine wpAnyH_take (i := 6) (v := .string ⟨ai.toArray⟩) rfl (by kernel_rfl) (by kernel_rfl) (by kernel_rfl) (fun _ _ _ h => h) (Or.inl ⟨by rfl, by intro w hSw; (try dsimp only at hSw); go_simp⟩) (by assumption) ?_
        refine wpAnyH_ready (rs := [7]) (by kernel_rfl) (by simp) ?_
        refine AllReadyH.cons rfl (fun K hK => ?_) (AllReadyH.nil)
        go_simp
        go_wp2_with fail
        refine (L25.out _).mono ?_
        rintro e wB ⟨rfl, hbB⟩
        have HBB := Lib.hid (HBA.out.below hbB)
        have HZ := Lib.hid (zero_kept (X := w1) (((Below.refl _ _).drewN 1).trans (HKA.out.trans (hbB.mono HKA.out.size))))
        have HCS := Lib.hid (cst_set HBB.out HB1.out.lt HZ.out cj mr mi)
        clear hbB
        refine hK.out _ _ (HBB.out.three) (fun hHeld => ?_)
        clear hK K
        refine wpAnyH_take (i := 12) (v := .agg #[.string ⟨cj.toArray⟩, .int .i64 mr, .bool mi]) rfl (by kernel_rfl) (by kernel_rfl) (by kernel_rfl) (fun _ _ _ h => h) (Or.inl ⟨by rfl, by intro w hSw; (try dsimp only at hSw); go_simp⟩) (by assumption) ?_
        obtain ⟨⟨z0, z1, z2⟩, zf, zl⟩ := HZ.out
        have zf0 := zf 0
        have zf1 := zf 1
        have zf2 := zf 2
        refine wpAnyH_ready (rs := [14]) (by kernel_rfl) (by simp) ?_
        refine AllReadyH.cons rfl (fun K hK => ?_) (AllReadyH.nil)
        go_simp
        refine hK.out _ _ (HCS.out.box.three) (fun hHeld => ?_)
        clear hK K
        refine wpAnyH_done (by kernel_rfl) ?_ _
        go_wp2_with fail
        go_meet
        exact ⟨_, rfl, HCS.out⟩
    case rest =>
      obtain ⟨cb, rfl, hcs⟩ := hcut
      have HC6 := Lib.hid hcs
      have HCEL : Hid (cellM p x ⟨4, q, ml, mr, ms, mi⟩ = ⟨cj, mr, mi⟩) := Lib.hid (by rw [HCM.out]; cases mi <;> rfl)
      have b0 : wc.cell? ⟨w.heap.size + 1, 0, none⟩ = some (.int .i64 4) := hcs.box.mc 0
      have b1 : wc.cell? ⟨w.heap.size + 1, 1, none⟩ = some (.int .i64 q) := hcs.box.mc 1
      have hvs : (ByteArray.mk v.toArray).size = v.length := size_mk v
      by_cases hlen : q + v.length ≤ x.length
      case neg =>
        have HY : Hid (moveR p x ⟨4, q, ml, mr, ms, mi⟩ = none) := Lib.hid (by rw [HR.out]; exact if_neg (fun h => hlen h.1))
        have g1 : decide ((x.length : Int) - (q : Int) < (v.length : Int)) = true := by simp; omega
        clear hcs hlen
        go_wp2
        go_ret3
        exact move_no HY.out HC6.out.box.old
      case pos =>
        have g1 : decide ((x.length : Int) - (q : Int) < (v.length : Int)) = false := by simp; omega
        have HSL : Hid ((x.take (q + v.length)).drop q = a2.take v.length) := Lib.hid (by rw [List.drop_take, HA2.out, Nat.add_sub_cancel_left])
        have x3 := ex_mid x q (q + v.length) hlen
        rw [HSL.out] at x3
        have x4 := ex_drop x (q + v.length)
        have w1' : IntKind.i64.wrap ((q : Int) + (v.length : Int)) = (q : Int) + (v.length : Int) := IntWalk.i64_in _ (by omega)
        have g2 : (q : Int) ≤ (q : Int) + (v.length : Int) := by omega
        have g3 : (q : Int) + (v.length : Int) ≤ (x.length : Int) := by omega
        have g4 : ((q : Int) + (v.length : Int)).toNat = q + v.length := by omega
        have g5 : (0 : Int) ≤ (q : Int) + (v.length : Int) := by omega
        have g6 : (0 : Int) ≤ (q : Int) := by omega
        have u6 : (x.drop (q + v.length)).length ≤ 100000 := by rw [List.length_drop]; omega
        by_cases heq : a2.take v.length = v
        case neg =>
          have HY : Hid (moveR p x ⟨4, q, ml, mr, ms, mi⟩ = none) := Lib.hid (by rw [HR.out]; exact if_neg (fun h => heq h.2))
          have n1 : (a2.take v.length == v) = false := by rw [beq_eq_false_iff_ne]; exact heq
          have n2 : (a2.take v.length != v) = true := by rw [bne_iff_ne]; exact heq
          clear hcs hlen HSL
          generalize a2.take v.length = sl at *
          clear heq
          go_wp2
          go_ret3
          exact move_no HY.out HC6.out.box.old
        case pos =>
          have HY : Hid (moveR p x ⟨4, q, ml, mr, ms, mi⟩ = some (a1 ++ x.drop (q + v.length))) := Lib.hid (by rw [HR.out]; exact if_pos ⟨hlen, heq⟩)
          rw [heq] at x3
          have n1 : (v == v) = true := by simp
          have n2 : (v != v) = false := by simp
          have hc2 := catC a1 (x.drop (q + v.length)) _ rfl
          have y2 : (a1 ++ x.drop (q + v.length)).length ≤ 400000 := by rw [List.length_append]; omega
          have y4 : a1.length + (x.drop (q + v.length)).length ≤ 9223372036854775807 := by omega
          clear hcs hlen HSL heq
          generalize a1 ++ x.drop (q + v.length) = yy at *
          generalize x.drop (q + v.length) = a3 at *
          go_wp2_with fail
          have HD6 := Lib.hid (HC6.out.four (Y := wc.drew) ((Below.refl _ wc).drewN 1))
          have HD7 := Lib.hid (HC6.out.four (Y := (wc.alloc (.cells (celC cj mr mi) 61)).drew) (((Below.refl _ wc).alloc (Nat.le_refl _) (.cells (celC cj mr mi) 61)).drewN 1))
          have HCA : Hid (CellsAt (wc.alloc (.cells (celC cj mr mi) 61)).drew (some ⟨wc.heap.size, 0, none⟩) [cellM p x ⟨4, q, ml, mr, ms, mi⟩]) := Lib.hid (by rw [HCEL.out]; exact (cellOne wc cj mr mi 61 (by omega)).below ((Below.refl _ _).drewN 1))
          have HBZ : Hid (Below w.heap.size w (wc.alloc (.cells (celC cj mr mi) 61)).drew) := Lib.hid ((HC6.out.box.alcd _).old)
          clear b0 b1
          refine wp_region_held_drew (S := fun X => X.cell? ⟨w.heap.size + 1, 1, none⟩ = some (.int .i64 q) ∧ X.cell? ⟨cb, 0, none⟩ = some (.string ⟨cj.toArray⟩) ∧ X.cell? ⟨cb, 1, none⟩ = some (.int .i64 mr) ∧ X.cell? ⟨cb, 2, none⟩ = some (.bool mi)) (by kernel_rfl) HD6.out (fun hHeld => ?_)
          refine wpAnyH_take (i := 0) (v := .string ⟨x.toArray⟩) rfl (by kernel_rfl) (by kernel_rfl) (by kernel_rfl) (fun _ _ _ h => h) (Or.inl ⟨by rfl, by intro w hSw; (try dsimp only at hSw); go_simp⟩) (by assumption) ?_
          refine wpAnyH_take (i := 1) (v := .pointer (some ⟨w.heap.size + 1, 1, none⟩)) rfl (by kernel_rfl) (by kernel_rfl) (by kernel_rfl) (fun _ _ _ h => h) (Or.inl ⟨by rfl, by intro w hSw; (try dsimp only at hSw); go_simp⟩) (by assumption) ?_
          refine wpAnyH_take (i := 2) (v := .int .i64 q) rfl (by kernel_rfl) (by kernel_rfl) (by kernel_rfl) (fun _ _ _ h => h) (Or.inl ⟨by rfl, by intro w hSw; (try dsimp only at hSw); go_simp⟩) (by assumption) ?_
          refine wpAnyH_take (i := 3) (v := .string ⟨a1.toArray⟩) rfl (by kernel_rfl) (by kernel_rfl) (by kernel_rfl) (fun _ _ _ h => h) (Or.inl ⟨by rfl, by intro w hSw; (try dsimp only at hSw); go_simp⟩) (by assumption) ?_
          refine wpAnyH_take (i := 4) (v := .string ⟨x.toArray⟩) rfl (by kernel_rfl) (by kernel_rfl) (by kernel_rfl) (fun _ _ _ h => h) (Or.inl ⟨by rfl, by intro w hSw; (try dsimp only at hSw); go_simp⟩) (by assumption) ?_
          refine wpAnyH_take (i := 5) (v := .pointer (some ⟨w.heap.size + 1, 1, none⟩)) rfl (by kernel_rfl) (by kernel_rfl) (by kernel_rfl) (fun _ _ _ h => h) (Or.inl ⟨by rfl, by intro w hSw; (try dsimp only at hSw); go_simp⟩) (by assumption) ?_
          refine wpAnyH_take (i := 6) (v := .int .i64 q) rfl (by kernel_rfl) (by kernel_rfl) (by kernel_rfl) (fun _ _ _ h => h) (Or.inl ⟨by rfl, by intro w hSw; (try dsimp only at hSw); go_simp⟩) (by assumption) ?_
          refine wpAnyH_take (i := 7) (v := .string ⟨v.toArray⟩) rfl (by kernel_rfl) (by kernel_rfl) (by kernel_rfl) (fun _ _ _ h => h) (Or.inl ⟨by rfl, by intro w hSw; (try dsimp only at hSw); go_simp⟩) (by assumption) ?_
          refine wpAnyH_take (i := 8) (v := .int .i64 (v.length : Int)) rfl (by kernel_rfl) (by kernel_rfl) (by kernel_rfl) (fun _ _ _ h => h) (Or.inl ⟨by rfl, by intro w hSw; (try dsimp only at hSw); go_simp⟩) (by assumption) ?_
          refine wpAnyH_take (i := 9) (v := .int .i64 ((q : Int) + (v.length : Int))) rfl (by kernel_rfl) (by kernel_rfl) (by kernel_rfl) (fun _ _ _ h => h) (Or.inl ⟨by rfl, by intro w hSw; (try dsimp only at hSw); go_simp⟩) (by assumption) ?_
          refine wpAnyH_take (i := 10) (v := .string ⟨a3.toArray⟩) rfl (by kernel_rfl) (by kernel_rfl) (by kernel_rfl) (fun _ _ _ h => h) (Or.inl ⟨by rfl, by intro w hSw; (try dsimp only at hSw); go_simp⟩) (by assumption) ?_
          refine wpAnyH_take (i := 11) (v := .string ⟨yy.toArray⟩) rfl (by kernel_rfl) (by kernel_rfl) (by kernel_rfl) (fun _ _ _ h => h) (Or.inl ⟨by rfl, by intro w hSw; (try dsimp only at hSw); go_simp⟩) (by assumption) ?_
          refine wpAnyH_take (i := 12) (v := .agg #[.string ⟨cj.toArray⟩, .int .i64 mr, .bool mi]) rfl (by kernel_rfl) (by kernel_rfl) (by kernel_rfl) (fun _ _ _ h => h) (Or.inl ⟨by rfl, by intro w hSw; (try dsimp only at hSw); go_simp⟩) (by assumption) ?_
          refine wpAnyH_take (i := 14) (v := .string ⟨yy.toArray⟩) rfl (by kernel_rfl) (by kernel_rfl) (by kernel_rfl) (fun _ _ _ h => h) (Or.inl ⟨by rfl, by intro w hSw; (try dsimp only at hSw); go_simp⟩) (by assumption) ?_
          refine wpAnyH_ready (rs := [13]) (by kernel_rfl) (by simp) ?_
          refine AllReadyH.cons rfl (fun K hK => ?_) (AllReadyH.nil)
          go_simp
          refine hK.out _ _ (HD7.out) (fun hHeld => ?_)
          clear hK K
          refine wpAnyH_take (i := 15) (v := .slice (some ⟨wc.heap.size, 0, none⟩) 1 1) rfl (by kernel_rfl) (by kernel_rfl) (by kernel_rfl) (fun _ _ _ h => h) (Or.inl ⟨by rfl, by intro w hSw; (try dsimp only at hSw); go_simp⟩) (by assumption) ?_
          refine wpAnyH_take (i := 16) (v := .bool true) rfl (by kernel_rfl) (by kernel_rfl) (by kernel_rfl) (fun _ _ _ h => h) (Or.inl ⟨by rfl, by intro w hSw; (try dsimp only at hSw); go_simp⟩) (by assumption) ?_
          refine wpAnyH_done (by kernel_rfl) ?_ _
          go_wp2
          go_ret3
          exact move_rel HY.out HM.out _ HCA.out HBZ.out
end Go.Proofs.Ytbcckfggnlmhoaa
