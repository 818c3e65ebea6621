/-
  Our own text, in the proof of the law DiskToMoves of package disk (cayleylaw04). Proved here: collapse.undo. Conditions: collapse lies in memory; a valid presentation and cell.
-/
import Derived.Test.YtbcckfggnlmhoaaNc
import Derived.Deep.RegionHeld3
import Derived.StillTailTactics
namespace Go.Proofs.Ytbcckfggnlmhoaa
open Go Go.RowKit

theorem pairM_take (u : List UInt8) : ∀ (n k : Nat) (h : k < u.length), (pairM n u).take (k + 1) = (pairM n u).take k ++ [⟨1, ((n + k : Nat) : Int), idxI 8 u[k], 0, 0, false⟩] := by
  induction u with
  | nil => intro n k h; simp at h
  | cons c u ih =>
    intro n k h
    cases k with
    | zero => simp [pairM]
    | succ k =>
      simp only [List.length_cons] at h
      have := ih (n + 1) k (by omega)
      simp only [pairM, List.take_succ_cons, List.getElem_cons_succ, List.cons_append]
      rw [this, show n + 1 + k = n + (k + 1) by omega]
theorem ColAt.off {p : Pr} {R : Option Addr} {rc B cb : Nat} {O : Option Addr} {oc : Nat} {C : Option Addr} {cc : Nat} {r : List UInt8} {ms : List Mv} {W : World} (h : ColAt p R rc B cb O oc C cc r ms W) (k : Nat) (hk : W.heap.size ≤ k) : ¬ RecS cb O C k := fun e => by have := h.lt k e; omega

/-- A move behind the others, in a region that draws its order: what it leaves. -/
theorem ColAt.added {p : Pr} {R : Option Addr} {rc B cb : Nat} {O : Option Addr} {oc : Nat} {C : Option Addr} {cc : Nat} {r : List UInt8} {ms : List Mv} {W : World} (h : ColAt p R rc B cb O oc C cc r ms W) {g c : Nat} {w1 : World} {m : Mv}
    (hown : w1.ownsRow B 52 6 (.slice (some ⟨g, 0, none⟩) (ms.length + 1) c) (ms.length + 1) (ms6 ms ++ ms6 [m])) (hg : (W.alloc (.cells (mvC m) 52)).drew.grownBy w1 (Value.slice C ms.length cc).ownBlock) (hor : (Value.slice C ms.length cc).ownBlock = some g ∨ g = W.heap.size + 1) :
    (w1.cell? ⟨cb, 3, none⟩ = some (.slice C ms.length cc) ∧ w1.frozen? ⟨cb, 3, none⟩ = false) ∧ ColAt p R rc B cb O oc (some ⟨g, 0, none⟩) c r (ms ++ [m]) (w1.setCell ⟨cb, 3, none⟩ (.slice (some ⟨g, 0, none⟩) (ms.length + 1) c)) ∧
      Touch (RecS cb O C) W (w1.setCell ⟨cb, 3, none⟩ (.slice (some ⟨g, 0, none⟩) (ms.length + 1) c)) ∧ Moved W C (some ⟨g, 0, none⟩) ∧ Touch (RecS cb O C) W w1 := by
  rw [ownBlock_slice] at hg hor
  have hg2 : W.grownBy w1 (blk C) := grown_trans (A := C) (A1 := C) (World.grownBy_alloc W _ (blk C)) (grown_drew hg) (.inl rfl)
  have hm : Moved W C (some ⟨g, 0, none⟩) := by
    rcases hor with e | e
    · exact .inl e.symm
    · exact .inr fun k hk => by cases hk; show W.heap.size ≤ g; omega
  have hb := hg2.block cb h.clt (fun e => h.farC e.symm)
  have e9 : (ms ++ [m]).length = ms.length + 1 := by simp
  have hs := h.setC (C' := some ⟨g, 0, none⟩) (cc' := c) (ms' := ms ++ [m]) hg2 (by rw [e9, ms6_app]; exact hown) hm
  rw [e9] at hs
  exact ⟨⟨(cell_same hb 3).trans h.c3, (frozen_same hb 3).trans h.f3⟩, hs.1, hs.2, hm, (Touch.of_grown hg2).mono (fun k _ hk => Or.inr (Or.inr hk))⟩

set_option maxHeartbeats 8000000 in
set_option maxRecDepth 100000 in
/-- The pairs of a conjugator: the loop of undo. -/
theorem undo_any (p : Pr) (R : Option Addr) (rc B cb : Nat) (O : Option Addr) (oc : Nat) (C : Option Addr) (cc : Nat) (r : List UInt8) (ms : List Mv) (W : World) (h : ColAt p R rc B cb O oc C cc r ms W) (hp : presB p = true) (w0 : World) (hrel : RelsAt w0 R p.rels) (hw0 : Below w0.heap.size w0 W) (hB : w0.heap.size ≤ cb)
    (u : List UInt8) (i : Int) (b : Bool) (hi : isRelB p i = true) (hu : isWd p.k u = true) (hr : r.length ≤ 900000000) (hm : ms.length ≤ 900000000) :
    Calls Try.prog 70 #[.pointer (some ⟨cb, 0, none⟩), .agg #[.string ⟨u.toArray⟩, .int .i64 i, .bool b]] W (ReadP p R rc B cb O C (undoS p (r, ms) ⟨u, i, b⟩) W) := by
  have hul := isWd_len hu
  obtain ⟨k1, k8, _⟩ := presB_k hp
  have HUA := Lib.hid (all_mono k8 (isWd_all hu))
  have HP := Lib.hid hp
  have HI := Lib.hid hi
  have HREL := Lib.hid hrel
  have HRL := Lib.hid (relOf_len hp hi (!b))
  obtain ⟨i0, hi, hz0, hz1, hz2⟩ := info_parts Try.info52
  have hb1 : Below W.heap.size W (W.alloc (.cells (celC u i b) 61)) := (Below.refl _ _).alloc (Nat.le_refl _) _
  have HX := Lib.hid (HasCells.new W (celC u i b) 61)
  have hconv := run_bw u (W.alloc (.cells (celC u i b) 61))
  have hbB := bw_below (W.alloc (.cells (celC u i b) 61)) u
  have HROW := Lib.hid (bw_row (W.alloc (.cells (celC u i b) 61)) u)
  have HG4 : Hid (W.heap.size + 1 < (bw (W.alloc (.cells (celC u i b) 61)) u).heap.size) := Lib.hid (by rw [bw_size]; simp)
  have HX2 := Lib.hid (HX.out.below hbB)
  have HH2 := Lib.hid (h.below (hb1.trans (hbB.mono hb1.size)))
  have HT2 := Lib.hid (Touch.of_below (RecS cb O C) (hb1.trans (hbB.mono hb1.size)))
  have HW2 := Lib.hid (hw0.trans ((hb1.trans (hbB.mono hb1.size)).mono hw0.size))
  have HNB : Hid (¬ RecS cb O C W.heap.size ∧ ¬ RecS cb O C (W.heap.size + 1)) := Lib.hid ⟨h.off _ (Nat.le_refl _), h.off _ (Nat.le_succ _)⟩
  have s1 := World.size_alloc W (.cells (celC u i b) 61)
  rw [s1] at HROW hconv
  generalize bcap (W.alloc (.cells (celC u i b) 61)) u = bc at *
  generalize bw (W.alloc (.cells (celC u i b) 61)) u = w2 at *
  have q2 : w2.cell? ⟨cb, 2, none⟩ = some (.slice O r.length oc) := HH2.out.c2
  have HBOX := Lib.hid (show ∀ X, Touch (RecS cb O C) w2 X → (X.cell? ⟨W.heap.size, 1, none⟩ = some (.int .i64 i) ∧ X.cell? ⟨W.heap.size, 2, none⟩ = some (.bool b)) ∧ RowAt X (some ⟨W.heap.size + 1, 0, none⟩) u ∧ RelsAt X R p.rels from fun X hX => by
    have hbx := hX.block W.heap.size (Nat.lt_of_succ_lt HG4.out) HNB.out.1
    refine ⟨⟨(cell_same hbx 1).trans (HX2.out.cell 1), (cell_same hbx 2).trans (HX2.out.cell 2)⟩, fun k hk => ?_, HREL.out.below (HW2.out.trans (hX.below w0.heap.size HW2.out.size (fun k hk => Nat.le_trans hB (HH2.out.ge k hk))))⟩
    obtain ⟨b4, o4, hA, hc4⟩ := HROW.out k hk
    cases hA
    exact ⟨_, _, rfl, (cell_same (hX.block _ (lt_of_cell hc4) HNB.out.2) _).trans hc4⟩)
  have HOWN := Lib.hid (show ∀ O' C', Moved w2 O O' → Moved w2 C C' → ¬ RecS cb O' C' (W.heap.size + 1) from fun O' C' h1 h2 e => HNB.out.2 (RecS.back h1 h2 _ HG4.out e))
  have HWS : Hid (W.heap.size ≤ w2.heap.size) := Lib.hid (by have := HG4.out; omega)
  clear hp hrel hb1 hbB h hw0 s1
  go_enter Try.func70, Try.ntmps70
  go_wp2
  go_loopw [5, 7, 18] (fun t5 _ t18 wr => ∃ (k : Nat) (ms' : List Mv) (C' : Option Addr) (cc' : Nat), k ≤ u.length ∧ t18 = .int .i64 (k : Int) ∧ t5 = .int .i64 ((r.length + k : Nat) : Int) ∧ ms' = ms ++ (pairM r.length u).take k ∧ ms'.length ≤ ms.length + k ∧ ColAt p R rc B cb O oc C' cc' r ms' wr ∧ Touch (RecS cb O C) w2 wr ∧ Moved w2 C C')
    (fun _ _ t18 _ => u.length - (intOf t18).toNat)
  case atStart => exact ⟨0, ms, C, cc, Nat.zero_le _, rfl, rfl, by simp, Nat.le_refl _, HH2.out, Touch.refl _ _, Moved.refl _ _⟩
  case round =>
    obtain ⟨k, ms', C', cc', hk, rfl, rfl, hms, hml, hcol, ht, hmv⟩ := hrel
    have HMS := Lib.hid hms
    have HC := Lib.hid hcol
    have HT := Lib.hid ht
    have HMV := Lib.hid hmv
    have hq3 : wr.cell? ⟨cb, 3, none⟩ = some (.slice C' ms'.length cc') := hcol.c3
    clear hms hcol ht hmv q2
    by_cases hlt : k < u.length
    · have HSN := Lib.hid (pairM_take u r.length k hlt)
      obtain ⟨b4, o4, hA, hc4⟩ := HROW.out k hlt
      have hcu : wr.cell? ⟨b4, o4 + k, none⟩ = some (.int .u8 (u[k]).toNat) := (cell_same (HT.out.block b4 (lt_of_cell hc4) (by cases hA; exact HNB.out.2)) _).trans hc4
      have hlet : letB 8 u[k] = true := List.all_eq_true.1 HUA.out _ (List.getElem_mem _)
      have HIX := Lib.hid (fun X => indexOf_any u[k] hlet X)
      cases hA
      rw [Nat.zero_add] at hcu
      clear hc4 hlet
      generalize u[k] = c at *
      generalize hx : idxI 8 c = ix at *
      have HNW := Lib.hid (show ∀ (j : Nat) v, (ms6 [⟨1, ((r.length + k : Nat) : Int), ix, 0, 0, false⟩])[j]? = some v → (wr.alloc (.cells (mvC ⟨1, ((r.length + k : Nat) : Int), ix, 0, 0, false⟩) 52)).drew.cell? ((⟨wr.heap.size, 0, none⟩ : Addr).add j) = some v from news_mv wr _ 52)
      have HSA : Hid ((wr.alloc (.cells (mvC ⟨1, ((r.length + k : Nat) : Int), ix, 0, 0, false⟩) 52)).drew.heap.size = wr.heap.size + 1) := Lib.hid (by show (wr.alloc _).heap.size = _; simp)
      have HOA : Hid ((wr.alloc (.cells (mvC ⟨1, ((r.length + k : Nat) : Int), ix, 0, 0, false⟩) 52)).drew.ownsRow B 52 6 (.slice C' ms'.length cc') ms'.length (ms6 ms')) := Lib.hid (HC.out.mvs.alloc _)
      have HBA : Hid (B ≤ (wr.alloc (.cells (mvC ⟨1, ((r.length + k : Nat) : Int), ix, 0, 0, false⟩) 52)).drew.heap.size) := Lib.hid (by rw [HSA.out]; have := HC.out.hi; omega)
      have hq3' : (wr.alloc (.cells #[.int .i64 1, .int .i64 ((r.length : Int) + (k : Int)), .int .i64 ix, .int .i64 0, .int .i64 0, .bool false] 52)).cell? ⟨cb, 3, none⟩ = some (.slice C' ms'.length cc') := (((Below.refl _ wr).alloc (Nat.le_refl _) _).cell (p := ⟨cb, 3, none⟩) HC.out.clt).trans hq3
      clear hx
      go_wp2_with fail
      refine wp_region_any (by kernel_rfl) ?_
      change wpAny _ _ _ _ _ _ _ wr.drew
      refine wpAny_take (i := 0) (v := .pointer (some ⟨cb, 0, none⟩)) rfl (by kernel_rfl) (by kernel_rfl) (by kernel_rfl) (fun _ _ _ h => h) (Or.inl ⟨by rfl, by intro w; go_simp⟩) ?_
      refine wpAny_take (i := 1) (v := .pointer (some ⟨cb, 0, none⟩)) rfl (by kernel_rfl) (by kernel_rfl) (by kernel_rfl) (fun _ _ _ h => h) (Or.inl ⟨by rfl, by intro w; go_simp⟩) ?_
      refine wpAny_take (i := 2) (v := .pointer (some ⟨cb, 0, none⟩)) rfl (by kernel_rfl) (by kernel_rfl) (by kernel_rfl) (fun _ _ _ h => h) (Or.inl ⟨by rfl, by intro w; go_simp⟩) ?_
      refine wpAny_take (i := 3) (v := .pointer (some ⟨cb, 3, none⟩)) rfl (by kernel_rfl) (by kernel_rfl) (by kernel_rfl) (fun _ _ _ h => h) (Or.inl ⟨by rfl, by intro w; go_simp⟩) ?_
      refine wpAny_take (i := 5) (v := .int .i64 ((r.length + k : Nat) : Int)) rfl (by kernel_rfl) (by kernel_rfl) (by kernel_rfl) (fun _ _ _ h => h) (Or.inl ⟨by rfl, by intro w; go_simp⟩) ?_
      refine wpAny_take (i := 6) (v := .int .u8 c.toNat) rfl (by kernel_rfl) (by kernel_rfl) (by kernel_rfl) (fun _ _ _ h => h) (Or.inl ⟨by rfl, by intro w; go_simp⟩) ?_
      refine wpAny_ready (rs := [4, 7]) (by kernel_rfl) (by simp) ?_
      refine AllReady.cons rfl (fun K hK => ?_) (AllReady.cons rfl (fun K hK => ?_) (AllReady.nil))
      · go_simp
        refine hK _ _ ?_
        clear hK K
        refine wpAny_ready (rs := [7]) (by kernel_rfl) (by simp) ?_
        refine AllReady.cons rfl (fun K hK => ?_) (AllReady.nil)
        go_simp
        go_wp2_with fail
        refine (HIX.out _).mono ?_
        rintro e1 w1 ⟨rfl, rfl⟩
        refine hK _ _ ?_
        clear hK K
        refine wpAny_take (i := 8) (v := .agg #[.int .i64 1, .int .i64 ((r.length + k : Nat) : Int), .int .i64 ix, .int .i64 0, .int .i64 0, .bool false]) rfl (by kernel_rfl) (by kernel_rfl) (by kernel_rfl) (fun _ _ _ h => h) (Or.inl ⟨by rfl, by intro w; go_simp⟩) ?_
        refine wpAny_ready (rs := [9]) (by kernel_rfl) (by simp) ?_
        refine AllReady.cons rfl (fun K hK => ?_) (AllReady.nil)
        go_simp
        refine hK _ _ ?_
        clear hK K
        refine wpAny_ready (rs := [10]) (by kernel_rfl) (by simp) ?_
        refine AllReady.cons rfl (fun K hK => ?_) (AllReady.nil)
        refine step_append_lies (w := (wr.alloc (.cells (mvC ⟨1, ((r.length + k : Nat) : Int), ix, 0, 0, false⟩) 52)).drew) rfl (.tmp 26) (.tmp 31) 39 rfl B 52 i0 (.agg #[.int .i64 0, .int .i64 0, .int .i64 0, .int .i64 0, .int .i64 0, .bool false]) 6 48 Try.underlying39 hi hz0 hz1 hz2 rfl (by decide) (.slice C' ms'.length cc') ms'.length (ms6 ms') rfl HOA.out ⟨wr.heap.size, 0, none⟩ 1 1 (ms6 [⟨1, ((r.length + k : Nat) : Int), ix, 0, 0, false⟩]) rfl (by rw [ms6_len]; rfl) HNW.out (mv6_one _) (by omega) (by unfold maxLen; omega) (by omega) HBA.out (wr.heap.size + 1) HSA.out ?_
        intro g7 c7 w7 hown7 hgrow7 hor7 hlt7
        obtain ⟨⟨y3, yf⟩, hadd⟩ := HC.out.added hown7 hgrow7 hor7
        have HADD := Lib.hid hadd
        clear hown7 hgrow7 hor7 hlt7 hadd
        refine hK _ _ ?_
        clear hK K
        refine wpAny_take (i := 11) (v := .pointer (some ⟨cb, 0, none⟩)) rfl (by kernel_rfl) (by kernel_rfl) (by kernel_rfl) (fun _ _ _ h => h) (Or.inl ⟨by rfl, by intro w; go_simp⟩) ?_
        refine wpAny_take (i := 12) (v := .pointer (some ⟨cb, 3, none⟩)) rfl (by kernel_rfl) (by kernel_rfl) (by kernel_rfl) (fun _ _ _ h => h) (Or.inl ⟨by rfl, by intro w; go_simp⟩) ?_
        refine wpAny_ready (rs := [13]) (by kernel_rfl) (by simp) ?_
        refine AllReady.cons rfl (fun K hK => ?_) (AllReady.nil)
        go_simp
        refine hK _ _ ?_
        clear hK K
        refine wpAny_done (by kernel_rfl) ?_ _
        go_wp2
        go_roundw
        case rel => exact ⟨k + 1, ms' ++ [⟨1, ((r.length + k : Nat) : Int), ix, 0, 0, false⟩], _, c7, by omega, by go_num, by go_num, by rw [HSN.out, HMS.out, List.append_assoc], by simp; omega, by simpa using HADD.out.1, HT.out.trans HADD.out.2.1 (RecS.back (Moved.refl _ _) HMV.out), HMV.out.trans HADD.out.2.2.1 HT.out.size⟩
        case measure => simp [intOf]; omega
      · go_simp
        go_wp2_with fail
        refine (HIX.out _).mono ?_
        rintro e1 w1 ⟨rfl, rfl⟩
        refine hK _ _ ?_
        clear hK K
        refine wpAny_take (i := 8) (v := .agg #[.int .i64 1, .int .i64 ((r.length + k : Nat) : Int), .int .i64 ix, .int .i64 0, .int .i64 0, .bool false]) rfl (by kernel_rfl) (by kernel_rfl) (by kernel_rfl) (fun _ _ _ h => h) (Or.inl ⟨by rfl, by intro w; go_simp⟩) ?_
        refine wpAny_ready (rs := [4, 9]) (by kernel_rfl) (by simp) ?_
        refine AllReady.cons rfl (fun K hK => ?_) (AllReady.cons rfl (fun K hK => ?_) (AllReady.nil))
        · go_simp
          refine hK _ _ ?_
          clear hK K
          refine wpAny_ready (rs := [9]) (by kernel_rfl) (by simp) ?_
          refine AllReady.cons rfl (fun K hK => ?_) (AllReady.nil)
          go_simp
          refine hK _ _ ?_
          clear hK K
          refine wpAny_ready (rs := [10]) (by kernel_rfl) (by simp) ?_
          refine AllReady.cons rfl (fun K hK => ?_) (AllReady.nil)
          refine step_append_lies (w := (wr.alloc (.cells (mvC ⟨1, ((r.length + k : Nat) : Int), ix, 0, 0, false⟩) 52)).drew) rfl (.tmp 26) (.tmp 31) 39 rfl B 52 i0 (.agg #[.int .i64 0, .int .i64 0, .int .i64 0, .int .i64 0, .int .i64 0, .bool false]) 6 48 Try.underlying39 hi hz0 hz1 hz2 rfl (by decide) (.slice C' ms'.length cc') ms'.length (ms6 ms') rfl HOA.out ⟨wr.heap.size, 0, none⟩ 1 1 (ms6 [⟨1, ((r.length + k : Nat) : Int), ix, 0, 0, false⟩]) rfl (by rw [ms6_len]; rfl) HNW.out (mv6_one _) (by omega) (by unfold maxLen; omega) (by omega) HBA.out (wr.heap.size + 1) HSA.out ?_
          intro g7 c7 w7 hown7 hgrow7 hor7 hlt7
          obtain ⟨⟨y3, yf⟩, hadd⟩ := HC.out.added hown7 hgrow7 hor7
          have HADD := Lib.hid hadd
          clear hown7 hgrow7 hor7 hlt7 hadd
          refine hK _ _ ?_
          clear hK K
          refine wpAny_take (i := 11) (v := .pointer (some ⟨cb, 0, none⟩)) rfl (by kernel_rfl) (by kernel_rfl) (by kernel_rfl) (fun _ _ _ h => h) (Or.inl ⟨by rfl, by intro w; go_simp⟩) ?_
          refine wpAny_take (i := 12) (v := .pointer (some ⟨cb, 3, none⟩)) rfl (by kernel_rfl) (by kernel_rfl) (by kernel_rfl) (fun _ _ _ h => h) (Or.inl ⟨by rfl, by intro w; go_simp⟩) ?_
          refine wpAny_ready (rs := [13]) (by kernel_rfl) (by simp) ?_
          refine AllReady.cons rfl (fun K hK => ?_) (AllReady.nil)
          go_simp
          refine hK _ _ ?_
          clear hK K
          refine wpAny_done (by kernel_rfl) ?_ _
          go_wp2
          go_roundw
          case rel => exact ⟨k + 1, ms' ++ [⟨1, ((r.length + k : Nat) : Int), ix, 0, 0, false⟩], _, c7, by omega, by go_num, by go_num, by rw [HSN.out, HMS.out, List.append_assoc], by simp; omega, by simpa using HADD.out.1, HT.out.trans HADD.out.2.1 (RecS.back (Moved.refl _ _) HMV.out), HMV.out.trans HADD.out.2.2.1 HT.out.size⟩
          case measure => simp [intOf]; omega
        · go_simp
          refine hK _ _ ?_
          clear hK K
          refine wpAny_ready (rs := [4]) (by kernel_rfl) (by simp) ?_
          refine AllReady.cons rfl (fun K hK => ?_) (AllReady.nil)
          go_simp
          refine hK _ _ ?_
          clear hK K
          refine wpAny_ready (rs := [10]) (by kernel_rfl) (by simp) ?_
          refine AllReady.cons rfl (fun K hK => ?_) (AllReady.nil)
          refine step_append_lies (w := (wr.alloc (.cells (mvC ⟨1, ((r.length + k : Nat) : Int), ix, 0, 0, false⟩) 52)).drew) rfl (.tmp 26) (.tmp 31) 39 rfl B 52 i0 (.agg #[.int .i64 0, .int .i64 0, .int .i64 0, .int .i64 0, .int .i64 0, .bool false]) 6 48 Try.underlying39 hi hz0 hz1 hz2 rfl (by decide) (.slice C' ms'.length cc') ms'.length (ms6 ms') rfl HOA.out ⟨wr.heap.size, 0, none⟩ 1 1 (ms6 [⟨1, ((r.length + k : Nat) : Int), ix, 0, 0, false⟩]) rfl (by rw [ms6_len]; rfl) HNW.out (mv6_one _) (by omega) (by unfold maxLen; omega) (by omega) HBA.out (wr.heap.size + 1) HSA.out ?_
          intro g7 c7 w7 hown7 hgrow7 hor7 hlt7
          obtain ⟨⟨y3, yf⟩, hadd⟩ := HC.out.added hown7 hgrow7 hor7
          have HADD := Lib.hid hadd
          clear hown7 hgrow7 hor7 hlt7 hadd
          refine hK _ _ ?_
          clear hK K
          refine wpAny_take (i := 11) (v := .pointer (some ⟨cb, 0, none⟩)) rfl (by kernel_rfl) (by kernel_rfl) (by kernel_rfl) (fun _ _ _ h => h) (Or.inl ⟨by rfl, by intro w; go_simp⟩) ?_
          refine wpAny_take (i := 12) (v := .pointer (some ⟨cb, 3, none⟩)) rfl (by kernel_rfl) (by kernel_rfl) (by kernel_rfl) (fun _ _ _ h => h) (Or.inl ⟨by rfl, by intro w; go_simp⟩) ?_
          refine wpAny_ready (rs := [13]) (by kernel_rfl) (by simp) ?_
          refine AllReady.cons rfl (fun K hK => ?_) (AllReady.nil)
          go_simp
          refine hK _ _ ?_
          clear hK K
          refine wpAny_done (by kernel_rfl) ?_ _
          go_wp2
          go_roundw
          case rel => exact ⟨k + 1, ms' ++ [⟨1, ((r.length + k : Nat) : Int), ix, 0, 0, false⟩], _, c7, by omega, by go_num, by go_num, by rw [HSN.out, HMS.out, List.append_assoc], by simp; omega, by simpa using HADD.out.1, HT.out.trans HADD.out.2.1 (RecS.back (Moved.refl _ _) HMV.out), HMV.out.trans HADD.out.2.2.1 HT.out.size⟩
          case measure => simp [intOf]; omega
    · obtain rfl : k = u.length := by omega
      have HMS2 : Hid (ms' = ms ++ pairM r.length u) := Lib.hid (by rw [HMS.out, List.take_of_length_le (by rw [(pairM_len u _).1]; exact Nat.le_refl _)])
      have hS0 := (HBOX.out wr HT.out).1
      have HS0 := Lib.hid hS0
      have HNW := Lib.hid (show ∀ (j : Nat) v, (ms6 [⟨3, ((r.length + u.length : Nat) : Int), 0, i, 0, !b⟩])[j]? = some v → (wr.alloc (.cells (mvC ⟨3, ((r.length + u.length : Nat) : Int), 0, i, 0, !b⟩) 52)).drew.cell? ((⟨wr.heap.size, 0, none⟩ : Addr).add j) = some v from news_mv wr _ 52)
      have HSA : Hid ((wr.alloc (.cells (mvC ⟨3, ((r.length + u.length : Nat) : Int), 0, i, 0, !b⟩) 52)).drew.heap.size = wr.heap.size + 1) := Lib.hid (by show (wr.alloc _).heap.size = _; simp)
      have HOA : Hid ((wr.alloc (.cells (mvC ⟨3, ((r.length + u.length : Nat) : Int), 0, i, 0, !b⟩) 52)).drew.ownsRow B 52 6 (.slice C' ms'.length cc') ms'.length (ms6 ms')) := Lib.hid (HC.out.mvs.alloc _)
      have HBA : Hid (B ≤ (wr.alloc (.cells (mvC ⟨3, ((r.length + u.length : Nat) : Int), 0, i, 0, !b⟩) 52)).drew.heap.size) := Lib.hid (by rw [HSA.out]; have := HC.out.hi; omega)
      have HAL : Hid (Below wr.heap.size wr (wr.alloc (.cells (mvC ⟨3, ((r.length + u.length : Nat) : Int), 0, i, 0, !b⟩) 52))) := Lib.hid ((Below.refl _ wr).alloc (Nat.le_refl _) _)
      have hq3' : (wr.alloc (.cells #[.int .i64 3, .int .i64 ((r.length : Int) + (u.length : Int)), .int .i64 0, .int .i64 i, .int .i64 0, .bool (!b)] 52)).cell? ⟨cb, 3, none⟩ = some (.slice C' ms'.length cc') := (((Below.refl _ wr).alloc (Nat.le_refl _) _).cell (p := ⟨cb, 3, none⟩) HC.out.clt).trans hq3
      have hS1 := (HBOX.out _ (HT.out.trans (Touch.of_below (RecS cb O C') HAL.out) (RecS.back (Moved.refl _ _) HMV.out))).1
      have HS1 := Lib.hid hS1
      clear hS0 hS1
      go_wp2_with fail
      refine wp_region_held_drew (S := fun X => X.cell? ⟨W.heap.size, 1, none⟩ = some (.int .i64 i) ∧ X.cell? ⟨W.heap.size, 2, none⟩ = some (.bool b)) (by kernel_rfl) HS0.out (fun hHeld => ?_)
      refine wpAnyH_take (i := 0) (v := .pointer (some ⟨cb, 0, none⟩)) rfl (by kernel_rfl) (by kernel_rfl) (by kernel_rfl) (fun _ _ _ h => h) (Or.inl ⟨by rfl, by intro w hSw; (try dsimp only at hSw); go_simp⟩) (by assumption) ?_
      refine wpAnyH_take (i := 1) (v := .pointer (some ⟨cb, 0, none⟩)) rfl (by kernel_rfl) (by kernel_rfl) (by kernel_rfl) (fun _ _ _ h => h) (Or.inl ⟨by rfl, by intro w hSw; (try dsimp only at hSw); go_simp⟩) (by assumption) ?_
      refine wpAnyH_take (i := 2) (v := .pointer (some ⟨cb, 0, none⟩)) rfl (by kernel_rfl) (by kernel_rfl) (by kernel_rfl) (fun _ _ _ h => h) (Or.inl ⟨by rfl, by intro w hSw; (try dsimp only at hSw); go_simp⟩) (by assumption) ?_
      refine wpAnyH_take (i := 3) (v := .pointer (some ⟨cb, 3, none⟩)) rfl (by kernel_rfl) (by kernel_rfl) (by kernel_rfl) (fun _ _ _ h => h) (Or.inl ⟨by rfl, by intro w hSw; (try dsimp only at hSw); go_simp⟩) (by assumption) ?_
      refine wpAnyH_take (i := 5) (v := .int .i64 ((r.length + u.length : Nat) : Int)) rfl (by kernel_rfl) (by kernel_rfl) (by kernel_rfl) (fun _ _ _ h => h) (Or.inl ⟨by rfl, by intro w hSw; (try dsimp only at hSw); go_simp⟩) (by assumption) ?_
      refine wpAnyH_take (i := 6) (v := .pointer (some ⟨W.heap.size, 1, none⟩)) rfl (by kernel_rfl) (by kernel_rfl) (by kernel_rfl) (fun _ _ _ h => h) (Or.inl ⟨by rfl, by intro w hSw; (try dsimp only at hSw); go_simp⟩) (by assumption) ?_
      refine wpAnyH_take (i := 7) (v := .int .i64 i) rfl (by kernel_rfl) (by kernel_rfl) (by kernel_rfl) (fun _ _ _ h => h) (Or.inl ⟨by rfl, by intro w hSw; (try dsimp only at hSw); go_simp⟩) (by assumption) ?_
      refine wpAnyH_take (i := 8) (v := .pointer (some ⟨W.heap.size, 2, none⟩)) rfl (by kernel_rfl) (by kernel_rfl) (by kernel_rfl) (fun _ _ _ h => h) (Or.inl ⟨by rfl, by intro w hSw; (try dsimp only at hSw); go_simp⟩) (by assumption) ?_
      refine wpAnyH_take (i := 9) (v := .bool b) rfl (by kernel_rfl) (by kernel_rfl) (by kernel_rfl) (fun _ _ _ h => h) (Or.inl ⟨by rfl, by intro w hSw; (try dsimp only at hSw); go_simp⟩) (by assumption) ?_
      refine wpAnyH_take (i := 10) (v := .bool (!b)) rfl (by kernel_rfl) (by kernel_rfl) (by kernel_rfl) (fun _ _ _ h => h) (Or.inl ⟨by rfl, by intro w hSw; (try dsimp only at hSw); go_simp⟩) (by assumption) ?_
      refine wpAnyH_take (i := 11) (v := .agg #[.int .i64 3, .int .i64 ((r.length + u.length : Nat) : Int), .int .i64 0, .int .i64 i, .int .i64 0, .bool (!b)]) rfl (by kernel_rfl) (by kernel_rfl) (by kernel_rfl) (fun _ _ _ h => h) (Or.inl ⟨by rfl, by intro w hSw; (try dsimp only at hSw); go_simp⟩) (by assumption) ?_
      refine wpAnyH_ready (rs := [4, 12]) (by kernel_rfl) (by simp) ?_
      refine AllReadyH.cons rfl (fun K hK => ?_) (AllReadyH.cons rfl (fun K hK => ?_) (AllReadyH.nil))
      · go_simp
        refine hK.out _ _ (HS0.out) (fun hHeld => ?_)
        clear hK K
        refine wpAnyH_ready (rs := [12]) (by kernel_rfl) (by simp) ?_
        refine AllReadyH.cons rfl (fun K hK => ?_) (AllReadyH.nil)
        go_simp
        refine hK.out _ _ (HS1.out) (fun hHeld => ?_)
        clear hK K
        refine wpAnyH_ready (rs := [13]) (by kernel_rfl) (by simp) ?_
        refine AllReadyH.cons rfl (fun K hK => ?_) (AllReadyH.nil)
        refine step_append_lies (w := (wr.alloc (.cells (mvC ⟨3, ((r.length + u.length : Nat) : Int), 0, i, 0, !b⟩) 52)).drew) rfl (.tmp 42) (.tmp 50) 39 rfl B 52 i0 (.agg #[.int .i64 0, .int .i64 0, .int .i64 0, .int .i64 0, .int .i64 0, .bool false]) 6 48 Try.underlying39 hi hz0 hz1 hz2 rfl (by decide) (.slice C' ms'.length cc') ms'.length (ms6 ms') rfl HOA.out ⟨wr.heap.size, 0, none⟩ 1 1 (ms6 [⟨3, ((r.length + u.length : Nat) : Int), 0, i, 0, !b⟩]) rfl (by rw [ms6_len]; rfl) HNW.out (mv6_one _) (by omega) (by unfold maxLen; omega) (by omega) HBA.out (wr.heap.size + 1) HSA.out ?_
        intro g7 c7 w7 hown7 hgrow7 hor7 hlt7
        obtain ⟨⟨y3, yf⟩, hadd⟩ := HC.out.added hown7 hgrow7 hor7
        have HADD := Lib.hid hadd
        clear hown7 hgrow7 hor7 hlt7 hadd
        have hS3 := (HBOX.out w7 (HT.out.trans HADD.out.2.2.2 (RecS.back (Moved.refl _ _) HMV.out))).1
        have hS4 := (HBOX.out _ (HT.out.trans HADD.out.2.1 (RecS.back (Moved.refl _ _) HMV.out))).1
        have HS3 := Lib.hid hS3
        have HS4 := Lib.hid hS4
        clear hS3 hS4
        refine hK.out _ _ (HS3.out) (fun hHeld => ?_)
        clear hK K
        refine wpAnyH_take (i := 14) (v := .pointer (some ⟨cb, 0, none⟩)) rfl (by kernel_rfl) (by kernel_rfl) (by kernel_rfl) (fun _ _ _ h => h) (Or.inl ⟨by rfl, by intro w hSw; (try dsimp only at hSw); go_simp⟩) (by assumption) ?_
        refine wpAnyH_take (i := 15) (v := .pointer (some ⟨cb, 3, none⟩)) rfl (by kernel_rfl) (by kernel_rfl) (by kernel_rfl) (fun _ _ _ h => h) (Or.inl ⟨by rfl, by intro w hSw; (try dsimp only at hSw); go_simp⟩) (by assumption) ?_
        refine wpAnyH_ready (rs := [16]) (by kernel_rfl) (by simp) ?_
        refine AllReadyH.cons rfl (fun K hK => ?_) (AllReadyH.nil)
        go_simp
        refine hK.out _ _ (HS4.out) (fun hHeld => ?_)
        clear hK K
        refine wpAnyH_done (by kernel_rfl) ?_ _
        have HC3 := Lib.hid HADD.out.1
        have HT3 : Hid (Touch (RecS cb O C) w2 _) := Lib.hid (HT.out.trans HADD.out.2.1 (RecS.back (Moved.refl _ _) HMV.out))
        have HM3 : Hid (Moved w2 C (some ⟨g7, 0, none⟩)) := Lib.hid (HMV.out.trans HADD.out.2.2.1 HT.out.size)
        have HLM : Hid ((ms' ++ [(⟨3, ((r.length + u.length : Nat) : Int), 0, i, 0, !b⟩ : Mv)]).length ≤ 900200000) := Lib.hid (by rw [List.length_append]; simp only [List.length_cons, List.length_nil]; omega)
        have HEQ : Hid (undoS p (r, ms) ⟨u, i, b⟩ = rdL (rdL (rdL (r, ms' ++ [⟨3, ((r.length + u.length : Nat) : Int), 0, i, 0, !b⟩]) u) (relOf p i (!b))) (invW u)) := Lib.hid (by rw [HMS2.out]; rfl)
        clear HADD HS3 HS4 y3 yf hHeld hq3 hq3' HNW HSA HOA HBA HAL HS1 HS0
        generalize w7.setCell _ _ = w3 at *
        generalize ms' ++ [(⟨3, ((r.length + u.length : Nat) : Int), 0, i, 0, !b⟩ : Mv)] = ms3 at *
        have HR3 := read_any p R rc B cb O oc (some ⟨g7, 0, none⟩) c7 r ms3 w3 HC3.out (some ⟨W.heap.size + 1, 0, none⟩) bc u (HBOX.out w3 HT3.out).2.1 (fun a ha => by cases ha; exact HOWN.out _ _ (Moved.refl _ _) HM3.out) (by omega) (by have := HLM.out; omega)
        go_wp2_with fail
        refine HR3.mono ?_
        rintro e4 w4 ⟨rfl, O4, oc4, C4, cc4, hc4, ht4, hmo4, hmc4⟩
        have HC4 := Lib.hid hc4
        have HT4 : Hid (Touch (RecS cb O C) w2 w4) := Lib.hid (HT3.out.trans ht4 (RecS.back (Moved.refl _ _) HM3.out))
        have HO4 : Hid (Moved w2 O O4) := Lib.hid ((Moved.refl _ _).trans hmo4 HT3.out.size)
        have HM4 : Hid (Moved w2 C C4) := Lib.hid (HM3.out.trans hmc4 HT3.out.size)
        have HL4 : Hid ((rdL (r, ms3) u).1.length ≤ r.length + u.length ∧ (rdL (r, ms3) u).2.length ≤ ms3.length + u.length) := Lib.hid ⟨(rdL_len u (r, ms3)).1, (rdL_len u (r, ms3)).2.1⟩
        clear hc4 ht4 hmo4 hmc4 HR3
        generalize rdL (r, ms3) u = s4 at *
        have z0 : w4.cell? ⟨cb, 0, none⟩ = some (.int .i64 p.k) := HC4.out.c0
        have z1 : w4.cell? ⟨cb, 1, none⟩ = some (.slice R p.rels.length rc) := HC4.out.c1
        obtain ⟨⟨z2, z3⟩, _⟩ := HBOX.out w4 HT4.out
        have hT := relator_any p R rc i (!b) w4.drew HP.out HI.out ((HBOX.out w4 HT4.out).2.2)
        go_wp2_with fail
        refine wp_region_held_drew (S := fun X => X.cell? ⟨cb, 0, none⟩ = some (.int .i64 p.k) ∧ X.cell? ⟨cb, 1, none⟩ = some (.slice R p.rels.length rc) ∧ X.cell? ⟨W.heap.size, 1, none⟩ = some (.int .i64 i) ∧ X.cell? ⟨W.heap.size, 2, none⟩ = some (.bool b)) (by kernel_rfl) ⟨z0, z1, z2, z3⟩ (fun hHeld => ?_)
        refine wpAnyH_take (i := 0) (v := .pointer (some ⟨cb, 0, none⟩)) rfl (by kernel_rfl) (by kernel_rfl) (by kernel_rfl) (fun _ _ _ h => h) (Or.inl ⟨by rfl, by intro w hSw; (try dsimp only at hSw); go_simp⟩) (by assumption) ?_
        refine wpAnyH_take (i := 1) (v := .pointer (some ⟨cb, 0, none⟩)) rfl (by kernel_rfl) (by kernel_rfl) (by kernel_rfl) (fun _ _ _ h => h) (Or.inl ⟨by rfl, by intro w hSw; (try dsimp only at hSw); go_simp⟩) (by assumption) ?_
        refine wpAnyH_take (i := 2) (v := .pointer (some ⟨cb, 0, none⟩)) rfl (by kernel_rfl) (by kernel_rfl) (by kernel_rfl) (fun _ _ _ h => h) (Or.inl ⟨by rfl, by intro w hSw; (try dsimp only at hSw); go_simp⟩) (by assumption) ?_
        refine wpAnyH_take (i := 3) (v := .pointer (some ⟨cb, 0, none⟩)) rfl (by kernel_rfl) (by kernel_rfl) (by kernel_rfl) (fun _ _ _ h => h) (Or.inl ⟨by rfl, by intro w hSw; (try dsimp only at hSw); go_simp⟩) (by assumption) ?_
        refine wpAnyH_take (i := 4) (v := .agg #[.int .i64 p.k, .slice R p.rels.length rc]) rfl (by kernel_rfl) (by kernel_rfl) (by kernel_rfl) (fun _ _ _ h => h) (Or.inl ⟨by rfl, by intro w hSw; (try dsimp only at hSw); go_simp⟩) (by assumption) ?_
        refine wpAnyH_take (i := 5) (v := .pointer (some ⟨W.heap.size, 1, none⟩)) rfl (by kernel_rfl) (by kernel_rfl) (by kernel_rfl) (fun _ _ _ h => h) (Or.inl ⟨by rfl, by intro w hSw; (try dsimp only at hSw); go_simp⟩) (by assumption) ?_
        refine wpAnyH_take (i := 6) (v := .int .i64 i) rfl (by kernel_rfl) (by kernel_rfl) (by kernel_rfl) (fun _ _ _ h => h) (Or.inl ⟨by rfl, by intro w hSw; (try dsimp only at hSw); go_simp⟩) (by assumption) ?_
        refine wpAnyH_take (i := 7) (v := .pointer (some ⟨W.heap.size, 2, none⟩)) rfl (by kernel_rfl) (by kernel_rfl) (by kernel_rfl) (fun _ _ _ h => h) (Or.inl ⟨by rfl, by intro w hSw; (try dsimp only at hSw); go_simp⟩) (by assumption) ?_
        refine wpAnyH_take (i := 8) (v := .bool b) rfl (by kernel_rfl) (by kernel_rfl) (by kernel_rfl) (fun _ _ _ h => h) (Or.inl ⟨by rfl, by intro w hSw; (try dsimp only at hSw); go_simp⟩) (by assumption) ?_
        refine wpAnyH_take (i := 9) (v := .bool (!b)) rfl (by kernel_rfl) (by kernel_rfl) (by kernel_rfl) (fun _ _ _ h => h) (Or.inl ⟨by rfl, by intro w hSw; (try dsimp only at hSw); go_simp⟩) (by assumption) ?_
        refine wpAnyH_ready (rs := [10]) (by kernel_rfl) (by simp) ?_
        refine AllReadyH.cons rfl (fun K hK => ?_) (AllReadyH.nil)
        go_simp
        go_wp2_with fail
        refine hT.mono ?_
        rintro e5 w5 ⟨A5, c5, rfl, hrow5, hb5, hA5, _⟩
        have HB5 : Hid (Below w4.heap.size w4 w5) := Lib.hid (((Below.refl _ w4).drewN 1).trans hb5)
        have HC5 := Lib.hid (HC4.out.below HB5.out)
        have HT5 : Hid (Touch (RecS cb O C) w2 w5) := Lib.hid (HT4.out.trans (Touch.of_below (fun _ => False) HB5.out) (fun _ _ h => h.elim))
        have HR5 := read_any p R rc B cb O4 oc4 C4 cc4 s4.1 s4.2 w5 HC5.out A5 c5 (relOf p i (!b)) hrow5 (fun a ha e => by have h1 := HC4.out.lt _ e; have h2 : w4.heap.size ≤ a.block := (hA5 a ha).1; omega) (by have := HL4.out; have := HRL.out; omega) (by have := HL4.out; have := HRL.out; have := HLM.out; omega)
        have y0 := HC5.out.c0
        have y1 := HC5.out.c1
        obtain ⟨⟨y2, y3⟩, _⟩ := HBOX.out w5 HT5.out
        clear hT hrow5 hb5 hA5 z0 z1 z2 z3 hHeld
        refine hK.out _ _ ⟨y0, y1, y2, y3⟩ (fun hHeld => ?_)
        clear hK K y0 y1 y2 y3
        refine wpAnyH_ready (rs := [11]) (by kernel_rfl) (by simp) ?_
        refine AllReadyH.cons rfl (fun K hK => ?_) (AllReadyH.nil)
        go_simp
        go_wp2_with fail
        refine HR5.mono ?_
        rintro e6 w6 ⟨rfl, O6, oc6, C6, cc6, hc6, ht6, hmo6, hmc6⟩
        have HC6 := Lib.hid hc6
        have HT6 : Hid (Touch (RecS cb O C) w2 w6) := Lib.hid (HT5.out.trans ht6 (RecS.back HO4.out HM4.out))
        have HO6 : Hid (Moved w2 O O6) := Lib.hid (HO4.out.trans hmo6 HT5.out.size)
        have HM6 : Hid (Moved w2 C C6) := Lib.hid (HM4.out.trans hmc6 HT5.out.size)
        have HL6 : Hid ((rdL (s4.1, s4.2) (relOf p i (!b))).1.length ≤ s4.1.length + (relOf p i (!b)).length ∧ (rdL (s4.1, s4.2) (relOf p i (!b))).2.length ≤ s4.2.length + (relOf p i (!b)).length) := Lib.hid ⟨(rdL_len _ _).1, (rdL_len _ _).2.1⟩
        obtain ⟨⟨y2, y3⟩, _⟩ := HBOX.out w6 HT6.out
        refine hK.out _ _ ⟨HC6.out.c0, HC6.out.c1, y2, y3⟩ (fun hHeld => ?_)
        clear hK K y2 y3 hHeld
        refine wpAnyH_done (by kernel_rfl) ?_ _
        clear hc6 ht6 hmo6 hmc6 HR5
        generalize hs6 : rdL (s4.1, s4.2) (relOf p i (!b)) = s6 at *
        have HI6 := (inverseOf_any (some ⟨W.heap.size + 1, 0, none⟩) bc u w6 (HBOX.out w6 HT6.out).2.1 (by intro h; cases h) (by omega)).mono (fun _ _ h => CloneP.row h)
        go_wp2_with fail
        refine HI6.mono ?_
        rintro e7 w7' ⟨A7, c7', rfl, hrow7, hb7, hA7, _⟩
        have HB7 := Lib.hid hb7
        have HC7 := Lib.hid (HC6.out.below HB7.out)
        have HT7 : Hid (Touch (RecS cb O C) w2 w7') := Lib.hid (HT6.out.trans (Touch.of_below (fun _ => False) HB7.out) (fun _ _ h => h.elim))
        have hil : (invW u).length = u.length := ginv_len _ _
        have HR7 := read_any p R rc B cb O6 oc6 C6 cc6 s6.1 s6.2 w7' HC7.out A7 c7' (invW u) hrow7 (fun a ha e => by have h1 := HC6.out.lt _ e; have h2 := (hA7 a ha).1; omega) (by have := HL4.out; have := HL6.out; have := HRL.out; omega) (by have := HL4.out; have := HL6.out; have := HRL.out; have := HLM.out; omega)
        clear HI6 hrow7 hb7 hA7 hil
        go_wp2_with fail
        refine HR7.mono ?_
        rintro e8 w8 ⟨rfl, O8, oc8, C8, cc8, hc8, ht8, hmo8, hmc8⟩
        have hq1 := (Moved.refl W O).trans (HO6.out.trans hmo8 HT7.out.size) HWS.out
        have hq2 := (Moved.refl W C).trans (HM6.out.trans hmc8 HT7.out.size) HWS.out
        have hq0 := HT2.out.trans (HT7.out.trans ht8 (RecS.back HO6.out HM6.out)) (fun _ _ h => h)
        have HQ := Lib.hid (And.intro hc8 (And.intro hq0 (And.intro hq1 hq2)))
        clear hc8 ht8 hmo8 hmc8 hq0 hq1 hq2 HR7
        go_wp2
        go_end0
        rw [HEQ.out]
        exact ⟨rfl, _, _, _, _, HQ.out.1, HQ.out.2.1, HQ.out.2.2.1, HQ.out.2.2.2⟩
      · go_simp
        refine hK.out _ _ (HS1.out) (fun hHeld => ?_)
        clear hK K
        refine wpAnyH_ready (rs := [4]) (by kernel_rfl) (by simp) ?_
        refine AllReadyH.cons rfl (fun K hK => ?_) (AllReadyH.nil)
        go_simp
        refine hK.out _ _ (HS1.out) (fun hHeld => ?_)
        clear hK K
        refine wpAnyH_ready (rs := [13]) (by kernel_rfl) (by simp) ?_
        refine AllReadyH.cons rfl (fun K hK => ?_) (AllReadyH.nil)
        refine step_append_lies (w := (wr.alloc (.cells (mvC ⟨3, ((r.length + u.length : Nat) : Int), 0, i, 0, !b⟩) 52)).drew) rfl (.tmp 42) (.tmp 50) 39 rfl B 52 i0 (.agg #[.int .i64 0, .int .i64 0, .int .i64 0, .int .i64 0, .int .i64 0, .bool false]) 6 48 Try.underlying39 hi hz0 hz1 hz2 rfl (by decide) (.slice C' ms'.length cc') ms'.length (ms6 ms') rfl HOA.out ⟨wr.heap.size, 0, none⟩ 1 1 (ms6 [⟨3, ((r.length + u.length : Nat) : Int), 0, i, 0, !b⟩]) rfl (by rw [ms6_len]; rfl) HNW.out (mv6_one _) (by omega) (by unfold maxLen; omega) (by omega) HBA.out (wr.heap.size + 1) HSA.out ?_
        intro g7 c7 w7 hown7 hgrow7 hor7 hlt7
        obtain ⟨⟨y3, yf⟩, hadd⟩ := HC.out.added hown7 hgrow7 hor7
        have HADD := Lib.hid hadd
        clear hown7 hgrow7 hor7 hlt7 hadd
        have hS3 := (HBOX.out w7 (HT.out.trans HADD.out.2.2.2 (RecS.back (Moved.refl _ _) HMV.out))).1
        have hS4 := (HBOX.out _ (HT.out.trans HADD.out.2.1 (RecS.back (Moved.refl _ _) HMV.out))).1
        have HS3 := Lib.hid hS3
        have HS4 := Lib.hid hS4
        clear hS3 hS4
        refine hK.out _ _ (HS3.out) (fun hHeld => ?_)
        clear hK K
        refine wpAnyH_take (i := 14) (v := .pointer (some ⟨cb, 0, none⟩)) rfl (by kernel_rfl) (by kernel_rfl) (by kernel_rfl) (fun _ _ _ h => h) (Or.inl ⟨by rfl, by intro w hSw; (try dsimp only at hSw); go_simp⟩) (by assumption) ?_
        refine wpAnyH_take (i := 15) (v := .pointer (some ⟨cb, 3, none⟩)) rfl (by kernel_rfl) (by kernel_rfl) (by kernel_rfl) (fun _ _ _ h => h) (Or.inl ⟨by rfl, by intro w hSw; (try dsimp only at hSw); go_simp⟩) (by assumption) ?_
        refine wpAnyH_ready (rs := [16]) (by kernel_rfl) (by simp) ?_
        refine AllReadyH.cons rfl (fun K hK => ?_) (AllReadyH.nil)
        go_simp
        refine hK.out _ _ (HS4.out) (fun hHeld => ?_)
        clear hK K
        refine wpAnyH_done (by kernel_rfl) ?_ _
        have HC3 := Lib.hid HADD.out.1
        have HT3 : Hid (Touch (RecS cb O C) w2 _) := Lib.hid (HT.out.trans HADD.out.2.1 (RecS.back (Moved.refl _ _) HMV.out))
        have HM3 : Hid (Moved w2 C (some ⟨g7, 0, none⟩)) := Lib.hid (HMV.out.trans HADD.out.2.2.1 HT.out.size)
        have HLM : Hid ((ms' ++ [(⟨3, ((r.length + u.length : Nat) : Int), 0, i, 0, !b⟩ : Mv)]).length ≤ 900200000) := Lib.hid (by rw [List.length_append]; simp only [List.length_cons, List.length_nil]; omega)
        have HEQ : Hid (undoS p (r, ms) ⟨u, i, b⟩ = rdL (rdL (rdL (r, ms' ++ [⟨3, ((r.length + u.length : Nat) : Int), 0, i, 0, !b⟩]) u) (relOf p i (!b))) (invW u)) := Lib.hid (by rw [HMS2.out]; rfl)
        clear HADD HS3 HS4 y3 yf hHeld hq3 hq3' HNW HSA HOA HBA HAL HS1 HS0
        generalize w7.setCell _ _ = w3 at *
        generalize ms' ++ [(⟨3, ((r.length + u.length : Nat) : Int), 0, i, 0, !b⟩ : Mv)] = ms3 at *
        have HR3 := read_any p R rc B cb O oc (some ⟨g7, 0, none⟩) c7 r ms3 w3 HC3.out (some ⟨W.heap.size + 1, 0, none⟩) bc u (HBOX.out w3 HT3.out).2.1 (fun a ha => by cases ha; exact HOWN.out _ _ (Moved.refl _ _) HM3.out) (by omega) (by have := HLM.out; omega)
        go_wp2_with fail
        refine HR3.mono ?_
        rintro e4 w4 ⟨rfl, O4, oc4, C4, cc4, hc4, ht4, hmo4, hmc4⟩
        have HC4 := Lib.hid hc4
        have HT4 : Hid (Touch (RecS cb O C) w2 w4) := Lib.hid (HT3.out.trans ht4 (RecS.back (Moved.refl _ _) HM3.out))
        have HO4 : Hid (Moved w2 O O4) := Lib.hid ((Moved.refl _ _).trans hmo4 HT3.out.size)
        have HM4 : Hid (Moved w2 C C4) := Lib.hid (HM3.out.trans hmc4 HT3.out.size)
        have HL4 : Hid ((rdL (r, ms3) u).1.length ≤ r.length + u.length ∧ (rdL (r, ms3) u).2.length ≤ ms3.length + u.length) := Lib.hid ⟨(rdL_len u (r, ms3)).1, (rdL_len u (r, ms3)).2.1⟩
        clear hc4 ht4 hmo4 hmc4 HR3
        generalize rdL (r, ms3) u = s4 at *
        have z0 : w4.cell? ⟨cb, 0, none⟩ = some (.int .i64 p.k) := HC4.out.c0
        have z1 : w4.cell? ⟨cb, 1, none⟩ = some (.slice R p.rels.length rc) := HC4.out.c1
        obtain ⟨⟨z2, z3⟩, _⟩ := HBOX.out w4 HT4.out
        have hT := relator_any p R rc i (!b) w4.drew HP.out HI.out ((HBOX.out w4 HT4.out).2.2)
        go_wp2_with fail
        refine wp_region_held_drew (S := fun X => X.cell? ⟨cb, 0, none⟩ = some (.int .i64 p.k) ∧ X.cell? ⟨cb, 1, none⟩ = some (.slice R p.rels.length rc) ∧ X.cell? ⟨W.heap.size, 1, none⟩ = some (.int .i64 i) ∧ X.cell? ⟨W.heap.size, 2, none⟩ = some (.bool b)) (by kernel_rfl) ⟨z0, z1, z2, z3⟩ (fun hHeld => ?_)
        refine wpAnyH_take (i := 0) (v := .pointer (some ⟨cb, 0, none⟩)) rfl (by kernel_rfl) (by kernel_rfl) (by kernel_rfl) (fun _ _ _ h => h) (Or.inl ⟨by rfl, by intro w hSw; (try dsimp only at hSw); go_simp⟩) (by assumption) ?_
        refine wpAnyH_take (i := 1) (v := .pointer (some ⟨cb, 0, none⟩)) rfl (by kernel_rfl) (by kernel_rfl) (by kernel_rfl) (fun _ _ _ h => h) (Or.inl ⟨by rfl, by intro w hSw; (try dsimp only at hSw); go_simp⟩) (by assumption) ?_
        refine wpAnyH_take (i := 2) (v := .pointer (some ⟨cb, 0, none⟩)) rfl (by kernel_rfl) (by kernel_rfl) (by kernel_rfl) (fun _ _ _ h => h) (Or.inl ⟨by rfl, by intro w hSw; (try dsimp only at hSw); go_simp⟩) (by assumption) ?_
        refine wpAnyH_take (i := 3) (v := .pointer (some ⟨cb, 0, none⟩)) rfl (by kernel_rfl) (by kernel_rfl) (by kernel_rfl) (fun _ _ _ h => h) (Or.inl ⟨by rfl, by intro w hSw; (try dsimp only at hSw); go_simp⟩) (by assumption) ?_
        refine wpAnyH_take (i := 4) (v := .agg #[.int .i64 p.k, .slice R p.rels.length rc]) rfl (by kernel_rfl) (by kernel_rfl) (by kernel_rfl) (fun _ _ _ h => h) (Or.inl ⟨by rfl, by intro w hSw; (try dsimp only at hSw); go_simp⟩) (by assumption) ?_
        refine wpAnyH_take (i := 5) (v := .pointer (some ⟨W.heap.size, 1, none⟩)) rfl (by kernel_rfl) (by kernel_rfl) (by kernel_rfl) (fun _ _ _ h => h) (Or.inl ⟨by rfl, by intro w hSw; (try dsimp only at hSw); go_simp⟩) (by assumption) ?_
        refine wpAnyH_take (i := 6) (v := .int .i64 i) rfl (by kernel_rfl) (by kernel_rfl) (by kernel_rfl) (fun _ _ _ h => h) (Or.inl ⟨by rfl, by intro w hSw; (try dsimp only at hSw); go_simp⟩) (by assumption) ?_
        refine wpAnyH_take (i := 7) (v := .pointer (some ⟨W.heap.size, 2, none⟩)) rfl (by kernel_rfl) (by kernel_rfl) (by kernel_rfl) (fun _ _ _ h => h) (Or.inl ⟨by rfl, by intro w hSw; (try dsimp only at hSw); go_simp⟩) (by assumption) ?_
        refine wpAnyH_take (i := 8) (v := .bool b) rfl (by kernel_rfl) (by kernel_rfl) (by kernel_rfl) (fun _ _ _ h => h) (Or.inl ⟨by rfl, by intro w hSw; (try dsimp only at hSw); go_simp⟩) (by assumption) ?_
        refine wpAnyH_take (i := 9) (v := .bool (!b)) rfl (by kernel_rfl) (by kernel_rfl) (by kernel_rfl) (fun _ _ _ h => h) (Or.inl ⟨by rfl, by intro w hSw; (try dsimp only at hSw); go_simp⟩) (by assumption) ?_
        refine wpAnyH_ready (rs := [10]) (by kernel_rfl) (by simp) ?_
        refine AllReadyH.cons rfl (fun K hK => ?_) (AllReadyH.nil)
        go_simp
        go_wp2_with fail
        refine hT.mono ?_
        rintro e5 w5 ⟨A5, c5, rfl, hrow5, hb5, hA5, _⟩
        have HB5 : Hid (Below w4.heap.size w4 w5) := Lib.hid (((Below.refl _ w4).drewN 1).trans hb5)
        have HC5 := Lib.hid (HC4.out.below HB5.out)
        have HT5 : Hid (Touch (RecS cb O C) w2 w5) := Lib.hid (HT4.out.trans (Touch.of_below (fun _ => False) HB5.out) (fun _ _ h => h.elim))
        have HR5 := read_any p R rc B cb O4 oc4 C4 cc4 s4.1 s4.2 w5 HC5.out A5 c5 (relOf p i (!b)) hrow5 (fun a ha e => by have h1 := HC4.out.lt _ e; have h2 : w4.heap.size ≤ a.block := (hA5 a ha).1; omega) (by have := HL4.out; have := HRL.out; omega) (by have := HL4.out; have := HRL.out; have := HLM.out; omega)
        have y0 := HC5.out.c0
        have y1 := HC5.out.c1
        obtain ⟨⟨y2, y3⟩, _⟩ := HBOX.out w5 HT5.out
        clear hT hrow5 hb5 hA5 z0 z1 z2 z3 hHeld
        refine hK.out _ _ ⟨y0, y1, y2, y3⟩ (fun hHeld => ?_)
        clear hK K y0 y1 y2 y3
        refine wpAnyH_ready (rs := [11]) (by kernel_rfl) (by simp) ?_
        refine AllReadyH.cons rfl (fun K hK => ?_) (AllReadyH.nil)
        go_simp
        go_wp2_with fail
        refine HR5.mono ?_
        rintro e6 w6 ⟨rfl, O6, oc6, C6, cc6, hc6, ht6, hmo6, hmc6⟩
        have HC6 := Lib.hid hc6
        have HT6 : Hid (Touch (RecS cb O C) w2 w6) := Lib.hid (HT5.out.trans ht6 (RecS.back HO4.out HM4.out))
        have HO6 : Hid (Moved w2 O O6) := Lib.hid (HO4.out.trans hmo6 HT5.out.size)
        have HM6 : Hid (Moved w2 C C6) := Lib.hid (HM4.out.trans hmc6 HT5.out.size)
        have HL6 : Hid ((rdL (s4.1, s4.2) (relOf p i (!b))).1.length ≤ s4.1.length + (relOf p i (!b)).length ∧ (rdL (s4.1, s4.2) (relOf p i (!b))).2.length ≤ s4.2.length + (relOf p i (!b)).length) := Lib.hid ⟨(rdL_len _ _).1, (rdL_len _ _).2.1⟩
        obtain ⟨⟨y2, y3⟩, _⟩ := HBOX.out w6 HT6.out
        refine hK.out _ _ ⟨HC6.out.c0, HC6.out.c1, y2, y3⟩ (fun hHeld => ?_)
        clear hK K y2 y3 hHeld
        refine wpAnyH_done (by kernel_rfl) ?_ _
        clear hc6 ht6 hmo6 hmc6 HR5
        generalize hs6 : rdL (s4.1, s4.2) (relOf p i (!b)) = s6 at *
        have HI6 := (inverseOf_any (some ⟨W.heap.size + 1, 0, none⟩) bc u w6 (HBOX.out w6 HT6.out).2.1 (by intro h; cases h) (by omega)).mono (fun _ _ h => CloneP.row h)
        go_wp2_with fail
        refine HI6.mono ?_
        rintro e7 w7' ⟨A7, c7', rfl, hrow7, hb7, hA7, _⟩
        have HB7 := Lib.hid hb7
        have HC7 := Lib.hid (HC6.out.below HB7.out)
        have HT7 : Hid (Touch (RecS cb O C) w2 w7') := Lib.hid (HT6.out.trans (Touch.of_below (fun _ => False) HB7.out) (fun _ _ h => h.elim))
        have hil : (invW u).length = u.length := ginv_len _ _
        have HR7 := read_any p R rc B cb O6 oc6 C6 cc6 s6.1 s6.2 w7' HC7.out A7 c7' (invW u) hrow7 (fun a ha e => by have h1 := HC6.out.lt _ e; have h2 := (hA7 a ha).1; omega) (by have := HL4.out; have := HL6.out; have := HRL.out; omega) (by have := HL4.out; have := HL6.out; have := HRL.out; have := HLM.out; omega)
        clear HI6 hrow7 hb7 hA7 hil
        go_wp2_with fail
        refine HR7.mono ?_
        rintro e8 w8 ⟨rfl, O8, oc8, C8, cc8, hc8, ht8, hmo8, hmc8⟩
        have hq1 := (Moved.refl W O).trans (HO6.out.trans hmo8 HT7.out.size) HWS.out
        have hq2 := (Moved.refl W C).trans (HM6.out.trans hmc8 HT7.out.size) HWS.out
        have hq0 := HT2.out.trans (HT7.out.trans ht8 (RecS.back HO6.out HM6.out)) (fun _ _ h => h)
        have HQ := Lib.hid (And.intro hc8 (And.intro hq0 (And.intro hq1 hq2)))
        clear hc8 ht8 hmo8 hmc8 hq0 hq1 hq2 HR7
        go_wp2
        go_end0
        rw [HEQ.out]
        exact ⟨rfl, _, _, _, _, HQ.out.1, HQ.out.2.1, HQ.out.2.2.1, HQ.out.2.2.2⟩
end Go.Proofs.Ytbcckfggnlmhoaa
