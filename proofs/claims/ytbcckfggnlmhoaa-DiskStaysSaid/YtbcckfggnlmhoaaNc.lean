/-
  Our own text, in the proof of the law DiskToMoves of package disk (cayleylaw04). Proved here: collapse.read. Conditions: collapse and the letters lie in memory, in blocks of their own.
-/
import Derived.Test.YtbcckfggnlmhoaaNb
namespace Go.Proofs.Ytbcckfggnlmhoaa
open Go Go.RowKit

/-- How read and undo end. -/
def ReadP (p : Pr) (R : Option Addr) (rc B cb : Nat) (O C : Option Addr) (s : List UInt8 × List Mv) (W : World) (e : Ending) (W' : World) : Prop :=
  e = .returned (.tuple #[]) ∧ ∃ O' oc' C' cc', ColAt p R rc B cb O' oc' C' cc' s.1 s.2 W' ∧ Touch (RecS cb O C) W W' ∧ Moved W O O' ∧ Moved W C C'

theorem rdL_take (s : List UInt8 × List Mv) (l : List UInt8) (k : Nat) (h : k < l.length) : rdL s (l.take (k + 1)) = rdS (rdL s (l.take k)) l[k] := by
  rw [List.take_succ_eq_append_getElem h, rdL_app]; rfl

set_option maxHeartbeats 8000000 in
set_option maxRecDepth 100000 in
theorem read_any (p : Pr) (R : Option Addr) (rc B cb : Nat) (O : Option Addr) (oc : Nat) (C : Option Addr) (cc : Nat) (r : List UInt8) (ms : List Mv) (W : World) (h : ColAt p R rc B cb O oc C cc r ms W) (A : Option Addr) (cap : Nat) (l : List UInt8) (hl : RowAt W A l) (hap : ∀ a, A = some a → ¬ RecS cb O C a.block)
    (hr : r.length + l.length ≤ 1000000000) (hm : ms.length + l.length ≤ 1000000000) :
    Calls Try.prog 68 #[.pointer (some ⟨cb, 0, none⟩), .slice A l.length cap] W (ReadP p R rc B cb O C (rdL (r, ms) l) W) := by
  have H := Lib.hid h
  have HL := Lib.hid hl
  have HAP := Lib.hid hap
  clear h hl hap
  go_enter Try.func68, Try.ntmps68
  go_wp2
  go_loopw [5, 6, 9] (fun _ _ i wr => ∃ (k : Nat) (r' : List UInt8) (ms' : List Mv) (O' : Option Addr) (oc' : Nat) (C' : Option Addr) (cc' : Nat), k ≤ l.length ∧ i = .int .i64 (k : Int) ∧ rdL (r, ms) (l.take k) = (r', ms') ∧ r'.length ≤ r.length + k ∧ ms'.length ≤ ms.length + k ∧ ColAt p R rc B cb O' oc' C' cc' r' ms' wr ∧ Touch (RecS cb O C) W wr ∧ Moved W O O' ∧ Moved W C C')
    (fun _ _ i _ => l.length - (intOf i).toNat)
  case atStart => exact ⟨0, r, ms, O, oc, C, cc, Nat.zero_le _, rfl, rfl, Nat.le_refl _, Nat.le_refl _, H.out, Touch.refl _ _, Moved.refl _ _, Moved.refl _ _⟩
  case round =>
    obtain ⟨k, r', ms', O', oc', C', cc', hk, rfl, hs, hrk, hmk, hcol, ht, hm1, hm2⟩ := hrel
    have HS := Lib.hid hs
    have HC := Lib.hid hcol
    have HT := Lib.hid ht
    have HM1 := Lib.hid hm1
    have HM2 := Lib.hid hm2
    clear hs hcol ht hm1 hm2
    by_cases hlt : k < l.length
    · have HSN := Lib.hid (rdL_take (r, ms) l k hlt)
      rw [HS.out] at HSN
      obtain ⟨b, o, hA, hcl⟩ := HL.out k hlt
      have hnb := HAP.out _ hA
      subst hA
      have hc : wr.cell? ⟨b, o + k, none⟩ = some (.int .u8 (l[k]).toNat) := (cell_same (HT.out.block b (lt_of_cell hcl) hnb) _).trans hcl
      have HI : Hid (∀ m, Calls Try.prog 52 #[.int .u8 l[k].toNat] (wr.drewN m) fun e w'' => e = .returned (.int .u8 (invc l[k]).toNat) ∧ ∃ j, w'' = wr.drewN j) := Lib.hid fun m => Calls.quiet_of_same ((inverseLetter_any l[k] (wr.drewN m)).mono fun _ _ h => ⟨h.1, h.2.symm⟩)
      clear hcl hnb
      generalize l[k] = c at *
      cases r' with
      | nil =>
        have HSN2 : Hid (rdL (r, ms) (l.take (k + 1)) = ([c], ms')) := Lib.hid HSN.out
        have q2 : wr.cell? ⟨cb, 2, none⟩ = some (.slice O' 0 oc') := HC.out.c2
        have q2' : wr.cell? ⟨cb, 1 + 1, none⟩ = some (.slice O' 0 oc') := HC.out.c2
        have hd : decide ((0 : Int) ≤ 0 - 1) = false := by decide
        have hd2 : decide ((0 : Int) ≤ -1) = false := by decide
        go_wp2
        go_quiet (fail)
        have HD := Lib.hid (HC.out.below ((Below.refl _ wr).drewN nq))
        have HTD := Lib.hid (HT.out.trans (Touch.of_below (fun _ => False) ((Below.refl wr.heap.size wr).drewN nq)) (fun _ _ h => h.elim))
        clear q2 q2' hc
        generalize wr.drewN nq = wd at *
        have q2 : wd.cell? ⟨cb, 2, none⟩ = some (.slice O' 0 oc') := HD.out.c2
        have HFZ : Hid (∀ w1, wd.grownBy w1 (blk O') → w1.cell? ⟨cb, 2, none⟩ = some (.slice O' 0 oc') ∧ w1.frozen? ⟨cb, 2, none⟩ = false) := Lib.hid (fun w1 hg => by
          have hb := hg.block cb HD.out.clt (fun e => HD.out.farO e.symm)
          exact ⟨(cell_same hb 2).trans HD.out.c2, (frozen_same hb 2).trans HD.out.f2⟩)
        have hBD := HD.out.hi
        go_wp2_with (at_builtin; refine append_one wd rfl (.tmp 57) (.tmp 59) rfl B O' 0 oc' [] c rfl (show wd.ownsRow _ _ _ _ _ _ from HD.out.word) _ rfl rfl (by omega) hBD ?_; intro A' cap' w1 hown1 hg1 hm1; obtain ⟨z2, zf⟩ := HFZ.out w1 hg1)
        have HST := Lib.hid (HD.out.setO (r' := [c]) hg1 hown1 hm1)
        have HMV := Lib.hid hm1
        clear hown1 hg1 hm1 z2 zf
        go_wp2
        go_roundw
        case rel => exact ⟨k + 1, [c], ms', A', cap', C', cc', by omega, by go_num, HSN2.out, by simp; omega, by omega, HST.out.1, HTD.out.trans HST.out.2 (RecS.back HM1.out HM2.out), HM1.out.trans HMV.out HTD.out.size, HM2.out⟩
        case measure => simp [intOf]; omega
      | cons x t =>
        obtain ⟨g, o2, hO, hx⟩ := rowAt_own HC.out.word t.length (by simp)
        obtain rfl : o2 = 0 := by
          rcases own_shape HC.out.word with ⟨h, _⟩ | ⟨g', h, _⟩
          · rw [hO] at h; cases h
          · rw [hO] at h; cases h; rfl
        subst hO
        have he : (x :: t).reverse[t.length]'(by simp) = x := by simp
        rw [he, Nat.zero_add] at hx
        clear he
        have hd : decide ((0 : Int) ≤ (t.length : Int)) = true := by simp
        have hcp := own_cap HC.out.word
        simp only [List.length_cons] at hcp hrk
        have hE := eq_nat_bool x (invc c)
        have hE2 := eq_nat_bool' x (invc c)
        have q2 : wr.cell? ⟨cb, 2, none⟩ = some (.slice (some ⟨g, 0, none⟩) (t.length + 1) oc') := HC.out.c2
        by_cases hcc : x = invc c
        · have HSN2 : Hid (rdL (r, ms) (l.take (k + 1)) = (t, ms' ++ [⟨2, (t.length : Nat), 0, 0, 0, false⟩])) := Lib.hid (by rw [HSN.out]; unfold rdS; simp only; rw [if_pos hcc])
          rw [decide_eq_true hcc] at hE hE2
          clear hcc
          go_wp2
          go_quiet ((go_at_call 52; exact HI.out _))
          have HD := Lib.hid (HC.out.below ((Below.refl _ wr).drewN nq))
          have HTD := Lib.hid (HT.out.trans (Touch.of_below (fun _ => False) ((Below.refl wr.heap.size wr).drewN nq)) (fun _ _ h => h.elim))
          clear q2 hc hx HI
          generalize wr.drewN nq = wd at *
          have q2 : wd.cell? ⟨cb, 2, none⟩ = some (.slice (some ⟨g, 0, none⟩) (t.length + 1) oc') := HD.out.c2
          have qf : wd.frozen? ⟨cb, 2, none⟩ = false := HD.out.f2
          have HST := Lib.hid (HD.out.setO (r' := t) (grown_refl wd _) (show wd.ownsRow _ _ _ _ _ _ from by have := own_take (m := t.length) (by simp) HD.out.word; simpa [bs] using this) (Moved.refl wd _))
          have hbz : B ≤ (wd.setCell ⟨cb, 2, none⟩ (.slice (some ⟨g, 0, none⟩) t.length oc')).heap.size := HST.out.1.hi
          have q3 : (wd.setCell ⟨cb, 2, none⟩ (.slice (some ⟨g, 0, none⟩) t.length oc')).cell? ⟨cb, 3, none⟩ = some (.slice C' ms'.length cc') := HST.out.1.c3
          have HFZ : Hid (∀ w1, (wd.setCell ⟨cb, 2, none⟩ (.slice (some ⟨g, 0, none⟩) t.length oc')).grownBy w1 (blk C') → w1.cell? ⟨cb, 3, none⟩ = some (.slice C' ms'.length cc') ∧ w1.frozen? ⟨cb, 3, none⟩ = false) := Lib.hid (fun w1 hg => by
            have hb := hg.block cb HST.out.1.clt (fun e => HST.out.1.farC e.symm)
            exact ⟨(cell_same hb 3).trans HST.out.1.c3, (frozen_same hb 3).trans HST.out.1.f3⟩)
          have hk1 : (t.length : Int) ≤ (oc' : Int) := by omega
          have hk2 : t.length ≤ oc' := by omega
          go_wp2_with (at_builtin; refine append_oneM (wd.setCell ⟨cb, 2, none⟩ (.slice (some ⟨g, 0, none⟩) t.length oc')) rfl (.tmp 46) (.tmp 49) rfl B C' ms'.length cc' ms' ⟨2, (t.length : Nat), 0, 0, 0, false⟩ _ rfl rfl HST.out.1.mvs wd.heap.size (World.size_setCell _ _ _).symm rfl (by omega) hbz ?_; intro A' cap' w1 hown1 hg1 hm1; obtain ⟨z2, zf⟩ := HFZ.out w1 hg1)
          have e9 : (ms' ++ [(⟨2, (t.length : Nat), 0, 0, 0, false⟩ : Mv)]).length = ms'.length + 1 := by simp
          have hst2 := HST.out.1.setC (C' := A') (cc' := cap') (ms' := ms' ++ [⟨2, (t.length : Nat), 0, 0, 0, false⟩]) hg1 (by rw [e9]; exact hown1) hm1
          rw [e9] at hst2
          have HST2 := Lib.hid hst2
          have HMV := Lib.hid hm1
          clear hown1 hg1 hm1 z2 zf hst2
          go_wp2
          go_roundw
          case rel => exact ⟨k + 1, t, _, some ⟨g, 0, none⟩, oc', A', cap', by omega, by go_num, HSN2.out, by omega, by rw [e9]; omega, by simpa only [e9] using HST2.out.1, (HTD.out.trans HST.out.2 (RecS.back HM1.out HM2.out)).trans HST2.out.2 (RecS.back HM1.out HM2.out), HM1.out, HM2.out.trans HMV.out (by have := HTD.out.size; have := HST.out.2.size; omega)⟩
          case measure => simp [intOf]; omega
        · have HSN2 : Hid (rdL (r, ms) (l.take (k + 1)) = (c :: x :: t, ms')) := Lib.hid (by rw [HSN.out]; unfold rdS; simp only; rw [if_neg hcc])
          rw [decide_eq_false hcc] at hE hE2
          clear hcc
          go_wp2
          go_quiet ((go_at_call 52; exact HI.out _))
          have HD := Lib.hid (HC.out.below ((Below.refl _ wr).drewN nq))
          have HTD := Lib.hid (HT.out.trans (Touch.of_below (fun _ => False) ((Below.refl wr.heap.size wr).drewN nq)) (fun _ _ h => h.elim))
          clear q2 hc hx HI
          generalize wr.drewN nq = wd at *
          have q2 : wd.cell? ⟨cb, 2, none⟩ = some (.slice (some ⟨g, 0, none⟩) (t.length + 1) oc') := HD.out.c2
          have HFZ : Hid (∀ w1, wd.grownBy w1 (blk (some ⟨g, 0, none⟩)) → w1.cell? ⟨cb, 2, none⟩ = some (.slice (some ⟨g, 0, none⟩) (t.length + 1) oc') ∧ w1.frozen? ⟨cb, 2, none⟩ = false) := Lib.hid (fun w1 hg => by
            have hb := hg.block cb HD.out.clt (fun e => HD.out.farO e.symm)
            exact ⟨(cell_same hb 2).trans HD.out.c2, (frozen_same hb 2).trans HD.out.f2⟩)
          have hBD := HD.out.hi
          go_wp2_with (at_builtin; refine append_one wd rfl (.tmp 57) (.tmp 59) rfl B _ (t.length + 1) oc' (x :: t).reverse c rfl (show wd.ownsRow _ _ _ _ _ _ from HD.out.word) _ rfl rfl (by omega) hBD ?_; intro A' cap' w1 hown1 hg1 hm1; obtain ⟨z2, zf⟩ := HFZ.out w1 hg1)
          have HST := Lib.hid (HD.out.setO (r' := c :: x :: t) hg1 (by simpa [bs] using hown1) hm1)
          have HMV := Lib.hid hm1
          clear hown1 hg1 hm1 z2 zf
          go_wp2
          go_roundw
          case rel => exact ⟨k + 1, c :: x :: t, ms', A', cap', C', cc', by omega, by go_num, HSN2.out, by simp only [List.length_cons]; omega, by omega, HST.out.1, HTD.out.trans HST.out.2 (RecS.back HM1.out HM2.out), HM1.out.trans HMV.out HTD.out.size, HM2.out⟩
          case measure => simp [intOf]; omega
    · obtain rfl : k = l.length := by omega
      have HR : Hid (rdL (r, ms) l = (r', ms')) := Lib.hid (by have := HS.out; rwa [List.take_length] at this)
      go_wp2
      go_end0
      rw [HR.out]
      exact ⟨rfl, O', oc', C', cc', HC.out, HT.out, HM1.out, HM2.out⟩
end Go.Proofs.Ytbcckfggnlmhoaa
