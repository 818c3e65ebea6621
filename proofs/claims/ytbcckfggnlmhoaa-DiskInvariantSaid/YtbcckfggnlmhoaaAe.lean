/-
  Our own text, in the proofs of the laws of package disk (cayleylaw04). Proved here: appendReduced of bytes (the program's), reduced (the reference's). Conditions: none but bounds.
-/
import Derived.Test.YtbcckfggnlmhoaaAd
namespace Go.Proofs.Ytbcckfggnlmhoaa
open Go Go.RowKit

theorem own_take {w : World} {B e sz n cap m : Nat} {A : Option Addr} {xs : List Value} (hm : m ≤ n) (h : w.ownsRow B e sz (.slice A n cap) n xs) :
    w.ownsRow B e sz (.slice A m cap) m (xs.take (m * sz)) := by
  obtain ⟨h1, h2⟩ := h
  refine ⟨by rw [List.length_take, h1]; exact Nat.min_eq_left (Nat.mul_le_mul_right _ hm), ?_⟩
  rcases h2 with ⟨h2, h3⟩ | ⟨g', c', cur, hv, hg, hh, hnc, hcm, hcs, ht⟩
  · simp only [Value.slice.injEq] at h2
    obtain ⟨rfl, rfl, rfl⟩ := h2
    obtain rfl : m = 0 := by omega
    exact .inl ⟨rfl, rfl⟩
  · simp only [Value.slice.injEq, true_and] at hv
    obtain ⟨rfl, rfl⟩ := hv
    refine .inr ⟨g', cap, cur, rfl, hg, hh, by omega, hcm, hcs, ?_⟩
    rw [← ht, List.take_take]
    congr 1
    exact (Nat.min_eq_left (Nat.mul_le_mul_right _ hm)).symm

theorem own_cap {w : World} {B e sz n cap : Nat} {A : Option Addr} {xs : List Value} (h : w.ownsRow B e sz (.slice A n cap) n xs) : n ≤ cap := by
  rcases h.2 with ⟨h2, h3⟩ | ⟨g', c', cur, hv, hg, hh, hnc, _⟩
  · omega
  · simp only [Value.slice.injEq, true_and] at hv; omega
theorem grun_take_succ {α : Type} [DecidableEq α] (f : α → α) (r l : List α) (k : Nat) (h : k < l.length) : grun f r (l.take (k + 1)) = gstp f (grun f r (l.take k)) l[k] := by
  rw [List.take_succ_eq_append_getElem h, grun_snoc]

theorem eq_nat_bool' (x y : UInt8) : ((x.toNat == y.toNat) : Bool) = decide (x = y) := by
  rw [Bool.eq_iff_iff]; simp only [beq_iff_eq, decide_eq_true_eq]
  exact UInt8.toNat_inj
theorem eq_nat_bool (x y : UInt8) : (((x.toNat : Int) == (y.toNat : Int)) : Bool) = decide (x = y) := by
  rw [Bool.eq_iff_iff]; simp only [beq_iff_eq, decide_eq_true_eq]
  constructor
  · intro h; exact UInt8.toNat_inj.1 (by exact_mod_cast h)
  · rintro rfl; rfl

/-- How appendReduced ends. -/
def AppP (w : World) (B : Nat) (A : Option Addr) (l : List UInt8) (e : Ending) (w' : World) : Prop :=
  ∃ A' cap', e = .returned (.slice A' l.length cap') ∧ w'.ownsRow B 5 1 (.slice A' l.length cap') l.length (bs l.reverse) ∧ w.grownBy w' (blk A) ∧ Moved w A A'

set_option maxHeartbeats 2000000 in
set_option maxRecDepth 100000 in
theorem appRed_any (B : Nat) (O : Option Addr) (oc : Nat) (r l : List UInt8) (A : Option Addr) (cap : Nat) (w : World) (hown : w.ownsRow B 5 1 (.slice O r.length oc) r.length (bs r.reverse))
    (hl : RowAt w A l) (hap : ∀ a, A = some a → blk O ≠ some a.block) (hlt : ∀ a, A = some a → a.block < w.heap.size) (hn : r.length + l.length ≤ 1000000000) (hB : B ≤ w.heap.size) :
    Calls Try.prog 50 #[.slice O r.length oc, .slice A l.length cap, .func (.func 52) #[] #[]] w (AppP w B O (run r l)) := by
  have HLT := Lib.hid hlt
  have HAP := Lib.hid hap
  have HL := Lib.hid hl
  have HO := Lib.hid hown
  clear hlt hap hl hown
  go_enter Try.func50, Try.ntmps50
  go_wp2
  go_loopw [0, 8, 9, 12] (fun out _ _ i wr => ∃ (k : Nat) (s : List UInt8) (O' : Option Addr) (n oc' : Nat), k ≤ l.length ∧ i = .int .i64 (k : Int) ∧ s = run r (l.take k) ∧ n = s.length ∧ n ≤ r.length + k ∧ out = .slice O' n oc' ∧ wr.ownsRow B 5 1 (.slice O' n oc') n (bs s.reverse) ∧ w.grownBy wr (blk O) ∧ Moved w O O')
    (fun _ _ _ i _ => l.length - (intOf i).toNat)
  case atStart => exact ⟨0, r, O, r.length, oc, Nat.zero_le _, rfl, rfl, rfl, by omega, rfl, HO.out, grown_refl _ _, Moved.refl _ _⟩
  case round =>
    obtain ⟨k, s, O', n, oc', hk, rfl, hs, hns, hnk, rfl, hown, hg, hmv⟩ := hrel
    have HS := Lib.hid hs
    have HG := Lib.hid hg
    have HMV := Lib.hid hmv
    have HOW := Lib.hid hown
    clear hs hg hmv hown
    by_cases hlt : k < l.length
    · have HSN : Hid (gstp invc s l[k] = run r (l.take (k + 1))) := Lib.hid (by rw [HS.out]; exact (grun_take_succ invc r l k hlt).symm)
      have hc2 := (HL.out.grown HG.out HAP.out) k hlt
      obtain ⟨b, o, hA, hc⟩ := hc2
      subst hA
      have HBW := Lib.hid HG.out.size
      cases s with
      | nil =>
        obtain rfl : n = 0 := by simpa using hns
        clear hns
        have hd : decide ((0 : Int) ≤ 0 - 1) = false := by decide
        have hd2 : decide ((0 : Int) ≤ -1) = false := by decide
        go_wp2
        go_quiet (fail)
        go_wp2_with (at_builtin; refine append_one (wr.drewN nq) rfl (.tmp 34) (.tmp 36) rfl B O' 0 oc' [] l[k] rfl (show (wr.drewN nq).ownsRow _ _ _ _ _ _ from HOW.out) _ rfl rfl (by omega) (Nat.le_trans hB HBW.out) ?_; intro A' cap' w1 hown1 hg1 hm1)
        have H1 := Lib.hid hown1
        have G1 := Lib.hid hg1
        have M1 := Lib.hid hm1
        clear hown1 hg1 hm1
        go_wp2
        go_roundw
        case rel => exact ⟨k + 1, [l[k]], A', 1, cap', by omega, by go_num, HSN.out, rfl, by omega, rfl, H1.out, grown_trans (grown_drewN HG.out nq) G1.out HMV.out, HMV.out.trans M1.out HBW.out⟩
        case measure => simp [intOf]; omega
      | cons x t =>
        obtain rfl : n = t.length + 1 := by simpa using hns
        clear hns
        obtain ⟨g, o2, hO, hx⟩ := rowAt_own HOW.out t.length (by simp)
        obtain rfl : o2 = 0 := by
          rcases own_shape HOW.out with ⟨h, _⟩ | ⟨g', h, _⟩
          · rw [hO] at h; cases h
          · rw [hO] at h; cases h; rfl
        subst hO
        have he : (x :: t).reverse[t.length]'(by simp) = x := by simp
        rw [he, Nat.zero_add] at hx
        clear he
        have hd : decide ((0 : Int) ≤ (t.length : Int)) = true := by simp
        have hcp := own_cap HOW.out
        have hE := eq_nat_bool x (invc l[k])
        have hE2 := eq_nat_bool' x (invc l[k])
        have HI : Hid (∀ m, Calls Try.prog 52 #[.int .u8 l[k].toNat] (wr.drewN m) fun e w'' => e = .returned (.int .u8 (invc l[k]).toNat) ∧ ∃ j, w'' = wr.drewN j) := Lib.hid fun m => Calls.quiet_of_same ((inverseLetter_any l[k] (wr.drewN m)).mono fun _ _ h => ⟨h.1, h.2.symm⟩)
        by_cases hcc : x = invc l[k]
        · have HSN2 : Hid (t = run r (l.take (k + 1))) := Lib.hid (by rw [← HSN.out, gstp_cons, if_pos hcc])
          have HT := Lib.hid (own_take (m := t.length) (by omega) HOW.out)
          rw [decide_eq_true hcc] at hE hE2
          clear hcc
          go_wp2
          go_quiet ((go_at_call 52; exact HI.out _))
          go_wp2
          go_roundw
          case rel => exact ⟨k + 1, t, _, t.length, oc', by omega, by go_num, HSN2.out, rfl, by omega, rfl, by show wr.ownsRow _ _ _ _ _ _; have := HT.out; simpa [bs] using this, grown_drewN HG.out nq, HMV.out⟩
          case measure => simp [intOf]; omega
        · have HSN2 : Hid (l[k] :: x :: t = run r (l.take (k + 1))) := Lib.hid (by rw [← HSN.out, gstp_cons, if_neg hcc])
          rw [decide_eq_false hcc] at hE hE2
          clear hcc
          go_wp2
          go_quiet ((go_at_call 52; exact HI.out _))
          go_wp2_with (at_builtin; refine append_one (wr.drewN nq) rfl (.tmp 34) (.tmp 36) rfl B _ (t.length + 1) oc' (x :: t).reverse l[k] rfl (show (wr.drewN nq).ownsRow _ _ _ _ _ _ from HOW.out) _ rfl rfl (by omega) (Nat.le_trans hB HBW.out) ?_; intro A' cap' w1 hown1 hg1 hm1)
          have H1 := Lib.hid hown1
          have G1 := Lib.hid hg1
          have M1 := Lib.hid hm1
          clear hown1 hg1 hm1
          go_wp2
          go_roundw
          case rel => exact ⟨k + 1, l[k] :: x :: t, A', t.length + 1 + 1, cap', by omega, by go_num, HSN2.out, rfl, by omega, rfl, by have := H1.out; simpa [bs] using this, grown_trans (grown_drewN HG.out nq) G1.out HMV.out, HMV.out.trans M1.out HBW.out⟩
          case measure => simp [intOf]; omega
    · have hk' : k = l.length := by omega
      subst hk'
      have HR : Hid (s = run r l) := Lib.hid (by rw [HS.out, List.take_length])
      go_wp2
      go_ret
      rw [← HR.out]
      subst hns
      exact ⟨O', oc', rfl, HOW.out, HG.out, HMV.out⟩
end Go.Proofs.Ytbcckfggnlmhoaa
