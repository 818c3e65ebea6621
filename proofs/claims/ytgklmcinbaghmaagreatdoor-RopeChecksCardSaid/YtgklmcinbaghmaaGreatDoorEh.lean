/-
  Our own text, in the proof of the law RopeChecks of package rope (cayleylaw02). Proved here: the evaluator's closure at arrays of sums, at every node; Sums returns the exponent sums of the word, or ErrRope. Conditions: the nodes lie in memory as the slice says; the listed table lies as the program lays it.
-/
import Derived.Test.YtgklmcinbaghmaaGreatDoorEg
namespace Go.Proofs.YtgklmcinbaghmaaGreatDoor
open Go Go.RowKit

theorem val_any (r : List Nd) (L : List Nat) (hl : lens r = some L) (B : Nat) (a : Addr) (cap : Nat) (hab : a.block < B) (hB0 : 0 < B) :
    ∀ k, k < r.length → ∀ W n f, EnvS W B (.slice (some a) r.length cap) sumM n f → KnowS r f → n ≤ cntF r.length f → Tabs W → RopeAt W (some a) r → Calls Tryz.prog 59 (argsS k B) W (ValP r B (.slice (some a) r.length cap) W k f) := by
  obtain ⟨_, hok, hlen⟩ := lens_ok hl
  intro k
  induction k using Nat.strongRecOn with
  | ind k ih =>
    intro hk W n f h hkn hn ht hr
    have hcl := cntF_le r.length f
    rcases hkn k with hf | ⟨_, _, hf⟩
    · rcases node_is hl k hk with ⟨hw, hlf, h1, h2, h3, hd⟩ | ⟨hw, b, c, hb, hc, h1, h2, h3, hd, _⟩ | ⟨hw, b, m, hb, hm, h1, h2, h3, hd, hmul⟩
      · obtain ⟨a', e, hx, _⟩ := hr k hk
        cases e
        refine (val_leaf (nodeS r k) (nodeS_len r k) B a r.length cap n f W ht h k hk hlen (by omega) hf r[k] hx (by unfold Addr.add; split <;> exact hab) hw hlf (by unfold nodeS; rw [hd])).mono ?_
        rintro e w' ⟨he, h1, h2⟩
        refine ⟨he, n + 1, _, h1, hkn.put k hk, ?_, ?_, h2⟩
        · rw [cntF_put _ hf hk]; omega
        · intro i hi
          unfold putF
          rw [if_neg (by omega)]
      · exact val_join r B a cap n f W ht h hkn hn hr hab hB0 hlen k hk hf b c hb hc hw h1 h2 h3 (by unfold nodeS; rw [hd, sumW_append]) (nodeS_bound hl b (by omega)) (nodeS_bound hl c (by omega)) (nodeS_bound hl k hk) (ih b hb (by omega)) (ih c hc (by omega))
      · have hlb := okL_get hok (i := b) (by have := (lens_ok hl).1; omega)
        have hlk := okL_le hok k
        have hm2 : (m : Int) ≤ 1152921504606846976 := by
          rw [hmul] at hlk
          have : m ≤ m * L.getD b 0 := Nat.le_mul_of_pos_right m hlb.1
          omega
        exact val_pow r B a cap n f W ht h hkn hn hr hab hB0 hlen k hk hf b m hb hw h1 h3 hm hm2 (by unfold nodeS; rw [hd, sumW_copies]) (nodeS_bound hl b (by omega)) (nodeS_bound hl k hk) (ih b hb (by omega))
    · refine (val_hit (nodeS r k) (nodeS_len r k) B _ _ k n f W h (wf_nat (by omega)) (by simpa using hf)).mono ?_
      rintro e w' ⟨he, hb⟩
      exact ⟨he, n, f, h.on hb, hkn, hn, fun _ _ => rfl, gb_below hb _⟩

set_option maxHeartbeats 1000000 in
theorem evaluatorS_any (ad : Option Addr) (n cap : Nat) (f0 f1 f2 : Value) (w : World) (hn : n ≤ 4000) :
    Calls Tryz.prog 30 #[.slice ad n cap, .agg #[f0, f1, f2]] w fun e w' => e = .returned (envV 59 w.heap.size) ∧ EnvS w' w.heap.size (.slice ad n cap) #[f0, f1, f2] 0 (fun _ => none) ∧ Below w.heap.size w w' := by
  have h1 := hmf
  have h2 := fun (w : World) (n : Int) => run_makeMap_hint w 96 3 55 Tryz.underlying96 n
  go_enter Tryz.func30, Tryz.ntmps30
  go_wp2
  go_ret
  exact ⟨rfl, env_made 59 63 96 56 w _ _ _ rfl⟩

/-- How Sums ends: the sums in a block of their own. -/
def SumsP (w : World) (r : List Nd) (e : Ending) (w' : World) : Prop :=
  (∀ L, lens r = some L → ∃ g, e = .returned (.tuple #[.slice (some ⟨g, 0, none⟩) 8 8, .int .i64 0]) ∧ Blk w' g 55 (cellsS (sumW (wordOf r))) ∧ Below w.heap.size w w') ∧
  (lens r = none → e = .returned (.tuple #[.slice none 0 0, .int .i64 20]) ∧ Below w.heap.size w w')

set_option maxHeartbeats 2000000 in
theorem Sums_any (A : Option Addr) (r : List Nd) (cap : Nat) (w : World) (ht : Tabs w) (hr : RopeAt w A r) (hm : r.length ≤ maxLen) :
    Calls Tryz.prog 10 #[.slice A r.length cap] w (SumsP w r) := by
  have hC := Check_any A r cap w ht hr hm
  have HR := Lib.hid hr
  have HT := Lib.hid ht
  unfold maxLen at hm
  clear ht hr
  cases hl : lens r with
  | none =>
    rw [errI_none hl] at hC
    have HL := Lib.hid hl
    clear hl
    go_enter Tryz.func10, Tryz.ntmps10
    go_wp2_with fail
    refine hC.mono ?_; rintro e w1 ⟨rfl, hb⟩
    go_wp2
    go_ret2
    exact ⟨fun L h => (by rw [HL.out] at h; cases h), fun _ => ⟨rfl, hb⟩⟩
  | some L =>
    rw [errI_some hl] at hC
    obtain ⟨k1, k2, k3⟩ := lens_ok hl
    have HL := Lib.hid hl
    clear hl k1 k2
    go_enter Tryz.func10, Tryz.ntmps10
    go_wp2_with fail
    refine hC.mono ?_; rintro e w1 ⟨rfl, hb⟩
    have HB := Lib.hid hb
    clear hC hb
    go_wp2_with fail
    refine (evaluatorS_any A r.length cap _ _ _ w1 k3).mono ?_
    rintro e w2 ⟨rfl, henv, hb2⟩
    have hv : Calls Tryz.prog 59 (argsS ((r.length : Int) - 1) w1.heap.size) w2 fun e w' => e = .returned (aggS (sumW (wordOf r))) ∧ Below w1.heap.size w2 w' := by
      rcases Nat.eq_zero_or_pos r.length with h0 | h0
      · obtain rfl : r = [] := List.length_eq_zero_iff.1 h0
        refine (val_neg w1.heap.size _ _ _ 0 _ w2 henv (WalkArith.wf_i64 (by simp)) rfl (by simp)).mono ?_
        rintro e w' ⟨he, hb3⟩
        exact ⟨he, hb3.mono hb2.size⟩
      · obtain ⟨a, rfl, hx, _⟩ := HR.out (r.length - 1) (by omega)
        have hcast : ((r.length - 1 : Nat) : Int) = (r.length : Int) - 1 := by omega
        have hab : a.block < w1.heap.size := by
          have h1 := lt_of_cell hx.1
          have h2 : (a.add ((r.length - 1) * 4)).block = a.block := by unfold Addr.add; split <;> rfl
          have := HB.out.size
          omega
        have := val_any r L HL.out w1.heap.size a cap hab (HT.out.on HB.out).one (r.length - 1) (by omega) w2 0 _ henv (KnowS.nil r) (Nat.zero_le _) ((HT.out.on HB.out).on hb2) ((HR.out.on HB.out).on hb2)
        rw [hcast] at this
        refine this.mono ?_
        rintro e w' ⟨he, _, _, _, _, _, _, hg⟩
        exact ⟨he, below_gb hg hb2.size⟩
    have HB2 := Lib.hid hb2
    obtain ⟨S, hS⟩ : ∃ S, S = sumW (wordOf r) := ⟨_, rfl⟩
    rw [← hS] at hv
    have HSL := Lib.hid (show S.length = 8 by rw [hS]; exact sumW_len _)
    have HS := Lib.hid hS
    clear henv hb2 hS
    go_wp2_with fail
    refine hv.mono ?_; rintro e w3 ⟨rfl, hb3⟩
    have b0 := Blk.new w3 55 (cellsS zs)
    have hb4 : Below w.heap.size w (w3.alloc (.cells zCells 55)) := (HB.out.trans ((HB2.out.trans hb3).mono HB.out.size)).alloc (by have := HB.out.size; have := (HB2.out.trans hb3).size; omega) _
    have b1 : Blk (w3.alloc (.cells zCells 55)) w3.heap.size 55 (cellsS zs) := b0
    clear b0
    go_wp2_with (((with_reducible refine store_blk rfl (.tmp 5) (.tmp 17) rfl w3.heap.size S rfl rfl zs b1 rfl HSL.out ?_); intro w5 b5 g5))
    go_ret2
    refine ⟨fun L' _ => ⟨w3.heap.size, rfl, by rw [← HS.out]; exact b5, ?_⟩, fun h => by rw [HL.out] at h; cases h⟩
    exact hb4.grown g5 hb4.size (fun g e => by cases e; have := HB.out.size; have := (HB2.out.trans hb3).size; omega)
end Go.Proofs.YtgklmcinbaghmaaGreatDoor
