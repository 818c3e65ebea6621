/-
  Our own text, in the proof of the law RopeSlices of package rope (cayleylaw02). Proved here: the slicer keeps every whole node; it cuts a node, given that it cuts powers and joins. Conditions: the nodes lie in memory as the slice says.
-/
import Derived.Test.YtgklmcinbaghmaaGreatDoorFf
namespace Go.Proofs.YtgklmcinbaghmaaGreatDoor
open Go Go.RowKit

theorem CutP.from_ {base Q P Bm B : Nat} {A : Option Addr} {cap : Nat} {a : List Nd} {L : List Nat} {k x : Nat} {u : List UInt8} {w W : World} {o : List Nd} {Ao : Option Addr} {f : Int → Option Value} {e : Ending} {w' : World}
    (h : CutP base Q P Bm B A cap a L k x u W o Ao f e w') (hg : SGrow Q B (rowOf Ao) (rowOf Ao) w W) : CutP base Q P Bm B A cap a L k x u w o Ao f e w' := by
  obtain ⟨idx, o', A', c', n', f', h1, h2, h3, h4, h5, h6, h7, h8⟩ := h
  exact ⟨idx, o', A', c', n', f', h1, h2, h3, h4, h5, h6, h7, hg.trans h8⟩
theorem CutP.more {base Q P Bm B : Nat} {A : Option Addr} {cap : Nat} {a : List Nd} {L : List Nat} {k x y : Nat} {u : List UInt8} {w : World} {o : List Nd} {Ao : Option Addr} {f : Int → Option Value} {e : Ending} {w' : World}
    (h : CutP base Q P Bm B A cap a L k x u w o Ao f e w') (hxy : x ≤ y) : CutP base Q P Bm B A cap a L k y u w o Ao f e w' := by
  obtain ⟨idx, o', A', c', n', f', h1, h2, h3, h4, h5, h6, h7, h8⟩ := h
  exact ⟨idx, o', A', c', n', f', h1, h2, h3, by omega, h5, h6, h7, h8⟩
theorem CutP.up {base Q P Bm B : Nat} {A : Option Addr} {cap : Nat} {a : List Nd} {L : List Nat} {k m x : Nat} {u : List UInt8} {w : World} {o : List Nd} {Ao : Option Addr} {f : Int → Option Value} {e : Ending} {w' : World}
    (h : CutP base Q P Bm B A cap a L k x u w o Ao f e w') (hkm : k ≤ m) : CutP base Q P Bm B A cap a L m x u w o Ao f e w' := by
  obtain ⟨idx, o', A', c', n', f', h1, h2, h3, h4, h5, h6, h7, h8⟩ := h
  exact ⟨idx, o', A', c', n', f', h1, h2, h3, h4, h5, fun j hj => h6 j (by omega), h7, h8⟩

theorem keep_any {base Q P Bm B : Nat} {ad : Addr} {cap : Nat} {a : List Nd} {L : List Nat} (hl : Lie base Q P Bm B) (hlens : lens a = some L) : ∀ k, k < a.length → KeepIH base Q P Bm B ad cap a L k := by
  obtain ⟨hLl, hok, hlen⟩ := lens_ok hlens
  intro k
  induction k using Nat.strongRecOn with
  | ind k ih =>
    intro hk W o Ao co n f h hP
    have hll := fun i (hi : i < a.length) => dens_lens hlens i hi
    have hb := okL_le hok k
    have hlk := hll k hk
    rcases h.know k with hf | ⟨i, _, _, hf, hhas⟩
    · rcases node_is hlens k hk with ⟨hw, hlf, h1, h2, h3, hd⟩ | ⟨hw, b, c, hb1, hc1, h1, h2, h3, hd, _⟩ | ⟨hw, b, m, hb1, hm, h1, h2, h3, hd, _⟩
      · exact keep_leaf hl h hlen k hk hf hP hw hlf hd
      · refine keep_join hl h hlen k hk hf hP b c hb1 hc1 hw h1 h2 h3 hd ?_ (ih b hb1 (by omega)) (ih c hc1 (by omega))
        have := congrArg List.length hd
        rw [List.length_append] at this
        show (((dens a).getD b []).length : Int) + ((dens a).getD c []).length ≤ 1152921504606846976
        omega
      · have hlb := okL_get hok (i := b) (by omega)
        have hbl := hll b (by omega)
        refine keep_pow hl h hlen k hk hf hP b m hb1 hm hw h1 h3 hd (by unfold wordK; omega) ?_ (ih b hb1 (by omega))
        have := congrArg List.length hd
        rw [copies_len] at this
        have e : ((m * (wordK a b).length : Nat) : Int) ≤ 1152921504606846976 := by
          show ((m * ((dens a).getD b []).length : Nat) : Int) ≤ _
          omega
        rw [Int.natCast_mul] at e
        exact e
    · refine (value_hit W B _ _ n f h.st.keep k i (wf_nat (by omega)) hf).mono ?_
      rintro e w' ⟨he, rfl⟩
      refine ⟨i, o, Ao, co, n, f, he, h, ⟨[], by simp⟩, Nat.le_refl _, by simpa using hhas, fun _ _ => rfl, fun h0 => ?_, SGrow.refl _ _ _ _⟩
      subst h0
      exact absurd hhas.1 (Nat.not_lt_zero i)

/-- How many nodes a cut may make besides the kept ones. -/
def XC (L : List Nat) (k i j : Nat) : Nat := if i = 0 ∧ j = L.getD k 0 then 0 else if i = 0 ∨ j = L.getD k 0 then 2 * k + 1 else 4 * k + 1
theorem XC_le (L : List Nat) (k i j : Nat) : XC L k i j ≤ 4 * k + 1 := by
  unfold XC; split
  · omega
  · split <;> omega
theorem XC_pos (L : List Nat) (k i j : Nat) (h : ¬ (i = 0 ∧ j = L.getD k 0)) : 1 ≤ XC L k i j := by
  unfold XC; rw [if_neg h]; split <;> omega

/-- What is asked of a cut. -/
abbrev CutIH (base Q P Bm B : Nat) (ad : Addr) (cap : Nat) (a : List Nd) (L : List Nat) (k : Nat) : Prop :=
  ∀ W o Ao co n f (i j : Nat), KS W base Q P Bm B (some ad) cap a L o Ao co n f → i < j → j ≤ L.getD k 0 → Phi a o f + XC L k i j ≤ 4000 →
    Calls Tryz.prog 47 #[.pointer (some ⟨Q, 0, none⟩), .int .i64 (k : Int), .int .i64 (i : Int), .int .i64 (j : Int)] W (CutP base Q P Bm B (some ad) cap a L k (XC L k i j) (cutW (wordK a k) i j) W o Ao f)

theorem KS.on {w w' : World} {base Q P Bm B : Nat} {A : Option Addr} {cap : Nat} {a : List Nd} {L : List Nat} {o : List Nd} {Ao : Option Addr} {co n : Nat} {f : Int → Option Value}
    (h : KS w base Q P Bm B A cap a L o Ao co n f) (hb : Below w.heap.size w w') : KS w' base Q P Bm B A cap a L o Ao co n f := ⟨h.st.on hb, h.val, h.know, h.cnt⟩

set_option maxHeartbeats 2000000 in
set_option maxRecDepth 100000 in
/-- The whole of a node. -/
theorem cut_whole {w : World} {base Q P Bm B : Nat} {ad : Addr} {cap : Nat} {a : List Nd} {L : List Nat} {o : List Nd} {Ao : Option Addr} {co n : Nat} {f : Int → Option Value}
    (hl : Lie base Q P Bm B) (hlens : lens a = some L) (h : KS w base Q P Bm B (some ad) cap a L o Ao co n f) (k : Nat) (hk : k < a.length) (hP : Phi a o f ≤ 4000) :
    Calls Tryz.prog 47 #[.pointer (some ⟨Q, 0, none⟩), .int .i64 (k : Int), .int .i64 0, .int .i64 ((L.getD k 0 : Nat) : Int)] w (CutP base Q P Bm B (some ad) cap a L k 0 (wordK a k) w o Ao f) := by
  obtain ⟨hLl, hok, hlen⟩ := lens_ok hlens
  obtain ⟨ad', e, hx, hxs⟩ := h.st.rope k hk
  cases e
  have q0 : w.cell? ⟨Q, 0, none⟩ = some (.slice (some ad) a.length cap) := h.st.q.cell 0
  generalize a[k] = x at *
  obtain ⟨s, l, q, t⟩ := x
  obtain ⟨f0, f1, f2, f3⟩ := hx
  simp only at f0 f1 f2 f3 hxs
  have hB0 : Below w.heap.size w (w.alloc (.cells #[.string s, .int .i64 l, .int .i64 q, .int .i64 t] 68)) := (Below.refl _ _).alloc (Nat.le_refl _) _
  have h1 := h.on hB0
  have q1 : (w.alloc (.cells #[.string s, .int .i64 l, .int .i64 q, .int .i64 t] 68)).cell? ⟨Q, 1, none⟩ = some (envV 76 Bm) := h1.st.q.cell 1
  have q2 : (w.alloc (.cells #[.string s, .int .i64 l, .int .i64 q, .int .i64 t] 68)).cell? ⟨Q, 2, none⟩ = some (envV 76 B) := h1.st.q.cell 2
  have HV := Lib.hid (value_at _ Bm _ L (by omega) h1.st.len (k : Int) (by omega))
  rw [Int.toNat_natCast] at HV
  have HK := Lib.hid (keep_any hl hlens k hk _ o Ao co n f h1 hP)
  have HG := Lib.hid (SGrow.of_below (Q := Q) (B := B) (R := rowOf Ao) hB0)
  have hql := h.st.q.lt
  clear h h1 hB0 hl hlens hok
  generalize L.getD k 0 = v at *
  go_enter Tryz.func47, Tryz.ntmps47
  go_wp2_with fail
  refine HV.out.mono ?_; rintro e w1 ⟨rfl, rfl⟩
  go_wp2_with fail
  refine HK.out.mono ?_; rintro e w2 hc
  obtain ⟨idx, he⟩ : ∃ idx : Nat, e = .returned (.int .i64 (idx : Int)) := by obtain ⟨idx, _, _, _, _, _, he, _⟩ := hc; exact ⟨idx, he⟩
  subst he
  have HC := Lib.hid (hc.from_ HG.out)
  clear hc
  go_wp2
  go_ret
  exact HC.out
end Go.Proofs.YtgklmcinbaghmaaGreatDoor
