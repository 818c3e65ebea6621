/-
  Our own text, in the proofs of the laws of package rope. Proved here: Inverse and Power return the ropes that they should. Conditions: the nodes lie in memory as the slice says; the listed table lies as the program lays it.
-/
import Derived.Test.YtgklmcinbaghmaaGreatDoorRv
namespace Go.Proofs.YtgklmcinbaghmaaGreatDoor
open Go Go.RowKit

/-- A call returns a rope of its own, and an error. -/
def RopeP (w : World) (R : List Nd) (err : Int) (e : Ending) (w' : World) : Prop :=
  ∃ A' cap', e = .returned (.tuple #[.slice A' R.length cap', .int .i64 err]) ∧ w'.ownsRow w.heap.size 68 4 (.slice A' R.length cap') R.length (nodesC R) ∧ Below w.heap.size w w'
theorem RopeP.nil {w w' : World} {err : Int} (hb : Below w.heap.size w w') : RopeP w [] err (.returned (.tuple #[.slice none 0 0, .int .i64 err])) w' :=
  ⟨none, 0, rfl, World.ownsRow_nil _ _ _ _, hb⟩

def invRope (r : List Nd) : List Nd := match lens r with | some _ => r.map invN | none => []

set_option maxHeartbeats 1000000 in
theorem Inverse_any (A : Option Addr) (r : List Nd) (cap : Nat) (w : World) (ht : Tabs w) (hr : RopeAt w A r) (hA : A = none → r = []) (hm : r.length ≤ maxLen) :
    Calls Tryz.prog 25 #[.slice A r.length cap] w (RopeP w (invRope r) (errI r)) := by
  have hC := Check_any A r cap w ht hr hm
  have HT := Lib.hid ht
  have HR := Lib.hid hr
  have HA := Lib.hid hA
  clear ht hr hm hA
  cases hl : lens r with
  | none =>
    rw [errI_none hl] at hC ⊢
    have hi : invRope r = [] := by simp [invRope, hl]
    rw [hi]
    clear hl hi
    go_enter Tryz.func25, Tryz.ntmps25
    go_wp2_with fail
    refine hC.mono ?_; rintro e w1 ⟨rfl, hb⟩
    go_wp2
    go_ret2
    exact RopeP.nil hb
  | some L =>
    rw [errI_some hl] at hC ⊢
    have hi : invRope r = r.map invN := by simp [invRope, hl]
    rw [hi]
    have HL := Lib.hid hl
    clear hl hi
    go_enter Tryz.func25, Tryz.ntmps25
    go_wp2_with fail
    refine hC.mono ?_; rintro e w1 ⟨rfl, hb⟩
    have hI := inverseR_any A r cap L HL.out w1 (HT.out.on hb) (HR.out.on hb) HA.out
    have HB := Lib.hid hb
    clear hb hC
    go_wp2_with fail
    refine hI.mono ?_
    rintro e w2 ⟨A', cap', rfl, hown, hb2⟩
    have HO := Lib.hid hown
    have HB2 := Lib.hid hb2
    clear hown hb2 hI
    go_wp2
    go_ret2
    refine ⟨A', cap', by simp, ?_, HB.out.trans (HB2.out.mono HB.out.size)⟩
    rw [List.length_map]
    refine ⟨HO.out.1, ?_⟩
    rcases HO.out.2 with h1 | ⟨g, cp, cur, hv, hg, rest⟩
    · exact .inl h1
    · exact .inr ⟨g, cp, cur, hv, Nat.le_trans HB.out.size hg, rest⟩

/-- Whether a power is too long. -/
def powBig (L : List Nat) (n : Int) : Bool := decide (1152921504606846976 / (lastN L : Int) < n) || decide (n < -(1152921504606846976 / (lastN L : Int)))
def powRope (r : List Nd) (n : Int) : List Nd :=
  match lens r with
  | none => []
  | some L => if 4000 < r.length + 1 ∨ r.length = 0 ∨ n = 0 ∨ powBig L n = true then [] else
    (if n < 0 then r.map invN else r) ++ [⟨⟨#[]⟩, (r.length : Int) - 1, 0, if n < 0 then -n else n⟩]
def powErr (r : List Nd) (n : Int) : Int :=
  match lens r with
  | none => 20
  | some L => if 4000 < r.length + 1 then 2 else if r.length = 0 ∨ n = 0 then 0 else if powBig L n = true then 2 else 0

theorem own_lower {w : World} {B B' e size n : Nat} {v : Value} {xs : List Value} (h : w.ownsRow B e size v n xs) (hB : B' ≤ B) : w.ownsRow B' e size v n xs := by
  refine ⟨h.1, ?_⟩
  rcases h.2 with h1 | ⟨g, cp, cur, hv, hg, rest⟩
  · exact .inl h1
  · exact .inr ⟨g, cp, cur, hv, Nat.le_trans hB hg, rest⟩

theorem news_node (w : World) (x : Nd) : ∀ (j : Nat) u, (nodesC [x])[j]? = some u → (w.alloc (.cells #[.string x.word, .int .i64 x.l, .int .i64 x.r, .int .i64 x.t] 68)).cell? ((⟨w.heap.size, 0, none⟩ : Addr).add j) = some u := by
  intro j u hu
  have hb : (w.alloc (.cells #[.string x.word, .int .i64 x.l, .int .i64 x.r, .int .i64 x.t] 68)).heap[w.heap.size]? = some (.cells #[.string x.word, .int .i64 x.l, .int .i64 x.r, .int .i64 x.t] 68 (0, 0)) := heap_alloc_new w _
  rw [add_head, cell_of_row _ w.heap.size j _ 68 (0, 0) hb, ← hu]
  simp [nodesC, ncells]

set_option maxHeartbeats 4000000 in
set_option maxRecDepth 100000 in
theorem Power_any (A : Option Addr) (r : List Nd) (cap : Nat) (n : Int) (w : World) (ht : Tabs w) (hr : RopeAt w A r) (hA : A = none → r = []) (hm : r.length ≤ maxLen) :
    Calls Tryz.prog 24 #[.slice A r.length cap, .int .i64 n] w (RopeP w (powRope r n) (powErr r n)) := by
  have hM := measure_any A r cap w ht hr hm
  have HT := Lib.hid ht
  have HR := Lib.hid hr
  have HA := Lib.hid hA
  unfold maxLen at hm
  clear ht hr hA
  cases hl : lens r with
  | none =>
    have hp : powRope r n = [] ∧ powErr r n = 20 := by simp [powRope, powErr, hl]
    rw [hp.1, hp.2]
    have HL := Lib.hid hl
    clear hl hp
    go_enter Tryz.func24, Tryz.ntmps24
    go_wp2_with fail
    refine hM.mono ?_
    rintro e w1 ⟨_, hno⟩
    obtain ⟨rfl, hb⟩ := hno HL.out
    go_wp2
    go_ret2
    exact RopeP.nil hb
  | some L =>
    obtain ⟨k1, k2, k3⟩ := lens_ok hl
    have HL := Lib.hid hl
    have HK := Lib.hid k1
    have HOK := Lib.hid k2
    by_cases hbig : 4000 < r.length + 1
    · have hd : decide (4000 < (r.length : Int) + 1) = true := by simp; omega
      have hp : powRope r n = [] ∧ powErr r n = 2 := by simp [powRope, powErr, hl, hbig]
      rw [hp.1, hp.2]
      clear hl hp k1 k2
      go_enter Tryz.func24, Tryz.ntmps24
      go_wp2_with fail
      refine hM.mono ?_
      rintro e w1 ⟨hyes, _⟩
      obtain ⟨B, hB, rfl, henv, hb⟩ := hyes L HL.out
      clear hyes henv
      go_wp2
      go_ret2
      exact RopeP.nil hb
    have hd0 : decide (4000 < (r.length : Int) + 1) = false := by simp; omega
    by_cases h0 : r.length = 0
    · have hd : ((r.length : Int) == 0) = true := by rw [h0]; rfl
      have hp : powRope r n = [] ∧ powErr r n = 0 := by simp [powRope, powErr, hl, h0]
      rw [hp.1, hp.2]
      have H0 := Lib.hid h0
      clear hl hp k1 k2 h0
      go_enter Tryz.func24, Tryz.ntmps24
      go_wp2_with fail
      refine hM.mono ?_
      rintro e w1 ⟨hyes, _⟩
      obtain ⟨B, hB, rfl, henv, hb⟩ := hyes L HL.out
      clear hyes henv
      go_wp2
      go_ret2
      exact RopeP.nil hb
    have hd1 : ((r.length : Int) == 0) = false := by rw [beq_eq_false_iff_ne]; omega
    by_cases hn0 : n = 0
    · subst hn0
      have hp : powRope r 0 = [] ∧ powErr r 0 = 0 := by simp [powRope, powErr, hl, hbig]
      rw [hp.1, hp.2]
      clear hl hp k1 k2
      go_enter Tryz.func24, Tryz.ntmps24
      go_wp2_with fail
      refine hM.mono ?_
      rintro e w1 ⟨hyes, _⟩
      obtain ⟨B, hB, rfl, henv, hb⟩ := hyes L HL.out
      clear hyes henv
      go_wp2
      go_ret2
      exact RopeP.nil hb
    have hd2 : (n == 0) = false := by simpa using hn0
    have hlast := okL_get k2 (i := L.length - 1) (by omega)
    have hLN : L.getD (L.length - 1) 0 = lastN L := rfl
    rw [hLN] at hlast
    have hq1 : 0 ≤ 1152921504606846976 / (lastN L : Int) := Int.ediv_nonneg (by omega) (by omega)
    have hq2 : 1152921504606846976 / (lastN L : Int) ≤ 1152921504606846976 := Int.ediv_le_self _ (by omega)
    obtain ⟨v, hv⟩ : ∃ v : Nat, lastN L = v := ⟨_, rfl⟩
    obtain ⟨q, hq⟩ : ∃ q : Int, 1152921504606846976 / (v : Int) = q := ⟨_, rfl⟩
    have hpb : powBig L n = (decide (q < n) || decide (n < -q)) := by unfold powBig; rw [hv, hq]
    rw [hv] at hlast hq1 hq2
    rw [hq] at hq1 hq2
    have HV := Lib.hid hv
    have HQ := Lib.hid hq
    clear hLN hv hq
    by_cases hb1 : q < n
    · have hd3 : decide (q < n) = true := by simpa using hb1
      have hp : powRope r n = [] ∧ powErr r n = 2 := by
        have : powBig L n = true := by rw [hpb, hd3]; rfl
        simp [powRope, powErr, hl, hbig, h0, hn0, this]
      rw [hp.1, hp.2]
      clear hl hp k1 k2 hpb h0 hn0
      go_enter Tryz.func24, Tryz.ntmps24
      go_wp2_with fail
      refine hM.mono ?_
      rintro e w1 ⟨hyes, _⟩
      obtain ⟨B, hB, rfl, henv, hb⟩ := hyes L HL.out
      have hvl := value_last w1 B _ L (by rw [HK.out]; exact k3) henv ((r.length : Int) - 1) (by rw [HK.out])
      rw [HV.out] at hvl
      have HVL := Lib.hid hvl
      clear hyes henv hvl hM
      go_wp2_with fail
      refine HVL.out.mono ?_; rintro e w' ⟨rfl, rfl⟩
      have hq := HQ.out
      go_wp2
      go_ret2
      exact RopeP.nil hb
    · have hd3 : decide (q < n) = false := by simpa using hb1
      by_cases hb2 : n < -q
      · have hd4 : decide (n < -q) = true := by simpa using hb2
        have hp : powRope r n = [] ∧ powErr r n = 2 := by
          have : powBig L n = true := by rw [hpb, hd4]; simp
          simp [powRope, powErr, hl, hbig, h0, hn0, this]
        rw [hp.1, hp.2]
        clear hl hp k1 k2 hpb h0 hn0
        go_enter Tryz.func24, Tryz.ntmps24
        go_wp2_with fail
        refine hM.mono ?_
        rintro e w1 ⟨hyes, _⟩
        obtain ⟨B, hB, rfl, henv, hb⟩ := hyes L HL.out
        have hvl := value_last w1 B _ L (by rw [HK.out]; exact k3) henv ((r.length : Int) - 1) (by rw [HK.out])
        rw [HV.out] at hvl
        have HVL := Lib.hid hvl
        clear hyes henv hvl hM
        go_wp2_with fail
        refine HVL.out.mono ?_; rintro e w' ⟨rfl, rfl⟩
        have hq := HQ.out
        go_wp2
        go_ret2
        exact RopeP.nil hb
      · have hd4 : decide (n < -q) = false := by simpa using hb2
        have hpf : powBig L n = false := by rw [hpb, hd3, hd4]; rfl
        have hp : powRope r n = (if n < 0 then r.map invN else r) ++ [⟨⟨#[]⟩, (r.length : Int) - 1, 0, if n < 0 then -n else n⟩] ∧ powErr r n = 0 := by
          have hc : ¬ (4000 < r.length + 1 ∨ r.length = 0 ∨ n = 0 ∨ powBig L n = true) := by rw [hpf]; simp; exact ⟨by omega, fun h => h0 (by rw [h]; rfl), hn0⟩
          constructor
          · unfold powRope; rw [hl]; simp only; rw [if_neg hc]
          · unfold powErr; rw [hl]; simp only; rw [if_neg hbig, if_neg (by omega), if_neg (by rw [hpf]; simp)]
        by_cases hneg : n < 0
        · rw [if_pos hneg, if_pos hneg] at hp
          have hd5 : decide (n < 0) = true := by simpa using hneg
          rw [hp.1, hp.2]
          have hcast : ((r.length : Int) - 1) = ((r.length - 1 : Nat) : Int) := by omega
          clear hl hp k1 k2 hpb hpf h0 hn0
          go_enter Tryz.func24, Tryz.ntmps24
          go_wp2_with fail
          refine hM.mono ?_
          rintro e w1 ⟨hyes, _⟩
          obtain ⟨B, hB, rfl, henv, hb⟩ := hyes L HL.out
          have hvl := value_last w1 B _ L (by rw [HK.out]; exact k3) henv ((r.length : Int) - 1) (by rw [HK.out])
          rw [HV.out] at hvl
          have HVL := Lib.hid hvl
          have HB := Lib.hid hb
          clear hyes henv hvl hM hb hcast
          go_wp2_with fail
          refine HVL.out.mono ?_; rintro e w' ⟨rfl, rfl⟩
          have hq := HQ.out
          go_wp2_with fail
          clear hq
          refine (Clone_any A r cap w1 (HR.out.on HB.out) HA.out k3).mono ?_
          rintro e w2 ⟨A2, cap2, rfl, hown2, hb2⟩
          have HB2 := Lib.hid (HB.out.trans (hb2.mono HB.out.size))
          clear hown2 hb2
          go_wp2_with fail
          refine (inverseR_any A r cap L HL.out w2 (HT.out.on HB2.out) (HR.out.on HB2.out) HA.out).mono ?_
          rintro e w3 ⟨A3, cap3, rfl, hown3, hb3⟩
          have HO3 := Lib.hid (own_lower hown3 HB2.out.size)
          have HB3 := Lib.hid (HB2.out.trans (hb3.mono HB2.out.size))
          clear hown3 hb3
          go_wp2_with (at_builtin; refine append_nodes (w3.alloc (.cells #[.string ⟨#[]⟩, .int .i64 ((r.length : Int) - 1), .int .i64 0, .int .i64 (-n)] 68)) rfl (.tmp 52) (.tmp 58) rfl w.heap.size A3 r.length cap3 (r.map invN) [⟨⟨#[]⟩, (r.length : Int) - 1, 0, -n⟩] rfl (own_below HO3.out ((Below.refl w3.heap.size w3).alloc (Nat.le_refl _) _).block) ⟨w3.heap.size, 0, none⟩ 1 1 rfl rfl (news_node w3 ⟨⟨#[]⟩, (r.length : Int) - 1, 0, -n⟩) (by omega) (Nat.le_trans HB3.out.size (by simp)) ?_; intro A' cap' w4 hown4 hb4; have HO4 := Lib.hid hown4; have HB4 := Lib.hid hb4; clear hown4 hb4)
          go_ret2
          refine ⟨A', cap', by simp, by rw [List.length_append, List.length_map]; exact HO4.out, (HB3.out.alloc HB3.out.size _).trans HB4.out⟩
        · rw [if_neg hneg, if_neg hneg] at hp
          have hd5 : decide (n < 0) = false := by simpa using hneg
          rw [hp.1, hp.2]
          clear hl hp k1 k2 hpb hpf h0 hn0
          go_enter Tryz.func24, Tryz.ntmps24
          go_wp2_with fail
          refine hM.mono ?_
          rintro e w1 ⟨hyes, _⟩
          obtain ⟨B, hB, rfl, henv, hb⟩ := hyes L HL.out
          have hvl := value_last w1 B _ L (by rw [HK.out]; exact k3) henv ((r.length : Int) - 1) (by rw [HK.out])
          rw [HV.out] at hvl
          have HVL := Lib.hid hvl
          have HB := Lib.hid hb
          clear hyes henv hvl hM hb
          go_wp2_with fail
          refine HVL.out.mono ?_; rintro e w' ⟨rfl, rfl⟩
          have hq := HQ.out
          go_wp2_with fail
          clear hq
          refine (Clone_any A r cap w1 (HR.out.on HB.out) HA.out k3).mono ?_
          rintro e w3 ⟨A3, cap3, rfl, hown3, hb3⟩
          have HO3 := Lib.hid (own_lower hown3 HB.out.size)
          have HB3 := Lib.hid (HB.out.trans (hb3.mono HB.out.size))
          clear hown3 hb3
          go_wp2_with (at_builtin; refine append_nodes (w3.alloc (.cells #[.string ⟨#[]⟩, .int .i64 ((r.length : Int) - 1), .int .i64 0, .int .i64 n] 68)) rfl (.tmp 52) (.tmp 58) rfl w.heap.size A3 r.length cap3 r [⟨⟨#[]⟩, (r.length : Int) - 1, 0, n⟩] rfl (own_below HO3.out ((Below.refl w3.heap.size w3).alloc (Nat.le_refl _) _).block) ⟨w3.heap.size, 0, none⟩ 1 1 rfl rfl (news_node w3 ⟨⟨#[]⟩, (r.length : Int) - 1, 0, n⟩) (by omega) (Nat.le_trans HB3.out.size (by simp)) ?_; intro A' cap' w4 hown4 hb4; have HO4 := Lib.hid hown4; have HB4 := Lib.hid hb4; clear hown4 hb4)
          go_ret2
          refine ⟨A', cap', by simp, by rw [List.length_append]; exact HO4.out, (HB3.out.alloc HB3.out.size _).trans HB4.out⟩
end Go.Proofs.YtgklmcinbaghmaaGreatDoor
