/-
  Our own text, in the proofs of the laws of package rope. Proved here: Len, Check, letter and At of the reference package. Conditions: the nodes lie in memory as the slice says.
-/
import Derived.Test.YtgklmcinbaghmaaGreatDoorRm
namespace Go.Proofs.YtgklmcinbaghmaaGreatDoor
open Go Go.RowKit

set_option maxHeartbeats 1000000 in
theorem rLen_any (A : Option Addr) (r : List Nd) (cap : Nat) (w : World) (hr : RopeAt w A r) (hm : r.length ≤ maxLen) :
    Calls Tryz.prog 9 #[.slice A r.length cap] w fun e w' => e = .returned (.tuple #[.int .i64 (lenI r), .int .i64 (errI r)]) ∧ Below w.heap.size w w' := by
  have hM := Lengths_any A r cap w hr hm
  unfold maxLen at hm
  clear hr
  cases hl : lens r with
  | none =>
    have h1 := Lib.hid (lenI_none hl)
    have h2 := Lib.hid (errI_none hl)
    have HL := Lib.hid hl
    clear hl
    go_enter Tryz.func9, Tryz.ntmps9
    go_wp2_with fail
    refine hM.mono ?_
    rintro e w1 ⟨_, hno⟩
    obtain ⟨rfl, hb⟩ := hno HL.out
    go_wp2
    go_ret2
    exact ⟨by rw [h1.out, h2.out]; rfl, hb⟩
  | some L =>
    have h1 := Lib.hid (lenI_some hl)
    have h2 := Lib.hid (errI_some hl)
    obtain ⟨k1, k2, k3⟩ := lens_ok hl
    have HL := Lib.hid hl
    have hln : L.length ≤ 4000 := by omega
    clear hl k1 k2
    go_enter Tryz.func9, Tryz.ntmps9
    go_wp2_with fail
    refine hM.mono ?_
    rintro e w1 ⟨hyes, _⟩
    obtain ⟨B, c, rfl, hown, hb⟩ := hyes L HL.out
    clear hyes
    rcases Nat.eq_zero_or_pos L.length with h0 | h0
    · have hd : ((L.length : Int) == 0) = true := by rw [h0]; rfl
      have HZ : Hid (lastN L = 0) := Lib.hid (by unfold lastN; rw [h0]; have : L = [] := List.length_eq_zero_iff.1 h0; subst this; rfl)
      have H0 := Lib.hid h0
      clear h0 hown
      go_wp2
      go_ret2
      exact ⟨by rw [h1.out, h2.out, HZ.out]; rfl, hb⟩
    · have hd : ((L.length : Int) == 0) = false := by rw [beq_eq_false_iff_ne]; omega
      obtain ⟨g, rfl, hc⟩ := own_cell hown (j := L.length - 1) (by omega)
      rw [ir_get _ _ (by rw [nl_len]; omega), nl_get] at hc
      obtain ⟨m, hmm⟩ : ∃ m, L.length = m + 1 := ⟨L.length - 1, by omega⟩
      have HZ : Hid (lastN L = L.getD m 0) := Lib.hid (by unfold lastN; rw [hmm]; rfl)
      rw [hmm, Nat.add_sub_cancel] at hc
      rw [hmm]
      rw [hmm] at hd
      have HMM := Lib.hid hmm
      have hmb : m + 1 ≤ 4000 := by omega
      clear h0 hown hmm hln
      go_wp2
      go_ret2
      exact ⟨by rw [h1.out, h2.out, HZ.out]; rfl, hb⟩

set_option maxHeartbeats 1000000 in
theorem rCheck_any (A : Option Addr) (r : List Nd) (cap : Nat) (w : World) (hr : RopeAt w A r) (hm : r.length ≤ maxLen) :
    Calls Tryz.prog 14 #[.slice A r.length cap] w fun e w' => e = .returned (.int .i64 (errI r)) ∧ Below w.heap.size w w' := by
  have hM := Lengths_any A r cap w hr hm
  unfold maxLen at hm
  clear hr
  cases hl : lens r with
  | none =>
    have h2 := Lib.hid (errI_none hl)
    have HL := Lib.hid hl
    clear hl
    go_enter Tryz.func14, Tryz.ntmps14
    go_wp2_with fail
    refine hM.mono ?_
    rintro e w1 ⟨_, hno⟩
    obtain ⟨rfl, hb⟩ := hno HL.out
    go_wp2
    go_ret
    exact ⟨by rw [h2.out]; rfl, hb⟩
  | some L =>
    have h2 := Lib.hid (errI_some hl)
    have HL := Lib.hid hl
    clear hl
    go_enter Tryz.func14, Tryz.ntmps14
    go_wp2_with fail
    refine hM.mono ?_
    rintro e w1 ⟨hyes, _⟩
    obtain ⟨B, c, rfl, hown, hb⟩ := hyes L HL.out
    go_wp2
    go_ret
    exact ⟨by rw [h2.out]; rfl, hb⟩

/-- The row of lengths lies. -/
def LensAt (w : World) (Al : Option Addr) (L : List Nat) : Prop := ∀ i, i < L.length → ∃ a, Al = some a ∧ w.cell? (a.add i) = some (.int .i64 ((L.getD i 0 : Nat) : Int))
theorem LensAt.on {w w' : World} {Al : Option Addr} {L : List Nat} (h : LensAt w Al L) (hb : Below w.heap.size w w') : LensAt w' Al L := by
  intro i hi
  obtain ⟨a, ha, h1⟩ := h i hi
  exact ⟨a, ha, (hb.cell (lt_of_cell h1)).trans h1⟩
theorem lensAt_own {w : World} {B cap : Nat} {A : Option Addr} {L : List Nat} (h : w.ownsRow B 3 1 (.slice A L.length cap) L.length (ir (nl L))) : LensAt w A L := by
  intro i hi
  obtain ⟨g, rfl, hc⟩ := own_cell h hi
  refine ⟨_, rfl, ?_⟩
  rw [ir_get _ _ (by rw [nl_len]; exact hi), nl_get] at hc
  have ea : (⟨g, 0, none⟩ : Addr).add i = ⟨g, i, none⟩ := by simp only [Addr.add, Nat.zero_add]; split <;> simp_all
  rw [ea]; exact hc

theorem run_rem (P : Program) (w : World) (a b c : Int) (h : 0 ≤ a) (hb : 1 ≤ b) (hc : a % b = c) : (Op.intDiv .rem .i64 a b).run P w = .ok (.int .i64 c) w := by
  have h1 : b ≠ 0 := by omega
  subst hc
  simp [Op.intDiv, h1, Int.tmod_eq_emod_of_nonneg h]

/-- A letter of a node's word. -/
def letQ (r : List Nd) (k i : Nat) : UInt8 := ((dens r).getD k []).getD i 0

set_option maxHeartbeats 4000000 in
set_option maxRecDepth 100000 in
theorem letter_any (A : Option Addr) (r : List Nd) (cap : Nat) (L : List Nat) (Al : Option Addr) (capl : Nat) (hl : lens r = some L) : ∀ (k : Nat), k < r.length → ∀ (i : Nat), i < L.getD k 0 → ∀ (w : World), RopeAt w A r → LensAt w Al L →
    Calls Tryz.prog 38 #[.slice A r.length cap, .slice Al L.length capl, .int .i64 (k : Int), .int .i64 (i : Int)] w fun e w' => e = .returned (.int .u8 (letQ r k i).toNat) ∧ Below w.heap.size w w' := by
  obtain ⟨k1, k2, k3⟩ := lens_ok hl
  have HLL := Lib.hid hl
  have HOK := Lib.hid k2
  have HK1 := Lib.hid k1
  have hL4 : L.length ≤ 4000 := by omega
  clear hl k1 k2
  intro k
  induction k using Nat.strongRecOn with
  | ind k ih =>
    intro hk i hi w hr hla
    have hns := node_is HLL.out k hk
    have hli : (L.getD k 0 : Int) ≤ 1152921504606846976 := okL_le HOK.out k
    obtain ⟨a, rfl, hx, hxs⟩ := hr k hk
    have HR := Lib.hid hr
    have HLA := Lib.hid hla
    have IH := Lib.hid ih
    clear hr hla ih
    generalize r[k] = x at *
    obtain ⟨s, l, q, t⟩ := x
    obtain ⟨f0, f1, f2, f3⟩ := hx
    simp only at f0 f1 f2 f3 hxs
    have hB0 : Below w.heap.size w (w.alloc (.cells #[.string s, .int .i64 l, .int .i64 q, .int .i64 t] 68)) := (Below.refl _ _).alloc (Nat.le_refl _) _
    have hblk : Blk (w.alloc (.cells #[.string s, .int .i64 l, .int .i64 q, .int .i64 t] 68)) w.heap.size 68 #[.string s, .int .i64 l, .int .i64 q, .int .i64 t] := heap_alloc_new w _
    have c0 := hblk.cell 0
    have c1 := hblk.cell 1
    have c2 := hblk.cell 2
    have c3 := hblk.cell 3
    have C0 := Lib.hid c0
    have C1 := Lib.hid c1
    have C2 := Lib.hid c2
    have C3 := Lib.hid c3
    have HB0 := Lib.hid hB0
    clear c0 c1 c2 c3 hB0 hblk
    rcases hns with ⟨hw, hlf, h1, h2, h3, hd⟩ | ⟨hw, b, c, hb, hc, h1, h2, h3, hd, hn⟩ | ⟨hw, b, n, hb, hn0, h1, h2, h3, hd, hn⟩
    · have he : s.toList.isEmpty = false := by rw [ByteArray.toList_eq]; simpa using hw
      have he2 : (!s.toList.isEmpty) = true := by rw [he]; rfl
      have hsz := dens_lens HLL.out k hk
      rw [hd] at hsz
      have his : i < s.size := by have : s.data.toList.length = s.size := rfl; simp only at hsz; omega
      have hs100 := leafB_size hlf
      have HLET : Hid (letQ r k i = s[i]) := Lib.hid (by
        unfold letQ; rw [hd]
        have : i < s.data.toList.length := his
        simp only [List.getD, List.getElem?_eq_getElem this]; rfl)
      clear hw hlf hd hsz hi hli h1 h2 h3
      go_enter Tryz.func38, Tryz.ntmps38
      go_wp2
      go_ret
      exact ⟨by rw [HLET.out]; rfl, HB0.out⟩
    · obtain rfl := emp_ba hw
      simp only at h1 h2 h3
      subst h1 h2 h3
      have hR0 := HR.out.on HB0.out
      have hLA0 := HLA.out.on HB0.out
      obtain ⟨al, rfl, cl⟩ := hLA0 b (by rw [HK1.out]; omega)
      have hv := (okL_get HOK.out (i := b) (by rw [HK1.out]; omega)).2
      have hb1 := IH.out b hb (by omega)
      have hc1 := IH.out c hc (by omega)
      have hlb := dens_lens HLL.out b (by omega)
      obtain ⟨v, hve⟩ : ∃ v : Nat, L.getD b 0 = v := ⟨_, rfl⟩
      rw [hve] at cl hv hn hb1 hlb
      have hbL : b < L.length := by rw [HK1.out]; omega
      have HD := Lib.hid hd
      have HLB := Lib.hid hlb
      have HN := Lib.hid hn
      have CL := Lib.hid cl
      have HR0 := Lib.hid hR0
      have HLA0 := Lib.hid hLA0
      have HC1 := Lib.hid hc1
      have HBB1 := Lib.hid hb1
      clear hw hd hlb hn hve cl hR0 hLA0 hc1 hb1
      by_cases hiv : i < v
      · have hd0 : decide (i < v) = true := by simpa using hiv
        have HLET : Hid (letQ r k i = letQ r b i) := Lib.hid (by unfold letQ; rw [HD.out, app_getL _ _ _ (by rw [HLB.out]; exact hiv)])
        go_enter Tryz.func38, Tryz.ntmps38
        have cl := CL.out
        have c0 := C0.out
        have c1 := C1.out
        have c2 := C2.out
        have c3 := C3.out
        go_wp2_with fail
        refine (HBB1.out i hiv _ HR0.out HLA0.out).mono ?_
        rintro e w1 ⟨rfl, hb2⟩
        clear cl c0 c1 c2 c3 f0 f1 f2 f3
        go_wp2
        go_ret
        exact ⟨by rw [HLET.out]; rfl, HB0.out.trans (hb2.mono HB0.out.size)⟩
      · have hd0 : decide (i < v) = false := by simpa using hiv
        obtain ⟨j, hj⟩ : ∃ j : Nat, i = v + j := ⟨i - v, by omega⟩
        have HLET : Hid (letQ r k i = letQ r c j) := Lib.hid (by unfold letQ; rw [HD.out, app_getR _ _ _ (by rw [HLB.out]; omega), HLB.out, hj, Nat.add_sub_cancel_left])
        have hjl : j < L.getD c 0 := by have := HN.out; omega
        have hwr : IntKind.i64.wrap ((i : Int) - (v : Int)) = (j : Int) := by rw [show (i : Int) - (v : Int) = (j : Int) by omega]; exact IntWalk.i64_in _ (by omega)
        have HWR := Lib.hid hwr
        have HJ := Lib.hid hj
        clear hwr hj
        go_enter Tryz.func38, Tryz.ntmps38
        have cl := CL.out
        have c0 := C0.out
        have c1 := C1.out
        have c2 := C2.out
        have c3 := C3.out
        go_wp2
        generalize hw1 : w.alloc (Obj.cells #[Value.string ⟨#[]⟩, Value.int IntKind.i64 (b : Int), Value.int IntKind.i64 (c : Int), Value.int IntKind.i64 0] 68) = w1 at *
        have HW1 := Lib.hid hw1
        have cl2 : (World.drew w1).cell? (al.add b) = some (.int .i64 (v : Int)) := cl
        have d0 : (World.drew w1).cell? ⟨w.heap.size, 0, none⟩ = some (.string ⟨#[]⟩) := c0
        have d1 : (World.drew w1).cell? ⟨w.heap.size, 1, none⟩ = some (.int .i64 (b : Int)) := c1
        have d2 : (World.drew w1).cell? ⟨w.heap.size, 2, none⟩ = some (.int .i64 (c : Int)) := c2
        have d3 : (World.drew w1).cell? ⟨w.heap.size, 3, none⟩ = some (.int .i64 0) := c3
        have HR2 := Lib.hid (HR0.out.on ((Below.refl _ w1).drew))
        have HLA2 := Lib.hid (HLA0.out.on ((Below.refl _ w1).drew))
        have HB2 := Lib.hid (HB0.out.drew)
        clear hw1 f0 f1 f2 f3 cl c0 c1 c2 c3
        refine wp_region_still_tail 11 (by kernel_rfl) (by kernel_rfl) ?_
        change wpStill _ _ (World.drew w1) (fun a' => wpList _ _ _ _ a' (World.drew w1)) _ _
        generalize World.drew w1 = w2 at *
        have hwr := HWR.out
        simp only [List.take_succ_cons, List.take_zero, List.drop_succ_cons, List.drop_zero]
        repeat still_step
        refine wpStill_nil ?_
        go_wp2_with (go_at_call 38; refine (HC1.out j hjl _ HR2.out HLA2.out).mono ?_; rintro e w3 ⟨rfl, hb2⟩)
        go_ret
        exact ⟨by rw [HLET.out]; rfl, HB2.out.trans (hb2.mono HB2.out.size)⟩
    · obtain rfl := emp_ba hw
      simp only at h1 h2 h3
      subst h1 h2 h3
      have hR0 := HR.out.on HB0.out
      have hLA0 := HLA.out.on HB0.out
      obtain ⟨al, rfl, cl⟩ := hLA0 b (by rw [HK1.out]; omega)
      have hv := (okL_get HOK.out (i := b) (by rw [HK1.out]; omega))
      have hb1 := IH.out b hb (by omega)
      have hlb := dens_lens HLL.out b (by omega)
      have hbL : b < L.length := by rw [HK1.out]; omega
      obtain ⟨v, hve⟩ : ∃ v : Nat, L.getD b 0 = v := ⟨_, rfl⟩
      rw [hve] at cl hv hn hb1 hlb
      obtain ⟨j, hj⟩ : ∃ j : Nat, i % v = j := ⟨_, rfl⟩
      have hjl : j < v := by rw [← hj]; exact Nat.mod_lt _ (by omega)
      have HLET : Hid (letQ r k i = letQ r b j) := Lib.hid (by unfold letQ; rw [hd, copies_get _ _ _ (by rw [hlb, ← hn]; exact hi), hlb, hj])
      have htm : (i : Int).tmod (v : Int) = (j : Int) := by rw [Int.tmod_eq_emod_of_nonneg (by omega), ← hj]; rfl
      have hv0 : ¬ (v = 0) := by omega
      have htn : (0 : Int) < (n : Int) := by omega
      have htd : decide (0 < (n : Int)) = true := by simpa using htn
      have hvz : ((v : Int) == 0) = false := by rw [beq_eq_false_iff_ne]; omega
      have CL := Lib.hid cl
      have HR0 := Lib.hid hR0
      have HLA0 := Lib.hid hLA0
      have HBB1 := Lib.hid hb1
      have HTM := Lib.hid htm
      clear hw hd hlb hn hve cl hR0 hLA0 hb1 hj htm
      go_enter Tryz.func38, Tryz.ntmps38
      have cl := CL.out
      have c0 := C0.out
      have c1 := C1.out
      have c2 := C2.out
      have c3 := C3.out
      go_wp2
      generalize hw1 : w.alloc (Obj.cells #[Value.string ⟨#[]⟩, Value.int IntKind.i64 (b : Int), Value.int IntKind.i64 0, Value.int IntKind.i64 (n : Int)] 68) = w1 at *
      have HW1 := Lib.hid hw1
      have cl2 : (World.drew w1).cell? (al.add b) = some (.int .i64 (v : Int)) := cl
      have d0 : (World.drew w1).cell? ⟨w.heap.size, 0, none⟩ = some (.string ⟨#[]⟩) := c0
      have d1 : (World.drew w1).cell? ⟨w.heap.size, 1, none⟩ = some (.int .i64 (b : Int)) := c1
      have d2 : (World.drew w1).cell? ⟨w.heap.size, 2, none⟩ = some (.int .i64 0) := c2
      have d3 : (World.drew w1).cell? ⟨w.heap.size, 3, none⟩ = some (.int .i64 (n : Int)) := c3
      have HR2 := Lib.hid (HR0.out.on ((Below.refl _ w1).drew))
      have HLA2 := Lib.hid (HLA0.out.on ((Below.refl _ w1).drew))
      have HB2 := Lib.hid (HB0.out.drew)
      clear hw1 f0 f1 f2 f3 cl c0 c1 c2 c3
      refine wp_region_still_tail 11 (by kernel_rfl) (by kernel_rfl) ?_
      change wpStill _ _ (World.drew w1) (fun a' => wpList _ _ _ _ a' (World.drew w1)) _ _
      generalize World.drew w1 = w2 at *
      have htm := HTM.out
      simp only [List.take_succ_cons, List.take_zero, List.drop_succ_cons, List.drop_zero]
      repeat still_step
      refine wpStill_nil ?_
      go_wp2_with (go_at_call 38; refine (HBB1.out j hjl _ HR2.out HLA2.out).mono ?_; rintro e w3 ⟨rfl, hb2⟩)
      go_ret
      exact ⟨by rw [HLET.out]; rfl, HB2.out.trans (hb2.mono HB2.out.size)⟩
end Go.Proofs.YtgklmcinbaghmaaGreatDoor
