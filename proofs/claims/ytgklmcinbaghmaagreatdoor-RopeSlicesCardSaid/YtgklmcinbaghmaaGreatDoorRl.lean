/-
  Our own text, in the proofs of the laws of package rope. Proved here: Lengths of the reference package returns the lengths of the nodes. Conditions: the nodes lie in memory as the slice says.
-/
import Derived.Test.YtgklmcinbaghmaaGreatDoorRk
namespace Go.Proofs.YtgklmcinbaghmaaGreatDoor
open Go Go.RowKit

/-- How Lengths ends: a row of its own, or nothing. -/
def LensPost (w : World) (r : List Nd) (e : Ending) (w' : World) : Prop :=
  (∀ L, lens r = some L → ∃ A cap, e = .returned (.tuple #[.slice A L.length cap, .bool true]) ∧ w'.ownsRow w.heap.size 3 1 (.slice A L.length cap) L.length (ir (nl L)) ∧ Below w.heap.size w w') ∧
  (lens r = none → e = .returned (.tuple #[.slice none 0 0, .bool false]) ∧ Below w.heap.size w w')
theorem LensPost.no {w : World} {r : List Nd} {e : Ending} {w' : World} (h : lens r = none) (k : e = .returned (.tuple #[.slice none 0 0, .bool false]) ∧ Below w.heap.size w w') : LensPost w r e w' :=
  ⟨fun L hL => (by rw [h] at hL; cases hL), fun _ => k⟩

theorem nodeB_no_join {x : Nd} {k : Int} (hw : x.word.data.toList = []) (ht : x.t = 0) (h : ¬ ((0 ≤ x.l ∧ x.l < k) ∧ (0 ≤ x.r ∧ x.r < k))) : nodeB x k = false := by
  simp only [nodeB, if_pos hw, if_pos ht, belowB]
  by_cases h1 : 0 ≤ x.l <;> by_cases h2 : x.l < k <;> by_cases h3 : 0 ≤ x.r <;> by_cases h4 : x.r < k <;> simp_all
theorem nodeB_no_pow {x : Nd} {k : Int} (hw : x.word.data.toList = []) (ht : x.t ≠ 0) (h : ¬ ((0 ≤ x.l ∧ x.l < k) ∧ 0 < x.t ∧ x.r = 0)) : nodeB x k = false := by
  simp only [nodeB, if_pos hw, if_neg ht, belowB]
  by_cases h1 : 0 ≤ x.l <;> by_cases h2 : x.l < k <;> by_cases h3 : 0 < x.t <;> by_cases h4 : x.r = 0 <;> simp_all
theorem nodeB_no_leaf {x : Nd} {k : Int} (hw : x.word.data.toList ≠ []) (h : ¬ (leafB x.word.data.toList = true ∧ x.l = 0 ∧ x.r = 0 ∧ x.t = 0)) : nodeB x k = false := by
  simp only [nodeB, if_neg hw]
  by_cases h1 : leafB x.word.data.toList = true <;> by_cases h2 : x.l = 0 <;> by_cases h3 : x.r = 0 <;> by_cases h4 : x.t = 0 <;> simp_all
theorem nodeB_yes_join {x : Nd} {k : Int} (hw : x.word.data.toList = []) (ht : x.t = 0) (h1 : 0 ≤ x.l) (h2 : x.l < k) (h3 : 0 ≤ x.r) (h4 : x.r < k) : nodeB x k = true := by
  simp only [nodeB, if_pos hw, if_pos ht, belowB]; simp [h1, h2, h3, h4]
theorem nodeB_yes_pow {x : Nd} {k : Int} (hw : x.word.data.toList = []) (ht : 0 < x.t) (h1 : 0 ≤ x.l) (h2 : x.l < k) (h3 : x.r = 0) : nodeB x k = true := by
  have : x.t ≠ 0 := by omega
  simp only [nodeB, if_pos hw, if_neg this, belowB]; simp [h1, h2, h3, ht]
theorem nodeB_yes_leaf {x : Nd} {k : Int} (hw : x.word.data.toList ≠ []) (h : leafB x.word.data.toList = true) (h1 : x.l = 0) (h2 : x.r = 0) (h3 : x.t = 0) : nodeB x k = true := by
  simp only [nodeB, if_neg hw]; simp [h, h1, h2, h3]
theorem wordB_leaf (l : List UInt8) : wordB l 100 = leafB l := by
  unfold wordB leafB
  rw [Bool.and_comm]; congr 1; simp; omega

set_option maxHeartbeats 8000000 in
set_option maxRecDepth 100000 in
theorem Lengths_any (A0 : Option Addr) (r : List Nd) (cap0 : Nat) (w : World) (hr : RopeAt w A0 r) (hm : r.length ≤ maxLen) :
    Calls Tryz.prog 29 #[.slice A0 r.length cap0] w (LensPost w r) := by
  unfold maxLen at hm
  by_cases hn : r.length ≤ 4000
  case neg =>
    have hd : decide (4000 < (r.length : Int)) = true := by simp; omega
    have HN : Hid (lens r = none) := Lib.hid (by unfold lens; rw [if_neg hn])
    clear hr
    go_enter Tryz.func29, Tryz.ntmps29
    go_wp2
    go_ret2
    exact LensPost.no HN.out ⟨rfl, Below.refl _ _⟩
  case pos =>
  have hd : decide (4000 < (r.length : Int)) = false := by simp; omega
  have HR := Lib.hid hr
  clear hr hm
  go_enter Tryz.func29, Tryz.ntmps29
  go_wp2
  clear hd
  go_loopw [4, 5, 6, 7] (fun out i _ _ wr => ∃ (k : Nat) (L : List Nat) (A : Option Addr) (cap : Nat), k ≤ r.length ∧ L.length = k ∧ okL L ∧ i = .int .i64 (k : Int) ∧ lensR (r.take k) = some L ∧ out = .slice A k cap ∧ wr.ownsRow w.heap.size 3 1 (.slice A k cap) k (ir (nl L)) ∧ Below w.heap.size w wr)
    (fun _ i _ _ _ => r.length - (intOf i).toNat)
  case atStart => exact ⟨0, [], none, 0, Nat.zero_le _, rfl, fun n hn => (by simp at hn), rfl, rfl, rfl, World.ownsRow_nil _ _ _ _, Below.refl _ _⟩
  case round =>
    obtain ⟨k, L, A, cap, hk, hkL, hok, rfl, hlen, rfl, hown, hb⟩ := hrel
    have HOK := Lib.hid hok
    have HLEN := Lib.hid hlen
    have HB := Lib.hid hb
    have HO := Lib.hid hown
    have HKL := Lib.hid hkL
    by_cases hlt : k < r.length
    · obtain ⟨a, rfl, hx, hxs⟩ := HR.out k hlt
      have hlenx := lens_no (L := L) hlt hlen
      have HLX := Lib.hid hlenx
      have htk := lensR_take r k hlt
      rw [hlen] at htk
      have HTK := Lib.hid htk
      have hx1 := hx.on hb (lt_of_cell hx.1)
      clear hlenx htk hx hkL hok hlen hb hown
      generalize r[k] = x at *
      obtain ⟨s, l, q, t⟩ := x
      obtain ⟨f0, f1, f2, f3⟩ := hx1
      simp only at f0 f1 f2 f3 hxs
      have hB0 : Below wr.heap.size wr (wr.alloc (.cells #[.string s, .int .i64 l, .int .i64 q, .int .i64 t] 68)) := (Below.refl _ _).alloc (Nat.le_refl _) _
      have hblk : Blk (wr.alloc (.cells #[.string s, .int .i64 l, .int .i64 q, .int .i64 t] 68)) wr.heap.size 68 #[.string s, .int .i64 l, .int .i64 q, .int .i64 t] := heap_alloc_new wr _
      have C0 := Lib.hid (show (wr.alloc (.cells #[.string s, .int .i64 l, .int .i64 q, .int .i64 t] 68)).cell? ⟨wr.heap.size, 0, none⟩ = some (.string s) from hblk.cell 0)
      have C1 := Lib.hid (show (wr.alloc (.cells #[.string s, .int .i64 l, .int .i64 q, .int .i64 t] 68)).cell? ⟨wr.heap.size, 1, none⟩ = some (.int .i64 l) from hblk.cell 1)
      have C2 := Lib.hid (show (wr.alloc (.cells #[.string s, .int .i64 l, .int .i64 q, .int .i64 t] 68)).cell? ⟨wr.heap.size, 2, none⟩ = some (.int .i64 q) from hblk.cell 2)
      have C3 := Lib.hid (show (wr.alloc (.cells #[.string s, .int .i64 l, .int .i64 q, .int .i64 t] 68)).cell? ⟨wr.heap.size, 3, none⟩ = some (.int .i64 t) from hblk.cell 3)
      have HB1 := Lib.hid (HB.out.trans (hB0.mono HB.out.size))
      have HO1 := Lib.hid (show (wr.alloc (.cells #[.string s, .int .i64 l, .int .i64 q, .int .i64 t] 68)).ownsRow w.heap.size 3 1 (.slice A k cap) k (ir (nl L)) from HO.out.alloc _)
      have HCELL : Hid (∀ m : Nat, m < k → ∃ g, A = some ⟨g, 0, none⟩ ∧ (wr.alloc (.cells #[.string s, .int .i64 l, .int .i64 q, .int .i64 t] 68)).cell? ⟨g, m, none⟩ = some (.int .i64 ((L.getD m 0 : Nat) : Int))) := Lib.hid (by
        intro m hm
        obtain ⟨g, hg, hc⟩ := own_cell HO1.out hm
        refine ⟨g, hg, ?_⟩
        rw [hc, ir_get _ _ (by rw [nl_len, HKL.out]; exact hm), nl_get])
      clear hB0 hblk
      by_cases hword : s.data.toList = []
      case neg =>
        have he : s.toList.isEmpty = false := by rw [ByteArray.toList_eq]; simpa using hword
        have he2 : (!s.toList.isEmpty) = true := by rw [he]; rfl
        have hI := rIsWord_any s 100 (wr.alloc (.cells #[.string s, .int .i64 l, .int .i64 q, .int .i64 t] 68)) hxs
        rw [wordB_leaf] at hI
        have hxs2 := hxs
        unfold maxLen at hxs2
        cases hlf : leafB s.data.toList with
        | false =>
          rw [hlf] at hI
          have HNO := Lib.hid (HLX.out (lenOf_bad (nodeB_no_leaf hword (by simp only; rw [hlf]; simp))))
          clear hword
          go_wp2_with (go_at_call 21; refine hI.mono ?_; rintro e w' ⟨rfl, rfl⟩)
          go_ret2
          exact LensPost.no HNO.out ⟨rfl, HB1.out⟩
        | true =>
          rw [hlf] at hI
          have hsz := leafB_size hlf
          cases hl0 : (l == 0) with
          | false =>
            have hl1 : (l != 0) = true := by rw [bne, hl0]; rfl
            have HNO := Lib.hid (HLX.out (lenOf_bad (nodeB_no_leaf hword (by simp only; intro hh; have h1 : l = 0 := hh.2.1; simp [h1] at hl0))))
            clear hword
            go_wp2_with (go_at_call 21; refine hI.mono ?_; rintro e w' ⟨rfl, rfl⟩)
            go_ret2
            exact LensPost.no HNO.out ⟨rfl, HB1.out⟩
          | true =>
            have hl1 : (l != 0) = false := by rw [bne, hl0]; rfl
            cases hq0 : (q == 0) with
            | false =>
              have hq1 : (q != 0) = true := by rw [bne, hq0]; rfl
              have HNO := Lib.hid (HLX.out (lenOf_bad (nodeB_no_leaf hword (by simp only; intro hh; have h1 : q = 0 := hh.2.2.1; simp [h1] at hq0))))
              clear hword
              go_wp2_with (go_at_call 21; refine hI.mono ?_; rintro e w' ⟨rfl, rfl⟩)
              go_ret2
              exact LensPost.no HNO.out ⟨rfl, HB1.out⟩
            | true =>
              have hq1 : (q != 0) = false := by rw [bne, hq0]; rfl
              cases ht0 : (t == 0) with
              | false =>
                have ht1 : (t != 0) = true := by rw [bne, ht0]; rfl
                have HNO := Lib.hid (HLX.out (lenOf_bad (nodeB_no_leaf hword (by simp only; intro hh; have h1 : t = 0 := hh.2.2.2; simp [h1] at ht0))))
                clear hword
                go_wp2_with (go_at_call 21; refine hI.mono ?_; rintro e w' ⟨rfl, rfl⟩)
                go_ret2
                exact LensPost.no HNO.out ⟨rfl, HB1.out⟩
              | true =>
                have ht1 : (t != 0) = false := by rw [bne, ht0]; rfl
                have HLO := Lib.hid (lenOf_leaf (L := L) (x := ⟨s, l, q, t⟩) (nodeB_yes_leaf hword hlf (by simpa using hl0) (by simpa using hq0) (by simpa using ht0)) hword)
                clear hword hlf
                go_wp2_with fail
                refine hI.mono ?_; rintro e w' ⟨rfl, rfl⟩
                have c0 := C0.out
                have c1 := C1.out
                have c2 := C2.out
                have c3 := C3.out
                generalize hw1 : wr.alloc (Obj.cells #[Value.string s, Value.int IntKind.i64 l, Value.int IntKind.i64 q, Value.int IntKind.i64 t] 68) = w1 at *
                have HW1 := Lib.hid hw1
                clear hw1 f0 f1 f2 f3
                clear hI
                go_wp2_with (at_builtin; refine append_int w1 rfl (.tmp 134) (.tmp 136) rfl w.heap.size A k cap (nl L) (s.size : Int) rfl HO1.out _ rfl rfl (by omega) HB1.out.size ?_; intro A' cap' w2 hown2 hb2; have H2 := Lib.hid hown2; have B2 := Lib.hid hb2; clear hown2 hb2)
                go_roundw
                case rel => exact ⟨k + 1, L ++ [s.size], A', cap', by omega, by simp [HKL.out], fun m hm => (by rcases List.mem_append.1 hm with hm | hm; exact HOK.out m hm; simp at hm; subst hm; exact lenOf_ok HOK.out HLO.out), by go_num, by rw [HTK.out]; simp [stepL, HLO.out], rfl, by rw [nl_append]; exact H2.out, HB1.out.trans B2.out⟩
                case measure => simp [intOf]; omega
      case pos =>
        obtain rfl := emp_ba hword
        by_cases ht : t = 0
        case neg =>
          have ht0 : (t == 0) = false := by simpa using ht
          have ht1 : (t != 0) = true := by rw [bne, ht0]; rfl
          by_cases g1 : t < 1
          · have d1 : decide (t < 1) = true := by simpa using g1
            have HNO := Lib.hid (HLX.out (lenOf_bad (nodeB_no_pow hword (by simp only; omega) (by simp only; rw [HKL.out]; omega))))
            clear hword
            go_wp2
            have c0 := C0.out
            have c1 := C1.out
            have c2 := C2.out
            have c3 := C3.out
            generalize hw1 : wr.alloc (Obj.cells #[Value.string ⟨#[]⟩, Value.int IntKind.i64 l, Value.int IntKind.i64 q, Value.int IntKind.i64 t] 68) = w1 at *
            have HW1 := Lib.hid hw1
            clear hw1 f0 f1 f2 f3
            go_quiet (fail)
            go_wp2
            go_ret2
            exact LensPost.no HNO.out ⟨rfl, HB1.out.drewN nq⟩
          have d1 : decide (t < 1) = false := by simpa using g1
          by_cases g2 : l < 0
          · have d2 : decide (l < 0) = true := by simpa using g2
            have HNO := Lib.hid (HLX.out (lenOf_bad (nodeB_no_pow hword (by simp only; omega) (by simp only; rw [HKL.out]; omega))))
            clear hword
            go_wp2
            have c0 := C0.out
            have c1 := C1.out
            have c2 := C2.out
            have c3 := C3.out
            generalize hw1 : wr.alloc (Obj.cells #[Value.string ⟨#[]⟩, Value.int IntKind.i64 l, Value.int IntKind.i64 q, Value.int IntKind.i64 t] 68) = w1 at *
            have HW1 := Lib.hid hw1
            clear hw1 f0 f1 f2 f3
            go_quiet (fail)
            go_wp2
            go_ret2
            exact LensPost.no HNO.out ⟨rfl, HB1.out.drewN nq⟩
          have d2 : decide (l < 0) = false := by simpa using g2
          obtain ⟨m, rfl⟩ : ∃ m : Nat, l = (m : Int) := ⟨l.toNat, by omega⟩
          by_cases g3 : k ≤ m
          · have d3 : decide ((k : Int) ≤ (m : Int)) = true := by simpa using g3
            have d3b : decide (k ≤ m) = true := by simpa using g3
            have HNO := Lib.hid (HLX.out (lenOf_bad (nodeB_no_pow hword (by simp only; omega) (by simp only; rw [HKL.out]; omega))))
            clear hword
            go_wp2
            have c0 := C0.out
            have c1 := C1.out
            have c2 := C2.out
            have c3 := C3.out
            generalize hw1 : wr.alloc (Obj.cells #[Value.string ⟨#[]⟩, Value.int IntKind.i64 (m : Int), Value.int IntKind.i64 q, Value.int IntKind.i64 t] 68) = w1 at *
            have HW1 := Lib.hid hw1
            clear hw1 f0 f1 f2 f3
            go_quiet (fail)
            go_wp2
            go_ret2
            exact LensPost.no HNO.out ⟨rfl, HB1.out.drewN nq⟩
          have d3 : decide ((k : Int) ≤ (m : Int)) = false := by simpa using g3
          have d3b : decide (k ≤ m) = false := by simpa using g3
          cases hq0 : (q == 0) with
          | false =>
            have hq1 : (q != 0) = true := by rw [bne, hq0]; rfl
            have hqn : q ≠ 0 := by simpa using hq0
            have HNO := Lib.hid (HLX.out (lenOf_bad (nodeB_no_pow hword (by simp only; omega) (by simp only; rw [HKL.out]; omega))))
            clear hword hqn
            go_wp2
            have c0 := C0.out
            have c1 := C1.out
            have c2 := C2.out
            have c3 := C3.out
            generalize hw1 : wr.alloc (Obj.cells #[Value.string ⟨#[]⟩, Value.int IntKind.i64 (m : Int), Value.int IntKind.i64 q, Value.int IntKind.i64 t] 68) = w1 at *
            have HW1 := Lib.hid hw1
            clear hw1 f0 f1 f2 f3
            go_quiet (fail)
            go_wp2
            go_ret2
            exact LensPost.no HNO.out ⟨rfl, HB1.out.drewN nq⟩
          | true =>
            have hq1 : (q != 0) = false := by rw [bne, hq0]; rfl
            have hqn : q = 0 := by simpa using hq0
            obtain ⟨g, rfl, hcm⟩ := HCELL.out m (by omega)
            have HCM := Lib.hid hcm
            have hv := okL_get HOK.out (i := m) (by rw [HKL.out]; omega)
            have HLO := Lib.hid (lenOf_pow (L := L) (x := ⟨⟨#[]⟩, (m : Int), q, t⟩) (nodeB_yes_pow hword (by simp only; omega) (by simp only; omega) (by simp only; rw [HKL.out]; omega) hqn) hword ht)
            simp only [Int.toNat_natCast] at HLO
            clear hcm hqn hword
            obtain ⟨v, hve⟩ : ∃ v : Nat, L.getD m 0 = v := ⟨_, rfl⟩
            rw [hve] at HCM HLO hv
            have HVE := Lib.hid hve
            clear hve
            by_cases g4 : t ≤ 1152921504606846976 / (v : Int)
            case neg =>
              have d4 : decide (1152921504606846976 / (v : Int) < t) = true := by simpa using g4
              rw [if_neg g4] at HLO
              have HNO := Lib.hid (HLX.out HLO.out)
              go_wp2
              have cm := HCM.out
              have c0 := C0.out
              have c1 := C1.out
              have c2 := C2.out
              have c3 := C3.out
              generalize hw1 : wr.alloc (Obj.cells #[Value.string ⟨#[]⟩, Value.int IntKind.i64 (m : Int), Value.int IntKind.i64 q, Value.int IntKind.i64 t] 68) = w1 at *
              have HW1 := Lib.hid hw1
              clear hw1 f0 f1 f2 f3
              go_quiet (fail)
              go_wp2
              go_ret2
              exact LensPost.no HNO.out ⟨rfl, HB1.out.drewN nq⟩
            case pos =>
              have d4 : decide (1152921504606846976 / (v : Int) < t) = false := by simpa using g4
              rw [if_pos g4] at HLO
              have hm1 : t * (v : Int) ≤ 1152921504606846976 := Int.mul_le_of_le_ediv (by omega) g4
              have hm2 : 0 ≤ t * (v : Int) := Int.mul_nonneg (by omega) (by omega)
              have HMUL : Hid (((v * t.toNat : Nat) : Int) = t * (v : Int)) := Lib.hid (by rw [Int.natCast_mul, Int.toNat_of_nonneg (by omega), Int.mul_comm])
              go_wp2
              have cm := HCM.out
              have c0 := C0.out
              have c1 := C1.out
              have c2 := C2.out
              have c3 := C3.out
              generalize hw1 : wr.alloc (Obj.cells #[Value.string ⟨#[]⟩, Value.int IntKind.i64 (m : Int), Value.int IntKind.i64 q, Value.int IntKind.i64 t] 68) = w1 at *
              have HW1 := Lib.hid hw1
              clear hw1 f0 f1 f2 f3
              go_quiet (fail)
              go_wp2
              generalize hq9 : nq = q1 at *
              clear hq9
              have c1' : (w1.drewN q1).cell? ⟨wr.heap.size, 1, none⟩ = some (.int .i64 (m : Int)) := c1
              have c2' : (w1.drewN q1).cell? ⟨wr.heap.size, 2, none⟩ = some (.int .i64 q) := c2
              have c3' : (w1.drewN q1).cell? ⟨wr.heap.size, 3, none⟩ = some (.int .i64 t) := c3
              have cm' : (w1.drewN q1).cell? ⟨g, m, none⟩ = some (.int .i64 (v : Int)) := cm
              have HB2 := Lib.hid (HB1.out.drewN q1)
              have HO2 := Lib.hid (show (w1.drewN q1).ownsRow w.heap.size 3 1 (.slice (some ⟨g, 0, none⟩) k cap) k (ir (nl L)) from HO1.out)
              clear c0 c1 c2 c3 cm
              generalize w1.drewN q1 = w2 at *
              go_quiet (fail)
              go_wp2_with (at_builtin; refine append_int (w2.drewN nq) rfl (.tmp 134) (.tmp 136) rfl w.heap.size (some ⟨g, 0, none⟩) k cap (nl L) (t * (v : Int)) rfl (show (w2.drewN nq).ownsRow _ _ _ _ _ _ from HO2.out) _ rfl rfl (by omega) HB2.out.size ?_; intro A' cap' w3 hown2 hb2; have H2 := Lib.hid hown2; have B2 := Lib.hid hb2; clear hown2 hb2)
              go_roundw
              case rel => exact ⟨k + 1, L ++ [v * t.toNat], A', cap', by omega, by simp [HKL.out], fun m hm => (by rcases List.mem_append.1 hm with hm | hm; exact HOK.out m hm; simp at hm; subst hm; exact lenOf_ok HOK.out HLO.out), by go_num, by rw [HTK.out]; simp [stepL, HLO.out], rfl, by rw [nl_append]; simp only [nl, List.map_cons, List.map_nil, HMUL.out]; exact H2.out, (HB2.out.drewN nq).trans B2.out⟩
              case measure => simp [intOf]; omega
        case pos =>
          subst ht
          by_cases g2 : l < 0
          · have d2 : decide (l < 0) = true := by simpa using g2
            have HNO := Lib.hid (HLX.out (lenOf_bad (nodeB_no_join hword rfl (by simp only; rw [HKL.out]; omega))))
            clear hword
            go_wp2
            have c0 := C0.out
            have c1 := C1.out
            have c2 := C2.out
            have c3 := C3.out
            generalize hw1 : wr.alloc (Obj.cells #[Value.string ⟨#[]⟩, Value.int IntKind.i64 l, Value.int IntKind.i64 q, Value.int IntKind.i64 0] 68) = w1 at *
            have HW1 := Lib.hid hw1
            clear hw1 f0 f1 f2 f3
            go_quiet (fail)
            go_wp2
            go_ret2
            exact LensPost.no HNO.out ⟨rfl, HB1.out.drewN nq⟩
          have d2 : decide (l < 0) = false := by simpa using g2
          obtain ⟨m, rfl⟩ : ∃ m : Nat, l = (m : Int) := ⟨l.toNat, by omega⟩
          by_cases g3 : k ≤ m
          · have d3 : decide ((k : Int) ≤ (m : Int)) = true := by simpa using g3
            have d3b : decide (k ≤ m) = true := by simpa using g3
            have HNO := Lib.hid (HLX.out (lenOf_bad (nodeB_no_join hword rfl (by simp only; rw [HKL.out]; omega))))
            clear hword
            go_wp2
            have c0 := C0.out
            have c1 := C1.out
            have c2 := C2.out
            have c3 := C3.out
            generalize hw1 : wr.alloc (Obj.cells #[Value.string ⟨#[]⟩, Value.int IntKind.i64 (m : Int), Value.int IntKind.i64 q, Value.int IntKind.i64 0] 68) = w1 at *
            have HW1 := Lib.hid hw1
            clear hw1 f0 f1 f2 f3
            go_quiet (fail)
            go_wp2
            go_ret2
            exact LensPost.no HNO.out ⟨rfl, HB1.out.drewN nq⟩
          have d3 : decide ((k : Int) ≤ (m : Int)) = false := by simpa using g3
          have d3b : decide (k ≤ m) = false := by simpa using g3
          by_cases g4 : q < 0
          · have d4 : decide (q < 0) = true := by simpa using g4
            have HNO := Lib.hid (HLX.out (lenOf_bad (nodeB_no_join hword rfl (by simp only; rw [HKL.out]; omega))))
            clear hword
            go_wp2
            have c0 := C0.out
            have c1 := C1.out
            have c2 := C2.out
            have c3 := C3.out
            generalize hw1 : wr.alloc (Obj.cells #[Value.string ⟨#[]⟩, Value.int IntKind.i64 (m : Int), Value.int IntKind.i64 q, Value.int IntKind.i64 0] 68) = w1 at *
            have HW1 := Lib.hid hw1
            clear hw1 f0 f1 f2 f3
            go_quiet (fail)
            go_wp2
            go_ret2
            exact LensPost.no HNO.out ⟨rfl, HB1.out.drewN nq⟩
          have d4 : decide (q < 0) = false := by simpa using g4
          obtain ⟨p, rfl⟩ : ∃ p : Nat, q = (p : Int) := ⟨q.toNat, by omega⟩
          by_cases g5 : k ≤ p
          · have d5 : decide ((k : Int) ≤ (p : Int)) = true := by simpa using g5
            have d5b : decide (k ≤ p) = true := by simpa using g5
            have HNO := Lib.hid (HLX.out (lenOf_bad (nodeB_no_join hword rfl (by simp only; rw [HKL.out]; omega))))
            clear hword
            go_wp2
            have c0 := C0.out
            have c1 := C1.out
            have c2 := C2.out
            have c3 := C3.out
            generalize hw1 : wr.alloc (Obj.cells #[Value.string ⟨#[]⟩, Value.int IntKind.i64 (m : Int), Value.int IntKind.i64 (p : Int), Value.int IntKind.i64 0] 68) = w1 at *
            have HW1 := Lib.hid hw1
            clear hw1 f0 f1 f2 f3
            go_quiet (fail)
            go_wp2
            go_ret2
            exact LensPost.no HNO.out ⟨rfl, HB1.out.drewN nq⟩
          have d5 : decide ((k : Int) ≤ (p : Int)) = false := by simpa using g5
          have d5b : decide (k ≤ p) = false := by simpa using g5
          obtain ⟨g, rfl, hcm⟩ := HCELL.out m (by omega)
          obtain ⟨g', hg', hcp⟩ := HCELL.out p (by omega)
          obtain rfl : g = g' := by cases hg'; rfl
          have HCM := Lib.hid hcm
          have HCP := Lib.hid hcp
          have hv := okL_get HOK.out (i := m) (by rw [HKL.out]; omega)
          have hu := okL_get HOK.out (i := p) (by rw [HKL.out]; omega)
          have HLO := Lib.hid (lenOf_join (L := L) (x := ⟨⟨#[]⟩, (m : Int), (p : Int), 0⟩) (nodeB_yes_join hword rfl (by simp only; omega) (by simp only; rw [HKL.out]; omega) (by simp only; omega) (by simp only; rw [HKL.out]; omega)) hword rfl)
          simp only [Int.toNat_natCast] at HLO
          clear hcm hcp hg' hword
          obtain ⟨v, hve⟩ : ∃ v : Nat, L.getD m 0 = v := ⟨_, rfl⟩
          obtain ⟨u, hue⟩ : ∃ u : Nat, L.getD p 0 = u := ⟨_, rfl⟩
          rw [hve] at HCM HLO hv
          rw [hue] at HCP HLO hu
          have HVE := Lib.hid hve
          clear hve hue
          have hw9 : IntKind.i64.wrap (1152921504606846976 - (u : Int)) = 1152921504606846976 - (u : Int) := IntWalk.i64_in _ (by omega)
          by_cases g6 : (v : Int) + (u : Int) ≤ 1152921504606846976
          case neg =>
            have d6 : decide (1152921504606846976 - (u : Int) < (v : Int)) = true := by simp; omega
            rw [if_neg g6] at HLO
            have HNO := Lib.hid (HLX.out HLO.out)
            go_wp2
            have cm := HCM.out
            have cp := HCP.out
            have c0 := C0.out
            have c1 := C1.out
            have c2 := C2.out
            have c3 := C3.out
            generalize hw1 : wr.alloc (Obj.cells #[Value.string ⟨#[]⟩, Value.int IntKind.i64 (m : Int), Value.int IntKind.i64 (p : Int), Value.int IntKind.i64 0] 68) = w1 at *
            have HW1 := Lib.hid hw1
            clear hw1 f0 f1 f2 f3
            go_quiet (fail)
            go_wp2
            go_ret2
            exact LensPost.no HNO.out ⟨rfl, HB1.out.drewN nq⟩
          case pos =>
            have d6 : decide (1152921504606846976 - (u : Int) < (v : Int)) = false := by simp; omega
            rw [if_pos g6] at HLO
            go_wp2
            have cm := HCM.out
            have cp := HCP.out
            have c0 := C0.out
            have c1 := C1.out
            have c2 := C2.out
            have c3 := C3.out
            generalize hw1 : wr.alloc (Obj.cells #[Value.string ⟨#[]⟩, Value.int IntKind.i64 (m : Int), Value.int IntKind.i64 (p : Int), Value.int IntKind.i64 0] 68) = w1 at *
            have HW1 := Lib.hid hw1
            clear hw1 f0 f1 f2 f3
            go_quiet (fail)
            go_wp2
            generalize hq9 : nq = q1 at *
            clear hq9
            have c1' : (w1.drewN q1).cell? ⟨wr.heap.size, 1, none⟩ = some (.int .i64 (m : Int)) := c1
            have c2' : (w1.drewN q1).cell? ⟨wr.heap.size, 2, none⟩ = some (.int .i64 (p : Int)) := c2
            have cm' : (w1.drewN q1).cell? ⟨g, m, none⟩ = some (.int .i64 (v : Int)) := cm
            have cp' : (w1.drewN q1).cell? ⟨g, p, none⟩ = some (.int .i64 (u : Int)) := cp
            have HB2 := Lib.hid (HB1.out.drewN q1)
            have HO2 := Lib.hid (show (w1.drewN q1).ownsRow w.heap.size 3 1 (.slice (some ⟨g, 0, none⟩) k cap) k (ir (nl L)) from HO1.out)
            clear c0 c1 c2 c3 cm cp hw9
            have hw8 : IntKind.i64.wrap ((v : Int) + (u : Int)) = (v : Int) + (u : Int) := IntWalk.i64_in _ (by omega)
            generalize w1.drewN q1 = w2 at *
            go_quiet (fail)
            clear hw8
            go_wp2_with (at_builtin; refine append_int (w2.drewN nq) rfl (.tmp 134) (.tmp 136) rfl w.heap.size (some ⟨g, 0, none⟩) k cap (nl L) ((v : Int) + (u : Int)) rfl (show (w2.drewN nq).ownsRow _ _ _ _ _ _ from HO2.out) _ rfl rfl (by omega) HB2.out.size ?_; intro A' cap' w3 hown2 hb2; have H2 := Lib.hid hown2; have B2 := Lib.hid hb2; clear hown2 hb2)
            go_roundw
            case rel => exact ⟨k + 1, L ++ [v + u], A', cap', by omega, by simp [HKL.out], fun m hm => (by rcases List.mem_append.1 hm with hm | hm; exact HOK.out m hm; simp at hm; subst hm; exact lenOf_ok HOK.out HLO.out), by go_num, by rw [HTK.out]; simp [stepL, HLO.out], rfl, by rw [nl_append]; simp only [nl, List.map_cons, List.map_nil, Int.natCast_add]; exact H2.out, (HB2.out.drewN nq).trans B2.out⟩
            case measure => simp [intOf]; omega
    · have hk' : k = r.length := by omega
      subst hk'
      rw [List.take_of_length_le (Nat.le_refl _)] at hlen
      have hlens : lens r = some L := by unfold lens; rw [if_pos hn]; exact hlen
      have HLENS := Lib.hid hlens
      clear hlens hlen hkL hok hb hown
      go_wp2
      go_ret2
      refine ⟨fun M hM => ?_, fun hno => by rw [HLENS.out] at hno; cases hno⟩
      rw [HLENS.out] at hM
      cases hM
      exact ⟨A, cap, by rw [HKL.out]; rfl, by rw [HKL.out]; exact HO.out, HB.out⟩
end Go.Proofs.YtgklmcinbaghmaaGreatDoor
