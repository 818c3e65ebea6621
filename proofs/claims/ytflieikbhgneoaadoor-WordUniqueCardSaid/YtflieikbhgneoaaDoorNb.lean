/-
  Our own text, in the proofs of the laws of package word (cayleylaw01). Proved here: Edited returns the word behind the edits. Conditions: the row of edits lies in old memory as its cells say; at most 200 edits, a word of at most 1000 letters.
-/
import Derived.Test.YtflieikbhgneoaaDoorNa
namespace Go.Proofs.YtflieikbhgneoaaDoor
open Go Go.RowKit

/-- The row of edits, cell by cell. -/
def EdAt (w : World) (a : Addr) (l : List Ed) : Prop :=
  ∀ i (h : i < l.length), w.cell? (a.add (i * 3)) = some (.int .i64 l[i].at_) ∧ w.cell? ⟨(a.add (i * 3)).block, (a.add (i * 3)).off + 1, none⟩ = some (.int .i64 l[i].lt) ∧ w.cell? ⟨(a.add (i * 3)).block, (a.add (i * 3)).off + 2, none⟩ = some (.bool l[i].rm)

theorem cut_list (S : ByteArray) (i j : Nat) (h : j = S.size) : (S.extract i j).data.toList = S.data.toList.drop i := by
  subst h
  simp [ByteArray.data_extract, List.extract_eq_take_drop]
  apply List.take_of_length_le
  simp
theorem cut_head (S : ByteArray) (j : Nat) : (S.extract 0 j).data.toList = S.data.toList.take j := by
  simp [ByteArray.data_extract, List.extract_eq_take_drop]
theorem app_list (a b : ByteArray) : (a ++ b).data.toList = a.data.toList ++ b.data.toList := by simp [ByteArray.data_append]

theorem getD_ba' (s : ByteArray) (k : Nat) (h : k < s.size) : s.data.toList.getD k 0 = s[k] := by
  have : k < s.data.toList.length := by simpa using h
  simp only [List.getD, List.getElem?_eq_getElem this]
  rfl

set_option maxHeartbeats 4000000 in
set_option maxRecDepth 100000 in
theorem edited_any (a : Addr) (cap : Nat) (l : List Ed) (s : ByteArray) (w : World) (hl : l.length ≤ 200) (hs : s.size ≤ 1000) (hw : s.data.toList.all (letterB 8) = true) (hE : EdAt w a l) :
    Calls Tryd.prog 13 #[.string s, .slice (some a) l.length cap] w fun e w' => e = .returned (.string ⟨(edited s.data.toList l).toArray⟩) ∧ Below w.heap.size w w' := by
  have HE := Lib.hid hE
  have HW := Lib.hid hw
  clear hE hw
  go_enter Tryd.func13, Tryd.ntmps13
  go_wp2
  go_loopw [0, 5, 6] (fun p i _ wr => ∃ (n : Nat) (S : ByteArray), n ≤ l.length ∧ p = .string S ∧ i = .int .i64 (n : Int) ∧ edited S.data.toList (l.drop n) = edited s.data.toList l ∧ S.size ≤ 1000 + 2 * n ∧ S.data.toList.all (letterB 8) = true ∧ Below w.heap.size w wr)
    (fun _ i _ _ => l.length - (intOf i).toNat)
  case atStart => exact ⟨0, s, Nat.zero_le _, rfl, rfl, rfl, by omega, HW.out, Below.refl _ w⟩
  case round =>
    obtain ⟨n, S, hn, rfl, rfl, hed, hlen, hall, hb⟩ := hrel
    by_cases hlt : n < l.length
    · obtain ⟨e0, e1, e2⟩ := HE.out n hlt
      have hd : l.drop n = l[n] :: l.drop (n + 1) := List.drop_eq_getElem_cons hlt
      rw [hd] at hed
      have hed2 : edited (stepE S.data.toList l[n]) (l.drop (n + 1)) = edited s.data.toList l := hed
      have hal2 := stepE_all hall l[n]
      have hle2 := stepE_len S.data.toList l[n]
      have HED := Lib.hid hed2
      have HALL := Lib.hid hall
      have HAL2 := Lib.hid hal2
      have HB := Lib.hid hb
      clear hed hd hed2 hall hb hal2
      generalize l[n] = x at *
      obtain ⟨at_, lt, rm⟩ := x
      simp only at e0 e1 e2
      have f0 : wr.cell? (a.add (n * 3)) = some (.int .i64 at_) := (HB.out.cell (lt_of_cell e0)).trans e0
      have f1 : wr.cell? ⟨(a.add (n * 3)).block, (a.add (n * 3)).off + 1, none⟩ = some (.int .i64 lt) := (HB.out.cell (lt_of_cell e1)).trans e1
      have f2 : wr.cell? ⟨(a.add (n * 3)).block, (a.add (n * 3)).off + 2, none⟩ = some (.bool rm) := (HB.out.cell (lt_of_cell e2)).trans e2
      clear e0 e1 e2
      have hB1 := HB.out.alloc HB.out.size (.cells #[.int .i64 at_, .int .i64 lt, .bool rm] 51)
      have hblk : (wr.alloc (.cells #[.int .i64 at_, .int .i64 lt, .bool rm] 51)).heap[wr.heap.size]? = some (.cells #[.int .i64 at_, .int .i64 lt, .bool rm] 51 (0, 0)) := heap_alloc_new wr _
      have c0 : (wr.alloc (.cells #[.int .i64 at_, .int .i64 lt, .bool rm] 51)).cell? ⟨wr.heap.size, 0, none⟩ = some (.int .i64 at_) := cell_of_row _ wr.heap.size 0 _ 51 (0, 0) hblk
      have c1 : (wr.alloc (.cells #[.int .i64 at_, .int .i64 lt, .bool rm] 51)).cell? ⟨wr.heap.size, 1, none⟩ = some (.int .i64 lt) := cell_of_row _ wr.heap.size 1 _ 51 (0, 0) hblk
      have c2 : (wr.alloc (.cells #[.int .i64 at_, .int .i64 lt, .bool rm] 51)).cell? ⟨wr.heap.size, 2, none⟩ = some (.bool rm) := cell_of_row _ wr.heap.size 2 _ 51 (0, 0) hblk
      have HB1 := Lib.hid hB1
      clear hB1 hblk
      have C0 := Lib.hid c0
      have C1 := Lib.hid c1
      have C2 := Lib.hid c2
      clear c0 c1 c2
      cases rm with
      | true =>
        by_cases hA : at_ < 0
        · have hst : stepE S.data.toList ⟨at_, lt, true⟩ = S.data.toList := by
            have : remB S.data.toList ⟨at_, lt, true⟩ = false := by unfold remB; simp; omega
            simp [stepE, this]
          rw [hst] at HED hle2
          have HED2 := Lib.hid HED.out
          clear hst HED
          have hA' : decide (0 ≤ at_) = false := by simpa using hA
          go_wp2
          have c0 := C0.out
          generalize hw1 : wr.alloc (Obj.cells #[Value.int IntKind.i64 at_, Value.int IntKind.i64 lt, Value.bool true] 51) = w1 at *
          have HW1 := Lib.hid hw1
          clear hw1 f0 f1 f2
          go_quiet (fail)
          go_wp2
          go_roundw
          case rel => exact ⟨n + 1, S, by omega, rfl, by go_num, HED2.out, by omega, HALL.out, HB1.out.drewN nq⟩
          case measure => simp [intOf]; omega
        · have hA' : decide (0 ≤ at_) = true := by simp; omega
          by_cases hC : at_ < (S.size : Int) - 1
          · obtain ⟨m, rfl⟩ : ∃ m : Nat, at_ = (m : Int) := ⟨at_.toNat, by omega⟩
            have hm1 : m + 1 < S.size := by omega
            have hm0 : m < S.size := by omega
            have hC' : decide ((m : Int) < (S.size : Int) - 1) = true := by simpa using hC
            have hw2 : IntKind.i64.wrap ((S.size : Int) - 1) = (S.size : Int) - 1 := IntWalk.i64_in _ (by omega)
            obtain ⟨m1, he1⟩ : ∃ m1, m1 = m + 1 := ⟨_, rfl⟩
            have hm2 : m1 < S.size := by omega
            have hw3 : IntKind.i64.wrap ((m : Int) + 1) = (m1 : Int) := by rw [he1]; exact IntWalk.i64_in _ (by omega)
            have hrem : remB S.data.toList ⟨m, lt, true⟩ = decide (S[m] = otherc S[m1]) := by
              have e1 := getD_ba' S m hm0
              have e2 : S.data.toList.getD (m + 1) 0 = S[m1] := by rw [← he1]; exact getD_ba' S m1 hm2
              unfold remB
              simp only [Int.toNat_natCast, e1, e2, show S.data.toList.length = S.size by simp, hC', hA']
              rfl
            have hst : stepE S.data.toList ⟨m, lt, true⟩ = if S[m] = otherc S[m1] then S.data.toList.take m ++ S.data.toList.drop (m + 2) else S.data.toList := by
              simp [stepE, hrem]
            have hq := u8_eqs S[m] (otherc S[m1])
            have hO := fun (w : World) (n : Nat) => Calls.quiet_of_same ((rOther_any S[m1] (w.drewN n)).mono fun _ _ h => ⟨h.1, h.2.symm⟩)
            rw [hst] at HED hle2
            by_cases hcc : S[m] = otherc S[m1]
            · rw [if_pos hcc] at HED hle2
              have hq2 : ((S[m].toNat : Int) == ((otherc S[m1]).toNat : Int)) = true := by rw [hq]; simpa using hcc
              obtain ⟨T, hT⟩ : ∃ T : ByteArray, T = S.extract 0 m ++ S.extract (m + 2) S.size := ⟨_, rfl⟩
              have hTd : T.data.toList = S.data.toList.take m ++ S.data.toList.drop (m + 2) := by
                rw [hT, app_list, cut_head, cut_list _ _ _ rfl]
              rw [← hTd] at HED hle2
              have HALT : Hid (T.data.toList.all (letterB 8) = true) := by
                have := HAL2.out
                rw [hst, if_pos hcc, ← hTd] at this
                exact Lib.hid this
              have hTs : T.size ≤ S.size := by
                have : T.data.toList.length = T.size := by simp
                rw [← this, hTd, List.length_append, List.length_take, List.length_drop]
                simp; omega
              obtain ⟨m2, he2⟩ : ∃ m2, m2 = m + 2 := ⟨_, rfl⟩
              rw [← he2] at hT
              have hm3 : m2 ≤ S.size := by omega
              have hw4 : IntKind.i64.wrap ((m : Int) + 2) = (m2 : Int) := by rw [he2]; exact IntWalk.i64_in _ (by omega)
              have HED2 := Lib.hid HED.out
              have HO := Lib.hid hO
              have HT := Lib.hid hT
              clear hst hrem hq hcc hO HED he1 hm1 hTd hT he2
              go_wp2
              have c0 := C0.out
              generalize hw1 : wr.alloc (Obj.cells #[Value.int IntKind.i64 m, Value.int IntKind.i64 lt, Value.bool true] 51) = w1 at *
              have HW1 := Lib.hid hw1
              clear hw1 f0 f1 f2
              go_quiet ((go_at_call 12; exact HO.out _ _))
              go_wp2
              generalize hq1 : nq = q1 at *
              clear hq1
              have c0' : (w1.drewN q1).cell? ⟨wr.heap.size, 0, none⟩ = some (.int .i64 m) := c0
              have HB2 := Lib.hid (HB1.out.drewN q1)
              clear c0
              generalize w1.drewN q1 = w2 at *
              go_quiet (fail)
              go_wp2
              go_roundw
              case rel => exact ⟨n + 1, T, by omega, by rw [HT.out], by go_num, HED2.out, by omega, HALT.out, HB2.out.drewN nq⟩
              case measure => simp [intOf]; omega
            · rw [if_neg hcc] at HED hle2
              have hq2 : ((S[m].toNat : Int) == ((otherc S[m1]).toNat : Int)) = false := by rw [hq]; simpa using hcc
              have HED2 := Lib.hid HED.out
              have HO := Lib.hid hO
              clear hst hrem hq hcc hO HED he1 hm1
              go_wp2
              have c0 := C0.out
              generalize hw1 : wr.alloc (Obj.cells #[Value.int IntKind.i64 m, Value.int IntKind.i64 lt, Value.bool true] 51) = w1 at *
              have HW1 := Lib.hid hw1
              clear hw1 f0 f1 f2
              go_quiet ((go_at_call 12; exact HO.out _ _))
              go_wp2
              go_roundw
              case rel => exact ⟨n + 1, S, by omega, rfl, by go_num, HED2.out, by omega, HALL.out, HB1.out.drewN nq⟩
              case measure => simp [intOf]; omega
          · have hst : stepE S.data.toList ⟨at_, lt, true⟩ = S.data.toList := by
              have : remB S.data.toList ⟨at_, lt, true⟩ = false := by unfold remB; simp; omega
              simp [stepE, this]
            rw [hst] at HED hle2
            have HED2 := Lib.hid HED.out
            clear hst HED
            have hC' : decide (at_ < (S.size : Int) - 1) = false := by simpa using hC
            have hw2 : IntKind.i64.wrap ((S.size : Int) - 1) = (S.size : Int) - 1 := IntWalk.i64_in _ (by omega)
            clear hC hA
            go_wp2
            have c0 := C0.out
            generalize hw1 : wr.alloc (Obj.cells #[Value.int IntKind.i64 at_, Value.int IntKind.i64 lt, Value.bool true] 51) = w1 at *
            have HW1 := Lib.hid hw1
            clear hw1 f0 f1 f2
            go_quiet (fail)
            go_wp2
            go_roundw
            case rel => exact ⟨n + 1, S, by omega, rfl, by go_num, HED2.out, by omega, HALL.out, HB1.out.drewN nq⟩
            case measure => simp [intOf]; omega
      | false =>
        by_cases hA : 0 ≤ at_
        · by_cases hC : at_ ≤ (S.size : Int)
          · by_cases hL : 0 ≤ lt ∧ lt < 16
            · obtain ⟨m, rfl⟩ : ∃ m : Nat, at_ = (m : Int) := ⟨at_.toNat, by omega⟩
              have hm0 : m ≤ S.size := by omega
              obtain ⟨hL0, hL1⟩ := hL
              have hlet := let_letter hL0 hL1
              have hix := let_idx lt hL0 hL1
              have hol := otherc_let (let_ lt) (by rw [hix]; exact hL0)
              rw [hix] at hol
              have hst : stepE S.data.toList ⟨m, lt, false⟩ = S.data.toList.take m ++ let_ lt :: invc (let_ lt) :: S.data.toList.drop m := by
                have : insB S.data.toList ⟨m, lt, false⟩ = true := by
                  unfold insB
                  simp only [show S.data.toList.length = S.size by simp]
                  simp; omega
                simp [stepE, this]
              rw [hst] at HED hle2
              have hO1 := fun w => rLetter_any lt w hL0 hL1
              have hO2 := fun w => rLetter_any (bits BinOp.xor IntKind.i64 lt 1) w hol.1 hol.2.1
              rw [hol.2.2] at hO2
              obtain ⟨lx, hbx⟩ : ∃ lx, bits BinOp.xor IntKind.i64 lt 1 = lx := ⟨_, rfl⟩
              rw [hbx] at hO2
              have hnz : (((let_ lt).toNat : Int) == 0) = false := by
                have hz : ∀ n : Nat, n < 16 → ((let_ (n : Int)).toNat == 0) = false := by decide +kernel
                have := hz lt.toNat (by omega)
                rw [show ((lt.toNat : Nat) : Int) = lt by omega] at this
                simp only [beq_eq_false_iff_ne] at this ⊢
                omega
              have h128 : ∀ n : Nat, n < 16 → (let_ (n : Int)).toNat < 128 ∧ (invc (let_ (n : Int))).toNat < 128 := by decide +kernel
              have h128' := h128 lt.toNat (by omega)
              rw [show ((lt.toNat : Nat) : Int) = lt by omega] at h128'
              have henc := encode_byte _ h128'.1
              have henc2 := encode_byte _ h128'.2
              have HALT := HAL2.out
              rw [hst] at HALT
              generalize let_ lt = c at *
              have hcv1 : ∀ w, (convert 5 9 (.int .u8 (c.toNat : Int))).run Tryd.prog w = .ok (.string ⟨#[c]⟩) w := fun w => by
                rw [run_convert_int_string w 5 9 .u8 _ (by rw [Tryd.underlying5]; rfl) Tryd.underlying9, henc]
              have hcv2 : ∀ w, (convert 5 9 (.int .u8 ((invc c).toNat : Int))).run Tryd.prog w = .ok (.string ⟨#[invc c]⟩) w := fun w => by
                rw [run_convert_int_string w 5 9 .u8 _ (by rw [Tryd.underlying5]; rfl) Tryd.underlying9, henc2]
              obtain ⟨T, hT⟩ : ∃ T : ByteArray, T = S.extract 0 m ++ ⟨#[c]⟩ ++ ⟨#[invc c]⟩ ++ S.extract m S.size := ⟨_, rfl⟩
              have hTd : T.data.toList = S.data.toList.take m ++ c :: invc c :: S.data.toList.drop m := by
                rw [hT, app_list, app_list, app_list, cut_head, cut_list _ _ _ rfl]; simp
              rw [← hTd] at HED hle2 HALT
              have hTs : T.size ≤ S.size + 2 := by simpa using hle2
              have HALT2 := Lib.hid HALT
              have HED2 := Lib.hid HED.out
              have HT := Lib.hid hT
              have H1 := Lib.hid hO1
              have H2 := Lib.hid (fun (w : World) (n : Nat) => Calls.quiet_of_same ((hO1 (w.drewN n)).mono fun _ _ h => ⟨h.1, h.2.symm⟩))
              have H3 := Lib.hid (fun (w : World) (n : Nat) => Calls.quiet_of_same ((hO2 (w.drewN n)).mono fun _ _ h => ⟨h.1, h.2.symm⟩))
              clear hst HED HALT hT hTd hO1 hO2 hol hix hlet h128 h128' henc henc2 hle2
              go_wp2_with fail
              refine (H1.out _).mono ?_; rintro e w' ⟨rfl, rfl⟩
              go_wp2
              have c0 := C0.out
              have c1 := C1.out
              generalize hw1 : wr.alloc (Obj.cells #[Value.int IntKind.i64 m, Value.int IntKind.i64 lt, Value.bool false] 51) = w1 at *
              have HW1 := Lib.hid hw1
              clear hw1 f0 f1 f2
              go_quiet ((go_at_call 31; first | with_reducible exact H2.out _ _ | with_reducible exact H3.out _ _))
              go_wp2
              go_roundw
              case rel => exact ⟨n + 1, T, by omega, by rw [HT.out], by go_num, HED2.out, by omega, HALT2.out, HB1.out.drewN nq⟩
              case measure => simp [intOf]; omega
            · have hst : stepE S.data.toList ⟨at_, lt, false⟩ = S.data.toList := by
                have : insB S.data.toList ⟨at_, lt, false⟩ = false := by unfold insB; simp; omega
                simp [stepE, this]
              rw [hst] at HED hle2
              have HED2 := Lib.hid HED.out
              have hO := fun w => rLetter_out lt w (by omega)
              have HO := Lib.hid hO
              clear hst HED hO hL
              go_wp2_with fail
              refine (HO.out _).mono ?_; rintro e w' ⟨rfl, rfl⟩
              go_wp2
              go_roundw
              case rel => exact ⟨n + 1, S, by omega, rfl, by go_num, HED2.out, by omega, HALL.out, HB1.out⟩
              case measure => simp [intOf]; omega
          · have hst : stepE S.data.toList ⟨at_, lt, false⟩ = S.data.toList := by
              have : insB S.data.toList ⟨at_, lt, false⟩ = false := by unfold insB; simp; omega
              simp [stepE, this]
            rw [hst] at HED hle2
            have HED2 := Lib.hid HED.out
            clear hst HED
            go_wp2
            go_roundw
            case rel => exact ⟨n + 1, S, by omega, rfl, by go_num, HED2.out, by omega, HALL.out, HB1.out⟩
            case measure => simp [intOf]; omega
        · have hst : stepE S.data.toList ⟨at_, lt, false⟩ = S.data.toList := by
            have : insB S.data.toList ⟨at_, lt, false⟩ = false := by unfold insB; simp; omega
            simp [stepE, this]
          rw [hst] at HED hle2
          have HED2 := Lib.hid HED.out
          clear hst HED
          go_wp2
          go_roundw
          case rel => exact ⟨n + 1, S, by omega, rfl, by go_num, HED2.out, by omega, HALL.out, HB1.out⟩
          case measure => simp [intOf]; omega
    · obtain rfl : n = l.length := by omega
      have HED := Lib.hid hed
      have HB := Lib.hid hb
      clear hed hb hall
      go_wp2
      go_ret
      exact ⟨by rw [← HED.out]; simp [edited], HB.out⟩
end Go.Proofs.YtflieikbhgneoaaDoor
