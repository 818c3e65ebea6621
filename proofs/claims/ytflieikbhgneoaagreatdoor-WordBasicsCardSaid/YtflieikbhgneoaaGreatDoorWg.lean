/-
  Our own text, in the proofs of the laws of package word (cayleylaw01). Proved here: Compare returns shortlex. Conditions: the arguments read as the row says and the listed tables lie as the program lays them; none other.
-/
import Derived.Test.YtflieikbhgneoaaGreatDoorWf
namespace Go.Proofs.YtflieikbhgneoaaGreatDoor
open Go Go.RowKit

def lexI : List UInt8 → List UInt8 → Int
  | c :: u, d :: v => if c = d then lexI u v else Lib.compareInt (idx c) (idx d)
  | _, _ => 0
def cmpW (u v : List UInt8) : Int :=
  if isW u = true ∧ isW v = true then (if u.length = v.length then lexI u v else Lib.compareInt u.length v.length) else 0

theorem lexI_drop (s t : ByteArray) (k : Nat) (h : k < s.size) (h2 : s.size = t.size) :
    lexI (s.data.toList.drop k) (t.data.toList.drop k) = if s[k] = t[k] then lexI (s.data.toList.drop (k + 1)) (t.data.toList.drop (k + 1)) else Lib.compareInt (idx s[k]) (idx t[k]) := by
  have h1 : k < s.data.toList.length := by simpa using h
  have h2 : k < t.data.toList.length := by simp; omega
  rw [List.drop_eq_getElem_cons h1, List.drop_eq_getElem_cons h2]
  rfl


theorem index_quiet (c : UInt8) (w : World) (ht : Tabs w) (n : Nat) :
    Calls Tryz.prog 9 #[.int .u8 c.toNat] (w.drewN n) fun e w'' => e = .returned (.int .i64 (idx c)) ∧ ∃ m, w'' = w.drewN m :=
  Calls.quiet_of_same ((index_any c (w.drewN n) (ht.drewN n)).mono fun _ _ h => ⟨h.1, h.2.symm⟩)

theorem compare_quiet (x y : Int) (w : World) (n : Nat) :
    Calls Tryz.prog 39 #[.int .i64 x, .int .i64 y] (w.drewN n) fun e w'' => e = .returned (.int .i64 (Lib.compareInt x y)) ∧ ∃ m, w'' = w.drewN m :=
  Calls.quiet_of_same (Tryz.cmp_Compare_int x y (w.drewN n))

set_option maxHeartbeats 400000 in
set_option maxRecDepth 100000 in
theorem Compare_any (s t : ByteArray) (w : World) (ht : Tabs w) (hs : s.size ≤ maxLen) (hs2 : t.size ≤ maxLen) :
    Calls Tryz.prog 17 #[.string s, .string t] w fun e w' => e = .returned (.int .i64 (cmpW s.data.toList t.data.toList)) ∧ ∃ n, w' = w.drewN n := by
  have hI := isWord_any s w ht hs
  have hJ := isWord_any t w ht hs2
  have ht0 := ht
  unfold maxLen at hs hs2
  cases h1 : isW s.data.toList with
  | false =>
    rw [h1] at hI
    have HR : Hid (cmpW s.data.toList t.data.toList = 0) := Lib.hid (by simp [cmpW, h1])
    clear h1 ht
    go_enter Tryz.func17, Tryz.ntmps17
    go_wp2_with (go_at_call 35; refine hI.mono ?_; rintro e w' ⟨rfl, rfl⟩)
    go_ret
    exact ⟨by rw [HR.out]; rfl, 0, rfl⟩
  | true =>
  cases h2 : isW t.data.toList with
  | false =>
    rw [h1] at hI
    rw [h2] at hJ
    have HR : Hid (cmpW s.data.toList t.data.toList = 0) := Lib.hid (by simp [cmpW, h2])
    clear h1 h2 ht
    go_enter Tryz.func17, Tryz.ntmps17
    go_wp2_with fail
    refine hI.mono ?_; rintro e w' ⟨rfl, rfl⟩
    go_wp2_with fail
    refine hJ.mono ?_; rintro e w' ⟨rfl, rfl⟩
    go_wp2
    go_ret
    exact ⟨by rw [HR.out]; rfl, 0, rfl⟩
  | true =>
  rw [h1] at hI
  rw [h2] at hJ
  by_cases hl : s.size = t.size
  · have HR : Hid (cmpW s.data.toList t.data.toList = lexI (s.data.toList.drop 0) (t.data.toList.drop 0)) := Lib.hid (by simp [cmpW, h1, h2, hl])
    have hd : ((s.size : Int) == (t.size : Int)) = true := by simp [hl]
    have HL := Lib.hid hl
    clear h1 h2 hl
    have hle : s.size ≤ t.size := Nat.le_of_eq HL.out
    have hdn : ((s.size : Int) != (t.size : Int)) = false := by rw [bne, hd]; rfl
    go_enter Tryz.func17, Tryz.ntmps17
    go_wp2_with fail
    refine hI.mono ?_; rintro e w' ⟨rfl, rfl⟩
    go_wp2_with fail
    refine hJ.mono ?_; rintro e w' ⟨rfl, rfl⟩
    go_wp2
    go_outline
    go_loopw [26] (fun i wr => ∃ k n : Nat, k ≤ s.size ∧ i = .int .i64 k ∧ lexI (s.data.toList.drop 0) (t.data.toList.drop 0) = lexI (s.data.toList.drop k) (t.data.toList.drop k) ∧ wr = w.drewN n)
      (fun i _ => s.size - (intOf i).toNat)
    case atStart => exact ⟨0, 0, Nat.zero_le _, rfl, rfl, rfl⟩
    case round =>
      obtain ⟨k, n, hk, rfl, hlex, rfl⟩ := hrel
      have htn : Tabs (w.drewN n) := ht.drewN n
      by_cases hlt : k < s.size
      · have hlt2 : k < t.size := by omega
        have hd := lexI_drop s t k hlt HL.out
        rw [hd] at hlex
        clear hd
        have HQ1 := Lib.hid (index_quiet s[k] (w.drewN n) htn)
        have HQ2 := Lib.hid (index_quiet t[k] (w.drewN n) htn)
        have HQ3 := Lib.hid (compare_quiet (idx s[k]) (idx t[k]) (w.drewN n))
        clear ht htn hI hJ
        by_cases he : s[k] = t[k]
        · rw [if_pos he] at hlex
          have HX := Lib.hid hlex
          have hb : ((s[k].toNat : Int) != (t[k].toNat : Int)) = false := by simp [he]
          have hb2 : ((s[k].toNat : Int) == (t[k].toNat : Int)) = true := by simp [he]
          clear he hlex
          go_wp2
          go_quiet (fail)
          go_wp2
          go_roundw
          case rel => exact ⟨k + 1, n + nq, by omega, by go_num, HX.out, rfl⟩
          case measure => simp [intOf]; omega
        · rw [if_neg he] at hlex
          have HX := Lib.hid hlex
          have hne : s[k].toNat ≠ t[k].toNat := fun h => he (UInt8.toNat_inj.1 h)
          have hb2 : ((s[k].toNat : Int) == (t[k].toNat : Int)) = false := by rw [beq_eq_false_iff_ne]; omega
          have hb : ((s[k].toNat : Int) != (t[k].toNat : Int)) = true := by rw [bne, hb2]; rfl
          clear he hlex hne
          go_wp2
          go_quiet (fail)
          go_wp2
          generalize hq1 : nq = q1 at *
          clear hq1
          have ht2 : Tabs ((w.drewN n).drewN q1) := (ht0.drewN _).drewN _
          generalize hw2 : (w.drewN n).drewN q1 = w2 at *
          have HW2 := Lib.hid hw2
          have H4 := Lib.hid ht2
          have H6 := Lib.hid (compare_quiet (idx s[k]) (idx t[k]) w2)
          clear hw2 ht2 ht0
          go_quiet (first | (go_at_call 9; exact index_quiet _ w2 H4.out _) | (go_at_call 39; exact H6.out _))
          go_wp2
          go_ret
          exact ⟨by rw [HR.out, HX.out]; rfl, n + q1 + nq, by rw [← HW2.out]; simp only [World.drewN_drewN, Nat.add_assoc]⟩
      · have hk' : k = s.size := by omega
        subst hk'
        have hz : lexI (s.data.toList.drop s.size) (t.data.toList.drop s.size) = 0 := by
          rw [List.drop_eq_nil_of_le (by simp)]; rfl
        rw [hz] at hlex
        have HX := Lib.hid hlex
        clear hz hlex ht htn hI hJ
        go_wp2
        go_ret
        exact ⟨by rw [HR.out, HX.out]; rfl, n, rfl⟩
  · have HR : Hid (cmpW s.data.toList t.data.toList = Lib.compareInt s.size t.size) := Lib.hid (by simp [cmpW, h1, h2, hl])
    have hd : ((s.size : Int) == (t.size : Int)) = false := by rw [beq_eq_false_iff_ne]; omega
    have hdn : ((s.size : Int) != (t.size : Int)) = true := by rw [bne, hd]; rfl
    have hC := Tryz.cmp_Compare_int s.size t.size w
    clear h1 h2 hl ht ht0
    go_enter Tryz.func17, Tryz.ntmps17
    go_wp2_with fail
    refine hI.mono ?_; rintro e w' ⟨rfl, rfl⟩
    go_wp2_with fail
    refine hJ.mono ?_; rintro e w' ⟨rfl, rfl⟩
    go_wp2_with (go_at_call 39; refine hC.mono ?_; rintro e w' ⟨rfl, rfl⟩)
    go_ret
    exact ⟨by rw [HR.out]; rfl, 0, rfl⟩
end Go.Proofs.YtflieikbhgneoaaGreatDoor
