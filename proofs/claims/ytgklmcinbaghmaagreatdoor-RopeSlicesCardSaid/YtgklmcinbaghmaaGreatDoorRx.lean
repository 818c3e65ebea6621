/-
  Our own text, in the proofs of the laws of package rope. Proved here: least, differShort, and Differ at ropes with short words. Conditions: the nodes lie in memory as the slice says; the listed table lies as the program lays it.
-/
import Derived.Test.YtgklmcinbaghmaaGreatDoorRw
namespace Go.Proofs.YtgklmcinbaghmaaGreatDoor
open Go Go.RowKit

set_option maxHeartbeats 1000000 in
theorem least_any (x y : Int) (g : Nat) (w : World) (hc : w.cell? ⟨g, 0, none⟩ = some (.int .i64 y)) :
    Calls Tryz.prog 50 #[.int .i64 x, .slice (some ⟨g, 0, none⟩) 1 1] w fun e w' => e = .returned (.int .i64 (if y < x then y else x)) ∧ w = w' := by
  by_cases h : y < x
  · rw [if_pos h]
    go_enter Tryz.func50, Tryz.ntmps50
    go_wp2
    go_loop [0, 6, 9] (fun z _ i => ∃ k : Nat, k ≤ 1 ∧ i = .int .i64 (k : Int) ∧ z = .int .i64 (if k = 0 then x else y)) (fun _ _ i => 1 - (intOf i).toNat)
    case atStart => exact ⟨0, by omega, rfl, rfl⟩
    case round =>
      obtain ⟨k, hk, rfl, rfl⟩ := hrel
      by_cases hk0 : k = 0
      · subst hk0
        rw [if_pos rfl]
        go_wp2
        go_round
        case rel => exact ⟨1, by omega, by go_num, rfl⟩
        case measure => simp [intOf]
      · obtain rfl : k = 1 := by omega
        rw [if_neg (by omega)]
        go_wp2
        go_ret
        exact ⟨rfl, rfl⟩
  · rw [if_neg h]
    go_enter Tryz.func50, Tryz.ntmps50
    go_wp2
    go_loop [0, 6, 9] (fun z _ i => ∃ k : Nat, k ≤ 1 ∧ i = .int .i64 (k : Int) ∧ z = .int .i64 x) (fun _ _ i => 1 - (intOf i).toNat)
    case atStart => exact ⟨0, by omega, rfl, rfl⟩
    case round =>
      obtain ⟨k, hk, rfl, rfl⟩ := hrel
      by_cases hk0 : k = 0
      · subst hk0
        go_wp2
        go_round
        case rel => exact ⟨1, by omega, by go_num, rfl⟩
        case measure => simp [intOf]
      · obtain rfl : k = 1 := by omega
        go_wp2
        go_ret
        exact ⟨rfl, rfl⟩

/-- How far two words agree. -/
def difN : List UInt8 → List UInt8 → Nat
  | c :: u, d :: v => if c = d then difN u v + 1 else 0
  | _, _ => 0
/-- What Differ says of two words. -/
def difI (u v : List UInt8) : Int := if u = v then -1 else (difN u v : Int)
theorem difN_le (u v : List UInt8) : difN u v ≤ u.length ∧ difN u v ≤ v.length := by
  induction u generalizing v with
  | nil => simp [difN]
  | cons c u ih =>
    cases v with
    | nil => simp [difN]
    | cons d v =>
      have := ih v
      unfold difN
      split <;> simp <;> omega
theorem difN_eq (u v : List UInt8) (k : Nat) (hu : k ≤ u.length) (hv : k ≤ v.length) (he : u.take k = v.take k) (hd : k = u.length ∨ k = v.length ∨ u[k]? ≠ v[k]?) : difN u v = k := by
  induction k generalizing u v with
  | zero =>
    cases u with
    | nil => rfl
    | cons c u =>
      cases v with
      | nil => rfl
      | cons d v =>
        have h : c ≠ d := by
          rcases hd with h | h | h
          · simp at h
          · simp at h
          · simpa using h
        unfold difN; rw [if_neg h]
  | succ k ih =>
    cases u with
    | nil => simp at hu
    | cons c u =>
      cases v with
      | nil => simp at hv
      | cons d v =>
        simp only [List.take_succ_cons, List.cons.injEq] at he
        unfold difN
        rw [if_pos he.1, ih u v (by simpa using hu) (by simpa using hv) he.2 (by
          rcases hd with h | h | h
          · left; simpa using h
          · right; left; simpa using h
          · right; right; simpa using h)]

set_option maxHeartbeats 2000000 in
theorem differShort_any (s t : ByteArray) (w : World) (hs : s.size ≤ 100000) (ht : t.size ≤ 100000) :
    Calls Tryz.prog 49 #[.string s, .string t] w fun e w' => e = .returned (.int .i64 (difI s.data.toList t.data.toList)) ∧ Below w.heap.size w w' := by
  by_cases he : s = t
  · subst he
    have HR : Hid (difI s.data.toList s.data.toList = -1) := Lib.hid (by simp [difI])
    go_enter Tryz.func49, Tryz.ntmps49
    go_wp2
    go_ret
    exact ⟨by rw [HR.out]; rfl, Below.refl _ _⟩
  · have hne : s.data.toList ≠ t.data.toList := fun h => he (by cases s; cases t; simp at h; rw [h])
    have HR : Hid (difI s.data.toList t.data.toList = (difN s.data.toList t.data.toList : Int)) := Lib.hid (by simp [difI, hne])
    have hd : (s.toList == t.toList) = false := by
      rw [beq_eq_false_iff_ne]
      intro h
      rw [ByteArray.toList_eq, ByteArray.toList_eq] at h
      exact hne h
    obtain ⟨m, hm⟩ : ∃ m : Nat, (if t.size < s.size then t.size else s.size) = m := ⟨_, rfl⟩
    have hm1 : m ≤ s.size := by rw [← hm]; split <;> omega
    have hm2 : m ≤ t.size := by rw [← hm]; split <;> omega
    have hm3 : m = s.size ∨ m = t.size := by rw [← hm]; split <;> simp
    have hcast : (if (t.size : Int) < (s.size : Int) then (t.size : Int) else (s.size : Int)) = (m : Int) := by rw [← hm]; split <;> split <;> omega
    have hc : (w.alloc (.cells #[.int .i64 (t.size : Int)] 3)).cell? ⟨w.heap.size, 0, none⟩ = some (.int .i64 (t.size : Int)) := (show Blk (w.alloc (.cells #[.int .i64 (t.size : Int)] 3)) w.heap.size 3 #[.int .i64 (t.size : Int)] from heap_alloc_new w _).cell 0
    have hL := least_any (s.size : Int) (t.size : Int) w.heap.size _ hc
    rw [hcast] at hL
    have HM3 := Lib.hid hm3
    clear hm hm3 hcast hc hne he
    go_enter Tryz.func49, Tryz.ntmps49
    go_wp2_with fail
    refine hL.mono ?_; rintro e w1 ⟨rfl, hw1⟩
    have HB : Hid (Below w.heap.size w w1) := Lib.hid (by rw [← hw1]; exact (Below.refl _ _).alloc (Nat.le_refl _) _)
    clear hL hw1
    go_wp2
    go_loopw [6, 17] (fun _ i wr => ∃ (k q : Nat), k ≤ m ∧ i = .int .i64 (k : Int) ∧ s.data.toList.take k = t.data.toList.take k ∧ wr = w1.drewN q)
      (fun _ i _ => m - (intOf i).toNat)
    case atStart => exact ⟨0, 0, Nat.zero_le _, rfl, rfl, rfl⟩
    case round =>
      obtain ⟨k, q, hk, rfl, heq, rfl⟩ := hrel
      have HEQ := Lib.hid heq
      clear heq
      by_cases hlt : k < m
      · have hks : k < s.size := by omega
        have hkt : k < t.size := by omega
        have hgs : s.data.toList[k]? = some s[k] := List.getElem?_eq_getElem (show k < s.data.toList.length from hks)
        have hgt : t.data.toList[k]? = some t[k] := List.getElem?_eq_getElem (show k < t.data.toList.length from hkt)
        by_cases hcc : s[k] = t[k]
        · have hb : ((s[k].toNat : Int) != (t[k].toNat : Int)) = false := by simp [hcc]
          have hb2 : ((s[k].toNat : Int) == (t[k].toNat : Int)) = true := by simp [hcc]
          have HN : Hid (s.data.toList.take (k + 1) = t.data.toList.take (k + 1)) := Lib.hid (by rw [List.take_add_one, List.take_add_one, hgs, hgt, hcc, HEQ.out])
          clear hcc hgs hgt
          go_wp2
          go_quiet (fail)
          go_wp2
          go_roundw
          case rel => exact ⟨k + 1, q + nq, by omega, by go_num, HN.out, rfl⟩
          case measure => simp [intOf]; omega
        · have hne : s[k].toNat ≠ t[k].toNat := fun h => hcc (UInt8.toNat_inj.1 h)
          have hb2 : ((s[k].toNat : Int) == (t[k].toNat : Int)) = false := by rw [beq_eq_false_iff_ne]; omega
          have hb : ((s[k].toNat : Int) != (t[k].toNat : Int)) = true := by rw [bne, hb2]; rfl
          have HN : Hid (difN s.data.toList t.data.toList = k) := Lib.hid (difN_eq _ _ k (by simp; omega) (by simp; omega) HEQ.out (.inr (.inr (by rw [hgs, hgt]; simpa using hcc))))
          clear hcc hne hgs hgt
          go_wp2
          go_quiet (fail)
          go_wp2
          go_ret
          exact ⟨by rw [HR.out, HN.out]; rfl, (HB.out.drewN q).drewN nq⟩
      · obtain rfl : k = m := by omega
        have HN : Hid (difN s.data.toList t.data.toList = k) := Lib.hid (difN_eq _ _ k (by simp; omega) (by simp; omega) HEQ.out (by
          rcases HM3.out with h | h
          · left; rw [h]; rfl
          · right; left; rw [h]; rfl))
        go_wp2
        go_ret
        exact ⟨by rw [HR.out, HN.out]; rfl, HB.out.drewN q⟩

set_option maxHeartbeats 2000000 in
theorem Differ_short (A B' : Option Addr) (r t : List Nd) (cap cap' : Nat) (L M : List Nat) (hl : lens r = some L) (hl' : lens t = some M) (hlim : lastN L ≤ 100000) (hlim' : lastN M ≤ 100000) (w : World) (ht : Tabs w) (hr : RopeAt w A r) (hr' : RopeAt w B' t) :
    Calls Tryz.prog 26 #[.slice A r.length cap, .slice B' t.length cap'] w fun e w' => e = .returned (.tuple #[.int .i64 (difI (wordOf r) (wordOf t)), .int .i64 0]) ∧ Below w.heap.size w w' := by
  obtain ⟨k1, k2, k3⟩ := lens_ok hl
  obtain ⟨k1', k2', k3'⟩ := lens_ok hl'
  have hM := measure_any A r cap w ht hr (by unfold maxLen; omega)
  have hw1 := wordOf_len hl
  have hw2 := wordOf_len hl'
  have hD := fun w => differShort_any ⟨(wordOf r).toArray⟩ ⟨(wordOf t).toArray⟩ w (by rw [size_mk]; omega) (by rw [size_mk]; omega)
  have HT := Lib.hid ht
  have HR := Lib.hid hr
  have HR' := Lib.hid hr'
  have HL := Lib.hid hl
  have HL' := Lib.hid hl'
  have HK := Lib.hid k1
  have HK' := Lib.hid k1'
  have HLIM := Lib.hid hlim
  have HLIM' := Lib.hid hlim'
  have HD := Lib.hid hD
  clear hl hl' ht hr hr' k1 k1' k2 k2' hw1 hw2 hD
  go_enter Tryz.func26, Tryz.ntmps26
  go_wp2_with fail
  refine hM.mono ?_
  rintro e w1 ⟨hyes, _⟩
  obtain ⟨B1, hB1, rfl, henv, hb⟩ := hyes L HL.out
  have HENV := Lib.hid henv
  have HB1 := Lib.hid hb
  clear hyes henv hb hM
  go_wp2_with fail
  refine (measure_any B' t cap' w1 (HT.out.on HB1.out) (HR'.out.on HB1.out) (by unfold maxLen; omega)).mono ?_
  rintro e w2 ⟨hyes, _⟩
  obtain ⟨B2, hB2, rfl, henv', hb2⟩ := hyes M HL'.out
  have henv1 := HENV.out.on hb2
  have hv := value_last w2 B1 _ L (by rw [HK.out]; exact k3) henv1 ((r.length : Int) - 1) (by rw [HK.out])
  have hv' := value_last w2 B2 _ M (by rw [HK'.out]; exact k3') henv' ((t.length : Int) - 1) (by rw [HK'.out])
  have hb12 := HB1.out.trans (hb2.mono HB1.out.size)
  have hx := expand_any A r cap L HL.out B1 w2 _ henv1 (HR.out.on hb12) HLIM.out
  have HV := Lib.hid hv
  have HV' := Lib.hid hv'
  have HX := Lib.hid hx
  have HENV' := Lib.hid henv'
  have HB12 := Lib.hid hb12
  clear hyes henv' hb2 henv1 hv hv' hb12 hx
  generalize hml : lastN L = m at *
  generalize hmm : lastN M = m' at *
  have HML := Lib.hid hml
  have HMM := Lib.hid hmm
  clear hml hmm
  have hmax : max m m' ≤ 100000 := by omega
  go_wp2_with fail
  refine HV.out.mono ?_; rintro e w' ⟨rfl, rfl⟩
  go_wp2_with fail
  refine HV'.out.mono ?_; rintro e w' ⟨rfl, rfl⟩
  go_wp2_with fail
  all_goals
    refine HX.out.mono ?_; rintro e w3 ⟨rfl, hb3⟩
    go_wp2_with fail
    refine (expand_any B' t cap' M HL'.out B2 w3 _ (HENV'.out.on hb3) (HR'.out.on (HB12.out.trans (hb3.mono HB12.out.size))) (by rw [HMM.out]; exact HLIM'.out)).mono ?_; rintro e w4 ⟨rfl, hb4⟩
    go_wp2_with fail
    refine (HD.out _).mono ?_; rintro e w5 ⟨rfl, hb5⟩
    go_wp2
    go_ret2
    have hb13 := HB12.out.trans (hb3.mono HB12.out.size)
    have hb14 := hb13.trans (hb4.mono hb13.size)
    exact ⟨rfl, hb14.trans (hb5.mono hb14.size)⟩
end Go.Proofs.YtgklmcinbaghmaaGreatDoor
