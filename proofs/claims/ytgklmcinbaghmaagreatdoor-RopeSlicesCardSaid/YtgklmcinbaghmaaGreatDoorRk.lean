/-
  Our own text, in the proofs of the laws of package rope. Proved here: IsLetter, IsWord of the reference package; append to an own row of ints. No condition.
-/
import Derived.Test.YtgklmcinbaghmaaGreatDoorRj
import Derived.OwnWalk
namespace Go.Proofs.YtgklmcinbaghmaaGreatDoor
open Go Go.RowKit

theorem letter8 (c : UInt8) : letterB 8 c = (decide (97 ≤ (c.toNat : Int)) && decide ((c.toNat : Int) ≤ 104) || decide (65 ≤ (c.toNat : Int)) && decide ((c.toNat : Int) ≤ 72)) := by
  have h : ∀ n : Nat, n < 256 → letterB 8 (UInt8.ofNat n) = (decide (97 ≤ ((UInt8.ofNat n).toNat : Int)) && decide (((UInt8.ofNat n).toNat : Int) ≤ 104) || decide (65 ≤ ((UInt8.ofNat n).toNat : Int)) && decide (((UInt8.ofNat n).toNat : Int) ≤ 72)) := by decide +kernel
  have := h c.toNat c.toNat_lt
  simpa using this

set_option maxHeartbeats 400000 in
theorem rIsLetter_any (c : UInt8) (w : World) : Calls Tryz.prog 42 #[.int .u8 c.toNat] w fun e w' => e = .returned (.bool (letterB 8 c)) ∧ w = w' := by
  have hb : c.toNat < 256 := c.toNat_lt
  have hl := letter8 c
  by_cases h1 : 97 ≤ (c.toNat : Int)
  · by_cases h2 : (c.toNat : Int) ≤ 104
    · have HR : Hid (letterB 8 c = true) := Lib.hid (by rw [hl]; simp [h1, h2])
      have d1 : decide (97 ≤ (c.toNat : Int)) = true := by simpa using h1
      have d2 : decide ((c.toNat : Int) ≤ 104) = true := by simpa using h2
      clear hl
      go_enter Tryz.func42, Tryz.ntmps42
      go_wp2
      go_ret
      exact ⟨by rw [HR.out]; rfl, rfl⟩
    · have d1 : decide (97 ≤ (c.toNat : Int)) = true := by simpa using h1
      have d2 : decide ((c.toNat : Int) ≤ 104) = false := by simpa using h2
      have d3 : decide (65 ≤ (c.toNat : Int)) = true := by simp; omega
      have d4 : decide ((c.toNat : Int) ≤ 72) = false := by simp; omega
      have HR : Hid (letterB 8 c = false) := Lib.hid (by rw [hl, d1, d2, d3, d4]; rfl)
      clear hl
      go_enter Tryz.func42, Tryz.ntmps42
      go_wp2
      go_ret
      exact ⟨by rw [HR.out]; rfl, rfl⟩
  · have d1 : decide (97 ≤ (c.toNat : Int)) = false := by simpa using h1
    by_cases h3 : 65 ≤ (c.toNat : Int)
    · have d3 : decide (65 ≤ (c.toNat : Int)) = true := by simpa using h3
      have HR : Hid (letterB 8 c = decide ((c.toNat : Int) ≤ 72)) := Lib.hid (by rw [hl, d1, d3]; simp)
      clear hl
      go_enter Tryz.func42, Tryz.ntmps42
      go_wp2
      go_ret
      exact ⟨by rw [HR.out]; rfl, rfl⟩
    · have d3 : decide (65 ≤ (c.toNat : Int)) = false := by simpa using h3
      have HR : Hid (letterB 8 c = false) := Lib.hid (by rw [hl, d1, d3]; simp)
      clear hl
      go_enter Tryz.func42, Tryz.ntmps42
      go_wp2
      go_ret
      exact ⟨by rw [HR.out]; rfl, rfl⟩

/-- A word of at most n letters. -/
def wordB (l : List UInt8) (n : Int) : Bool := l.all (letterB 8) && decide ((l.length : Int) ≤ n)

set_option maxHeartbeats 400000 in
theorem rIsWord_any (s : ByteArray) (n : Int) (w : World) (hs : s.size ≤ maxLen) : Calls Tryz.prog 21 #[.string s, .int .i64 n] w fun e w' => e = .returned (.bool (wordB s.data.toList n)) ∧ w = w' := by
  unfold maxLen at hs
  go_enter Tryz.func21, Tryz.ntmps21
  go_wp2
  go_loop [5] (fun i => ∃ k : Nat, k ≤ s.size ∧ i = .int .i64 k ∧ (s.data.toList.take k).all (letterB 8) = true) (fun i => s.size - (intOf i).toNat)
  case atStart => exact ⟨0, Nat.zero_le _, rfl, rfl⟩
  case round =>
    obtain ⟨k, hk, rfl, hall⟩ := hrel
    have HA := Lib.hid hall
    clear hall
    by_cases hlt : k < s.size
    · have ha := all_take_succ s (letterB 8) k hlt
      have HS := Lib.hid ha
      clear ha
      have hL := rIsLetter_any s[k] w
      cases hb : letterB 8 s[k] with
      | true =>
        have Hb := Lib.hid hb
        rw [hb] at hL
        clear hb
        go_wp2_with (go_at_call 42; refine hL.mono ?_; rintro e w' ⟨rfl, rfl⟩)
        go_round
        case rel => exact ⟨k + 1, by omega, by go_num, by rw [HS.out, HA.out, Hb.out]; rfl⟩
        case measure => simp [intOf]; omega
      | false =>
        have hz : s.data.toList.all (letterB 8) = false := by
          rw [List.all_eq_false]
          exact ⟨s[k], by have : s[k] = s.data.toList[k]'(by simpa using hlt) := rfl
                          rw [this]; exact List.getElem_mem _, by simpa using hb⟩
        have HZ := Lib.hid hz
        rw [hb] at hL
        clear hb hz
        go_wp2_with (go_at_call 42; refine hL.mono ?_; rintro e w' ⟨rfl, rfl⟩)
        go_ret
        exact ⟨by unfold wordB; rw [HZ.out]; rfl, rfl⟩
    · have hz := HA.out
      rw [List.take_of_length_le (by simp; omega)] at hz
      have HZ : Hid (wordB s.data.toList n = decide ((s.size : Int) ≤ n)) := Lib.hid (by unfold wordB; rw [hz]; simp)
      clear hz
      go_wp2
      go_ret
      exact ⟨by rw [HZ.out]; rfl, rfl⟩

/-- The cells of a row of ints. -/
def ir (L : List Int) : List Value := L.map fun n => Value.int .i64 n
theorem ir_len (L : List Int) : (ir L).length = L.length := by simp [ir]
theorem ir_append (L M : List Int) : ir (L ++ M) = ir L ++ ir M := by simp [ir]
theorem ir_get (L : List Int) (i : Nat) (h : i < L.length) : (ir L)[i]? = some (.int .i64 (L.getD i 0)) := by
  simp [ir, List.getD, List.getElem?_eq_getElem h]
theorem Tryz.info3 : (Tryz.prog.info? 3).map (fun i => (i.zero, i.size, i.bytes)) = some (some (.int .i64 0), 1, 8) := by kernel_rfl
def nl (L : List Nat) : List Int := L.map fun (n : Nat) => (n : Int)
theorem nl_len (L : List Nat) : (nl L).length = L.length := by simp [nl]
theorem nl_append (L M : List Nat) : nl (L ++ M) = nl L ++ nl M := by simp [nl]
theorem nl_get (L : List Nat) (i : Nat) : (nl L).getD i 0 = ((L.getD i 0 : Nat) : Int) := by
  by_cases h : i < L.length
  · simp [nl, List.getD, List.getElem?_eq_getElem h]
  · simp [nl, List.getD, List.getElem?_eq_none (Nat.not_lt.1 h)]

theorem news_one (w : World) (v : Value) (t : TypeId) : ∀ (j : Nat) u, ([v] : List Value)[j]? = some u → (w.alloc (.cells #[v] t)).cell? ((⟨w.heap.size, 0, none⟩ : Addr).add j) = some u := by
  intro j u hu
  match j, hu with
  | 0, hu =>
    simp at hu; subst hu
    have hb : (w.alloc (.cells #[v] t)).heap[w.heap.size]? = some (.cells #[v] t (0, 0)) := heap_alloc_new w _
    have := cell_of_row (w.alloc (.cells #[v] t)) w.heap.size 0 #[v] t (0, 0) hb
    simp [Addr.add, this]

/-- append of one int, by its literal slice. -/
theorem append_int {ops : Array Oper} {rest : List Oper} {o : Oper} {a : Act} {Q : Exit → Act → World → Prop} (w : World) (hgd : o.guard = none) (s x : Operand)
    (ho : o.op = .call { callee := .builtin .append, args := #[s, x], argTypes := #[26, 26] })
    (B : Nat) (A : Option Addr) (n cap : Nat) (l : List Int) (c : Int) (hs : a.eval s = .slice A n cap) (hown : w.ownsRow B 3 1 (.slice A n cap) n (ir l))
    (v : Value) (hv : v = .int .i64 c) (hx : a.eval x = .slice (some ⟨w.heap.size, 0, none⟩) 1 1) (hn : n ≤ 1000000000000) (hB : B ≤ w.heap.size)
    (h : ∀ A' cap' w', w'.ownsRow B 3 1 (.slice A' (n + 1) cap') (n + 1) (ir (l ++ [c])) → Below B w w' → wpList Tryz.prog ops Q rest (a.put o.dst (.slice A' (n + 1) cap')) w') :
    wpList Tryz.prog ops Q (o :: rest) a (w.alloc (.cells #[v] 3)) := by
  subst hv
  obtain ⟨i0, hi, hz0, hz1, hz2⟩ := info_parts Tryz.info3
  refine wpList_append_own _ hgd s x 26 ho B 3 i0 (.int .i64 0) 1 8 Tryz.underlying26 hi hz0 hz1 hz2 rfl (by decide) _ n (ir l) hs (hown.alloc _) ⟨w.heap.size, 0, none⟩ 1 1 [.int .i64 c] hx rfl (news_one w _ _) (by intro u hu; simp at hu; subst hu; rfl) (by unfold maxLen; omega) (by omega) (by simp; omega) ?_
  intro v' w' hown' hgrow _
  have hlt := hown.lt
  have hb : Below B w w' := ((Below.refl B w).alloc hB _).grown hgrow (by simp; omega) (fun k hk => (hlt k hk).1)
  rcases hown'.2 with ⟨_, hx⟩ | ⟨g, c', cur, rfl, _⟩
  · simp at hx
  · exact h _ _ _ (by rw [ir_append]; exact hown') hb
theorem own_cell {w : World} {base e n cap j : Nat} {A : Option Addr} {xs : List Value} (h : w.ownsRow base e 1 (.slice A n cap) n xs) (hj : j < n) :
    ∃ g, A = some ⟨g, 0, none⟩ ∧ w.cell? ⟨g, j, none⟩ = xs[j]? := by
  rcases h.2 with ⟨h2, h3⟩ | ⟨g', c', cur, hv, hg, hh, hnc, hcm, hcs, ht⟩
  · simp only [Value.slice.injEq] at h2
    obtain ⟨rfl, rfl, rfl⟩ := h2
    omega
  · simp only [Value.slice.injEq, true_and] at hv
    obtain ⟨rfl, rfl⟩ := hv
    exact ⟨g', rfl, h.cellAt j (by simpa using hj)⟩
end Go.Proofs.YtgklmcinbaghmaaGreatDoor
