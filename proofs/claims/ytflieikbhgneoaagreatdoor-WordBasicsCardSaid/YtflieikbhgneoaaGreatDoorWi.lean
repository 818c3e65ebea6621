/-
  Our own text, in the proofs of the laws of package word (cayleylaw01). Proved here: Cyclic, and leastRotation. Conditions: the arguments read as the row says and the listed tables lie as the program lays them; none other.
-/
import Derived.Test.YtflieikbhgneoaaGreatDoorWh
import Derived.IntWalk
namespace Go.Proofs.YtflieikbhgneoaaGreatDoor
open Go Go.RowKit

theorem below_drawn {w w' : World} {n : Nat} (h : w' = w.drewN n) (B : Nat) : Below B w w' := by subst h; exact (Below.refl B w).drewN n

theorem data_mk (l : List UInt8) : (ByteArray.mk l.toArray).data.toList = l := rfl
theorem size_mk (l : List UInt8) : (ByteArray.mk l.toArray).size = l.length := rfl

theorem red_len (l : List UInt8) : (red l).length ≤ l.length := by simpa [red] using redR_len l

set_option maxHeartbeats 400000 in
theorem Cyclic_yes (s : ByteArray) (w : World) (ht : Tabs w) (hw : isW s.data.toList = true) (hs : s.size ≤ 140737488351232) :
    Calls Tryz.prog 23 #[.string s] w fun e w' => e = .returned (.tuple #[.string ⟨(coreW (red s.data.toList)).toArray⟩, .string ⟨(conjW (red s.data.toList)).toArray⟩]) ∧ Below w.heap.size w w' := by
  have hI := isWord_any s w ht (by unfold maxLen; omega)
  rw [hw] at hI
  have hV := reduce_any s w hs
  have hl := red_len s.data.toList
  have hl2 : (red s.data.toList).length ≤ maxLen := by unfold maxLen; simp at hl; omega
  have HS := fun w => split_any ⟨(red s.data.toList).toArray⟩ w hl2
  clear ht hw hl hl2
  generalize red s.data.toList = L at *
  go_enter Tryz.func23, Tryz.ntmps23
  go_wp2_with (first | (go_at_call 35; refine hI.mono ?_; rintro e w' ⟨rfl, rfl⟩) | (go_at_call 38; refine hV.mono ?_; rintro e w' ⟨rfl, hb⟩) | (go_at_call 43; refine (HS _).mono ?_; rintro e w' ⟨rfl, hd⟩))
  go_ret2
  obtain ⟨n, hd⟩ := hd
  exact ⟨rfl, hb.trans (below_drawn hd _)⟩

set_option maxHeartbeats 400000 in
theorem Cyclic_no (s : ByteArray) (w : World) (ht : Tabs w) (hw : isW s.data.toList = false) (hs : s.size ≤ 140737488351232) :
    Calls Tryz.prog 23 #[.string s] w fun e w' => e = .returned (.tuple #[.string ⟨#[]⟩, .string ⟨#[]⟩]) ∧ w = w' := by
  have hI := isWord_any s w ht (by unfold maxLen; omega)
  rw [hw] at hI
  clear ht hw
  go_enter Tryz.func23, Tryz.ntmps23
  go_wp2_with (go_at_call 35; refine hI.mono ?_; rintro e w' ⟨rfl, rfl⟩)
  go_ret2
  exact ⟨rfl, rfl⟩

/-- The least rotation: the candidates i, j, and how many letters they share. -/
def lrF : Nat → List UInt8 → Nat → Nat → Nat → Nat
  | 0, _, i, j, _ => min i j
  | f + 1, l, i, j, same =>
    if i < l.length ∧ j < l.length ∧ same < l.length then
      let x := idx (l.getD ((i + same) % l.length) 0)
      let y := idx (l.getD ((j + same) % l.length) 0)
      if x = y then lrF f l i j (same + 1)
      else if y < x then (if i + (same + 1) = j then lrF f l (i + (same + 1)) (j + 1) 0 else lrF f l (i + (same + 1)) j 0)
      else (if i = j + (same + 1) then lrF f l i (j + (same + 1) + 1) 0 else lrF f l i (j + (same + 1)) 0)
    else min i j
def lrN (l : List UInt8) : Nat := lrF (5 * l.length + 10) l 0 1 0

set_option maxHeartbeats 400000 in
set_option maxRecDepth 100000 in
theorem leastRotation_any (s : ByteArray) (w : World) (ht : Tabs w) (hs : s.size ≤ 1000000) :
    Calls Tryz.prog 45 #[.string s] w fun e w' => e = .returned (.int .i64 (lrN s.data.toList)) ∧ ∃ n, w' = w.drewN n := by
  go_enter Tryz.func45, Tryz.ntmps45
  go_wp2
  go_loopw [4, 5, 6] (fun i j m wr => ∃ a b c f n : Nat, i = .int .i64 a ∧ j = .int .i64 b ∧ m = .int .i64 c ∧ lrF f s.data.toList a b c = lrN s.data.toList ∧ a ≤ 2 * s.size + 1 ∧ b ≤ 2 * s.size + 1 ∧ c ≤ s.size ∧ 5 * s.size + 10 ≤ f + (a + b + c) ∧ wr = w.drewN n)
      (fun i j m _ => 5 * s.size + 10 - ((intOf i).toNat + (intOf j).toNat + (intOf m).toNat))
  case atStart => exact ⟨0, 1, 0, _, 0, rfl, rfl, rfl, rfl, by omega, by omega, by omega, by rw [Array.length_toList, show s.data.size = s.size from rfl]; omega, rfl⟩
  case round =>
    obtain ⟨a, b, c, f, n, rfl, rfl, rfl, hf, ha, hb, hc, hfu, hw⟩ := hrel
    have htw : Tabs wr := by rw [hw]; exact ht.drewN n
    have HW := Lib.hid hw
    have HT := Lib.hid htw
    clear hw ht htw
    by_cases hcond : a < s.size ∧ b < s.size ∧ c < s.size
    · obtain ⟨h1, h2, h3⟩ := hcond
      have hlen : 0 < s.size := by omega
      have hi : (a + c) % s.size < s.size := Nat.mod_lt _ hlen
      have hj : (b + c) % s.size < s.size := Nat.mod_lt _ hlen
      obtain ⟨p, hp⟩ : ∃ p : Nat, (a + c) % s.size = p := ⟨_, rfl⟩
      obtain ⟨q, hq⟩ : ∃ q : Nat, (b + c) % s.size = q := ⟨_, rfl⟩
      obtain ⟨g, rfl⟩ : ∃ g, f = g + 1 := ⟨f - 1, by omega⟩
      have hls : s.data.toList.length = s.size := by simp
      unfold lrF at hf
      rw [hls, if_pos ⟨h1, h2, h3⟩, hp, hq, getD_ba s p (by omega), getD_ba s q (by omega)] at hf
      simp only at hf
      have e1 : ((a + c : Nat) : Int).tmod (s.size : Int) = (p : Int) := by rw [← hp]; rfl
      have e2 : ((b + c : Nat) : Int).tmod (s.size : Int) = (q : Int) := by rw [← hq]; rfl
      have w1 : IntKind.i64.wrap ((a : Int) + (c : Int)) = ((a + c : Nat) : Int) := by rw [IntWalk.i64_in _ (by omega)]; omega
      have w2 : IntKind.i64.wrap ((b : Int) + (c : Int)) = ((b + c : Nat) : Int) := by rw [IntWalk.i64_in _ (by omega)]; omega
      have hz : ¬ (s.size : Int) = 0 := by omega
      have hz2 : ¬ s.size = 0 := by omega
      obtain ⟨ac, hac⟩ : ∃ ac : Nat, a + c = ac := ⟨_, rfl⟩
      obtain ⟨bc, hbc⟩ : ∃ bc : Nat, b + c = bc := ⟨_, rfl⟩
      rw [hac] at e1 w1
      rw [hbc] at e2 w2
      clear hac hbc
      rw [hp] at hi
      rw [hq] at hj
      have hpx := idx_bound s[p]
      have hqx := idx_bound s[q]
      have gfin : ∀ (r a' b' c' : Nat), lrF g s.data.toList a' b' c' = lrN s.data.toList → a' ≤ 2 * s.size + 1 → b' ≤ 2 * s.size + 1 → c' ≤ s.size → a + b + c + 1 ≤ a' + b' + c' →
          ∃ a b c f n : Nat, Value.int .i64 (a' : Int) = .int .i64 a ∧ Value.int .i64 (b' : Int) = .int .i64 b ∧ Value.int .i64 (c' : Int) = .int .i64 c ∧ lrF f s.data.toList a b c = lrN s.data.toList ∧ a ≤ 2 * s.size + 1 ∧ b ≤ 2 * s.size + 1 ∧ c ≤ s.size ∧ 5 * s.size + 10 ≤ f + (a + b + c) ∧ wr.drewN r = w.drewN n :=
        fun r a' b' c' h1 h2 h3 h4 h5 => ⟨a', b', c', g, n + r, rfl, rfl, rfl, h1, h2, h3, h4, by omega, by rw [HW.out, World.drewN_drewN]⟩
      have GFIN := Lib.hid gfin
      clear gfin hfu
      by_cases hxy : idx s[p] = idx s[q]
      · rw [if_pos hxy] at hf
        have HF := Lib.hid hf
        have hd : (idx s[p] == idx s[q]) = true := by simp [hxy]
        clear hf
        have HX := Lib.hid hxy
        clear hxy hp hq hls
        go_wp2
        go_quiet ((go_at_call 9; exact index_quiet _ wr HT.out _))
        go_wp2
        go_roundw
        case rel =>
          have := GFIN.out nq a b (c + 1) HF.out (by omega) (by omega) (by omega) (by omega)
          simpa using this
        case measure => simp [intOf]; omega
      · rw [if_neg hxy] at hf
        have hd : (idx s[p] == idx s[q]) = false := by simp [hxy]
        by_cases hyx : idx s[q] < idx s[p]
        · rw [if_pos hyx] at hf
          by_cases hab : a + (c + 1) = b
          · rw [if_pos hab] at hf
            have HF := Lib.hid hf
            have hd3 : ((a : Int) + ((c : Int) + 1) == (b : Int)) = true := by rw [beq_iff_eq]; omega
            have HAB := Lib.hid hab
            clear hf hxy hp hq hls hab
            go_wp2
            go_quiet ((go_at_call 9; exact index_quiet _ wr HT.out _))
            go_wp2
            go_roundw
            case rel =>
              have := GFIN.out nq (a + (c + 1)) (b + 1) 0 HF.out (by omega) (by omega) (by omega) (by omega)
              simpa using this
            case measure => simp [intOf]; omega
          · rw [if_neg hab] at hf
            have HF := Lib.hid hf
            have hd3 : ((a : Int) + ((c : Int) + 1) == (b : Int)) = false := by rw [beq_eq_false_iff_ne]; omega
            have HAB := Lib.hid hab
            clear hf hxy hp hq hls hab
            go_wp2
            go_quiet ((go_at_call 9; exact index_quiet _ wr HT.out _))
            go_wp2
            go_roundw
            case rel =>
              have := GFIN.out nq (a + (c + 1)) b 0 HF.out (by omega) (by omega) (by omega) (by omega)
              simpa using this
            case measure => simp [intOf]; omega
        · rw [if_neg hyx] at hf
          by_cases hab : a = b + (c + 1)
          · rw [if_pos hab] at hf
            have HF := Lib.hid hf
            have hd3 : ((a : Int) == (b : Int) + ((c : Int) + 1)) = true := by rw [beq_iff_eq]; omega
            have HAB := Lib.hid hab
            clear hf hxy hp hq hls hab
            go_wp2
            go_quiet ((go_at_call 9; exact index_quiet _ wr HT.out _))
            go_wp2
            go_roundw
            case rel =>
              have := GFIN.out nq a (b + (c + 1) + 1) 0 HF.out (by omega) (by omega) (by omega) (by omega)
              simpa using this
            case measure => simp [intOf]; omega
          · rw [if_neg hab] at hf
            have HF := Lib.hid hf
            have hd3 : ((a : Int) == (b : Int) + ((c : Int) + 1)) = false := by rw [beq_eq_false_iff_ne]; omega
            have HAB := Lib.hid hab
            clear hf hxy hp hq hls hab
            go_wp2
            go_quiet ((go_at_call 9; exact index_quiet _ wr HT.out _))
            go_wp2
            go_roundw
            case rel =>
              have := GFIN.out nq a (b + (c + 1)) 0 HF.out (by omega) (by omega) (by omega) (by omega)
              simpa using this
            case measure => simp [intOf]; omega
    · have he : min a b = lrN s.data.toList := by
        rw [← hf]
        cases f with
        | zero => rfl
        | succ f => unfold lrF; rw [if_neg (by simpa using hcond)]
      have HE := Lib.hid he
      clear he hf hfu
      by_cases h1 : a < s.size
      · by_cases h2 : b < s.size
        · have h3 : s.size ≤ c := by omega
          clear hcond
          go_wp2
          go_ret
          exact ⟨by rw [← HE.out]; exact ret_int (by omega), n, HW.out⟩
        · clear hcond
          go_wp2
          go_ret
          exact ⟨by rw [← HE.out]; exact ret_int (by omega), n, HW.out⟩
      · clear hcond
        go_wp2
        go_ret
        exact ⟨by rw [← HE.out]; exact ret_int (by omega), n, HW.out⟩
end Go.Proofs.YtflieikbhgneoaaGreatDoor
