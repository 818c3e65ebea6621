/-
  Our own text, in the proofs of the laws of package word (cayleylaw01). Proved here: power returns the power, by its core and conjugator. Conditions: the arguments read as the row says and the listed tables lie as the program lays them; none other.
-/
import Derived.Test.YtflieikbhgneoaaGreatDoorWj
namespace Go.Proofs.YtflieikbhgneoaaGreatDoor
open Go Go.RowKit

/-- The power of the word with this core and this conjugator. -/
def powW (core conj : List UInt8) (n : Int) : List UInt8 :=
  if n = 0 ∨ core = [] then [] else conj ++ Lib.repeatL (if n < 0 then invW core else core) n.natAbs ++ invW conj

theorem invW_len (l : List UInt8) : (invW l).length = l.length := by simp [invW]

theorem repeatL_len (l : List UInt8) (n : Nat) : (Lib.repeatL l n).length = n * l.length := by
  exact Lib.repeatL_length l n

theorem ret_s {a b : ByteArray} (h : a = b) : Ending.returned (.string a) = .returned (.string b) := by rw [h]

set_option maxHeartbeats 400000 in
theorem power_any (C D : ByteArray) (n : Int) (w : World) (hC : C.size ≤ 1000000) (hD : D.size ≤ 1000000) (hn : n.natAbs ≤ 1000000) :
    Calls Tryz.prog 46 #[.string C, .string D, .int .i64 n] w fun e w' => e = .returned (.string ⟨(powW C.data.toList D.data.toList n).toArray⟩) ∧ Below w.heap.size w w' := by
  by_cases h0 : n = 0
  · subst h0
    have HR : Hid (powW C.data.toList D.data.toList 0 = []) := Lib.hid (by simp [powW])
    go_enter Tryz.func46, Tryz.ntmps46
    go_wp2
    go_ret
    exact ⟨by rw [HR.out]; rfl, Below.refl _ _⟩
  have hd0 : (n == 0) = false := by rw [beq_eq_false_iff_ne]; exact h0
  by_cases hc : C.data.toList = []
  · have HR : Hid (powW C.data.toList D.data.toList n = []) := Lib.hid (by simp [powW, hc])
    have hce : C = ⟨#[]⟩ := ba_ext (by rw [hc])
    subst hce
    clear hc
    go_enter Tryz.func46, Tryz.ntmps46
    go_wp2
    go_ret
    exact ⟨by rw [HR.out]; rfl, Below.refl _ _⟩
  have hcl : C.toList.isEmpty = false := by rw [ByteArray.toList_eq]; simpa using hc
  have fin : ∀ X : List UInt8, X.length ≤ 1000000000000 → ∀ w, (Op.stringOp .add D ⟨X.toArray⟩).run Tryz.prog w = .ok (.string (D ++ ⟨X.toArray⟩)) w := fun X hX w => run_string_add_sum w _ _ (by have := size_mk X; omega)
  have fin2 : ∀ X : List UInt8, X.length ≤ 1000000000000 → ∀ w, (Op.stringOp .add (D ++ ⟨X.toArray⟩) ⟨(invW D.data.toList).toArray⟩).run Tryz.prog w = .ok (.string (D ++ ⟨X.toArray⟩ ++ ⟨(invW D.data.toList).toArray⟩)) w := fun X hX w => run_string_add_sum w _ _ (by have h1 := size_mk X; have h2 := size_mk (invW D.data.toList); have h3 := invW_len D.data.toList; have h4 : D.data.toList.length = D.size := rfl; rw [ByteArray.size_append]; omega)
  by_cases hneg : n < 0
  · have HR : Hid (powW C.data.toList D.data.toList n = D.data.toList ++ Lib.repeatL (invW C.data.toList) n.natAbs ++ invW D.data.toList) := Lib.hid (by simp only [powW]; rw [if_neg (by simp [h0, hc]), if_pos hneg])
    obtain ⟨m, hm⟩ : ∃ m : Nat, -n = (m : Int) := ⟨n.natAbs, by omega⟩
    obtain rfl : n = -(m : Int) := by omega
    rw [show (-(m : Int)).natAbs = m by omega] at HR
    have hcm : C.size * m ≤ 1000000 * 1000000 := Nat.mul_le_mul hC (by omega)
    have hrep := fun w => Tryz.strings_Repeat ⟨(invW C.data.toList).toArray⟩ m w (by omega) (by rw [size_mk, invW_len]; simp; omega)
    have hrl := repeatL_len (invW C.data.toList) m
    rw [invW_len] at hrl
    have hrl2 : (Lib.repeatL (invW C.data.toList) m).length ≤ 1000000000000 := by rw [hrl, Nat.mul_comm]; simp; omega
    have f1 := fin _ hrl2
    have f2 := fin2 _ hrl2
    rw [data_mk] at hrep
    clear hrl fin fin2 hc hm
    generalize Lib.repeatL (invW C.data.toList) m = X at *
    go_enter Tryz.func46, Tryz.ntmps46
    go_wp2_with fail
    refine (inverse_any C _ (by omega)).mono ?_
    rintro e w1 ⟨rfl, hb1⟩
    go_wp2_with fail
    refine (hrep _).mono ?_
    rintro e w2 ⟨rfl, hb2⟩
    go_wp2_with fail
    refine (inverse_any D _ (by omega)).mono ?_
    rintro e w3 ⟨rfl, hb3⟩
    go_wp2
    go_ret
    refine ⟨?_, (hb1.trans (hb2.mono hb1.size)).trans (hb3.mono (Nat.le_trans hb1.size hb2.size))⟩
    rw [HR.out]
    exact ret_s (ba_ext (by simp [ByteArray.data_append]))
  · have HR : Hid (powW C.data.toList D.data.toList n = D.data.toList ++ Lib.repeatL C.data.toList n.natAbs ++ invW D.data.toList) := Lib.hid (by simp only [powW]; rw [if_neg (by simp [h0, hc]), if_neg hneg])
    obtain ⟨m, rfl⟩ : ∃ m : Nat, n = (m : Int) := ⟨n.natAbs, by omega⟩
    rw [show (m : Int).natAbs = m by omega] at HR
    have hcm : C.size * m ≤ 1000000 * 1000000 := Nat.mul_le_mul hC (by omega)
    have hrep := fun w => Tryz.strings_Repeat C m w (by omega) (by omega)
    have hrl := repeatL_len C.data.toList m
    have hrl2 : (Lib.repeatL C.data.toList m).length ≤ 1000000000000 := by rw [hrl, Nat.mul_comm]; simp; omega
    have f1 := fin _ hrl2
    have f2 := fin2 _ hrl2
    clear hrl fin fin2 hc
    generalize Lib.repeatL C.data.toList m = X at *
    go_enter Tryz.func46, Tryz.ntmps46
    go_wp2_with fail
    refine (hrep _).mono ?_
    rintro e w2 ⟨rfl, hb2⟩
    go_wp2_with fail
    refine (inverse_any D _ (by omega)).mono ?_
    rintro e w3 ⟨rfl, hb3⟩
    go_wp2
    go_ret
    refine ⟨?_, hb2.trans (hb3.mono hb2.size)⟩
    rw [HR.out]
    exact ret_s (ba_ext (by simp [ByteArray.data_append]))
end Go.Proofs.YtflieikbhgneoaaGreatDoor
