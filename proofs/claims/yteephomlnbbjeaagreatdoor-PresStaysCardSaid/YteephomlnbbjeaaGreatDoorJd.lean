/-
  Our own text, in the proofs of the laws of package pres (cayleylaw03). Proved here: power returns the power, by its core and conjugator; Power, with its errors; the law of an append of one byte; Reduce and Inverse of the reference package, at words; Text returns the text of a word. Conditions: the arguments lie in memory as the slices say; bounds; the listed tables lie as the program lays them.
-/
import Derived.Test.YteephomlnbbjeaaGreatDoorJc
import Derived.Test.YteephomlnbbjeaaGreatDoorJa
import Derived.Lib.ItoaLen
import Derived.Lib.ItoaMem
set_option linter.unusedVariables false
set_option linter.unusedSimpArgs false
set_option linter.unusedSectionVars false
namespace Go.Proofs.YteephomlnbbjeaaGreatDoor
open Go Go.RowKit

/-- The power of the word with this core and this conjugator. -/
def powW (core conj : List UInt8) (n : Int) : List UInt8 :=
  if n = 0 ∨ core = [] then [] else conj ++ Lib.repeatL (if n < 0 then invW core else core) n.natAbs ++ invW conj

theorem invW_len (l : List UInt8) : (invW l).length = l.length := by simp [invW]

theorem repeatL_len (l : List UInt8) (n : Nat) : (Lib.repeatL l n).length = n * l.length := by
  exact Lib.repeatL_length l n

theorem ret_s {a b : ByteArray} (h : a = b) : Ending.returned (.string a) = .returned (.string b) := by rw [h]

set_option maxHeartbeats 400000 in
theorem power_any (C D : ByteArray) (n : Int) (w : World) (hC : C.size ≤ 1000000) (hD : D.size ≤ 1000000) (hn : n.natAbs ≤ 1000000) :
    Calls Tryz.prog 260 #[.string C, .string D, .int .i64 n] w fun e w' => e = .returned (.string ⟨(powW C.data.toList D.data.toList n).toArray⟩) ∧ Below w.heap.size w w' := by
  by_cases h0 : n = 0
  · subst h0
    have HR : Hid (powW C.data.toList D.data.toList 0 = []) := Lib.hid (by simp [powW])
    go_enter Tryz.func260, Tryz.ntmps260
    go_wp2
    go_ret
    exact ⟨by rw [HR.out]; rfl, Below.refl _ _⟩
  have hd0 : (n == 0) = false := by rw [beq_eq_false_iff_ne]; exact h0
  by_cases hc : C.data.toList = []
  · have HR : Hid (powW C.data.toList D.data.toList n = []) := Lib.hid (by simp [powW, hc])
    have hce : C = ⟨#[]⟩ := ba_ext (by rw [hc])
    subst hce
    clear hc
    go_enter Tryz.func260, Tryz.ntmps260
    go_wp2
    go_ret
    exact ⟨by rw [HR.out]; rfl, Below.refl _ _⟩
  have hcl : C.toList.isEmpty = false := by rw [ByteArray.toList_eq]; simpa using hc
  have fin : ∀ X : List UInt8, X.length ≤ 1000000000000 → ∀ w, (Op.stringOp .add D ⟨X.toArray⟩).run Tryz.prog w = .ok (.string (D ++ ⟨X.toArray⟩)) w := fun X hX w => run_string_add_sum w _ _ (by have := size_mk X; omega)
  have fin2 : ∀ X : List UInt8, X.length ≤ 1000000000000 → ∀ w, (Op.stringOp .add (D ++ ⟨X.toArray⟩) ⟨(invW D.data.toList).toArray⟩).run Tryz.prog w = .ok (.string (D ++ ⟨X.toArray⟩ ++ ⟨(invW D.data.toList).toArray⟩)) w := fun X hX w => run_string_add_sum w _ _ (by have h1 := size_mk X; have h2 := size_mk (invW D.data.toList); have h3 := invW_len D.data.toList; have h4 : D.data.toList.length = D.size := rfl; rw [ByteArray.size_append]; omega)
  by_cases hneg : n < 0
  · have HR : Hid (powW C.data.toList D.data.toList n = D.data.toList ++ Lib.repeatL (invW C.data.toList) n.natAbs ++ invW D.data.toList) := Lib.hid (by simp only [powW]; rw [if_neg (by simp [h0, hc]), if_pos hneg])
    obtain ⟨m, hm⟩ : ∃ m : Nat, -n = (m : Int) := ⟨n.natAbs, by omega⟩
    obtain rfl : n = -(m : Int) := by omega
    rw [show (-(m : Int)).natAbs = m by omega] at HR
    have hcm : C.size * m ≤ 1000000 * 1000000 := Nat.mul_le_mul hC (by omega)
    have hrep := fun w => Tryz.strings_Repeat ⟨(invW C.data.toList).toArray⟩ m w (by omega) (by rw [size_mk, invW_len]; simp; omega)
    have hrl := repeatL_len (invW C.data.toList) m
    rw [invW_len] at hrl
    have hrl2 : (Lib.repeatL (invW C.data.toList) m).length ≤ 1000000000000 := by rw [hrl, Nat.mul_comm]; simp; omega
    have f1 := fin _ hrl2
    have f2 := fin2 _ hrl2
    rw [data_mk] at hrep
    clear hrl fin fin2 hc hm
    generalize Lib.repeatL (invW C.data.toList) m = X at *
    go_enter Tryz.func260, Tryz.ntmps260
    go_wp2_with fail
    refine (inverse_any C _ (by omega)).mono ?_
    rintro e w1 ⟨rfl, hb1⟩
    go_wp2_with fail
    refine (hrep _).mono ?_
    rintro e w2 ⟨rfl, hb2⟩
    go_wp2_with fail
    refine (inverse_any D _ (by omega)).mono ?_
    rintro e w3 ⟨rfl, hb3⟩
    go_wp2
    go_ret
    refine ⟨?_, (hb1.trans (hb2.mono hb1.size)).trans (hb3.mono (Nat.le_trans hb1.size hb2.size))⟩
    rw [HR.out]
    exact ret_s (ba_ext (by simp [ByteArray.data_append]))
  · have HR : Hid (powW C.data.toList D.data.toList n = D.data.toList ++ Lib.repeatL C.data.toList n.natAbs ++ invW D.data.toList) := Lib.hid (by simp only [powW]; rw [if_neg (by simp [h0, hc]), if_neg hneg])
    obtain ⟨m, rfl⟩ : ∃ m : Nat, n = (m : Int) := ⟨n.natAbs, by omega⟩
    rw [show (m : Int).natAbs = m by omega] at HR
    have hcm : C.size * m ≤ 1000000 * 1000000 := Nat.mul_le_mul hC (by omega)
    have hrep := fun w => Tryz.strings_Repeat C m w (by omega) (by omega)
    have hrl := repeatL_len C.data.toList m
    have hrl2 : (Lib.repeatL C.data.toList m).length ≤ 1000000000000 := by rw [hrl, Nat.mul_comm]; simp; omega
    have f1 := fin _ hrl2
    have f2 := fin2 _ hrl2
    clear hrl fin fin2 hc
    generalize Lib.repeatL C.data.toList m = X at *
    go_enter Tryz.func260, Tryz.ntmps260
    go_wp2_with fail
    refine (hrep _).mono ?_
    rintro e w2 ⟨rfl, hb2⟩
    go_wp2_with fail
    refine (inverse_any D _ (by omega)).mono ?_
    rintro e w3 ⟨rfl, hb3⟩
    go_wp2
    go_ret
    refine ⟨?_, hb2.trans (hb3.mono hb2.size)⟩
    rw [HR.out]
    exact ret_s (ba_ext (by simp [ByteArray.data_append]))
end Go.Proofs.YteephomlnbbjeaaGreatDoor

namespace Go.Proofs.YteephomlnbbjeaaGreatDoor
open Go Go.RowKit

/-- The greatest number of a power. -/
def mostN (l : List UInt8) : Nat := (100000 - 2 * (conjW (red l)).length) / (coreW (red l)).length

theorem conj_core_len (l : List UInt8) : 2 * (conjW l).length + (coreW l).length = l.length := by
  have := coreN_le l
  simp [conjW, coreW]; omega

theorem toList_empty (l : List UInt8) (h : l ≠ []) : (ByteArray.mk l.toArray).toList.isEmpty = false := by
  rw [ByteArray.toList_eq]; simpa using h

theorem quo_fact (a b m : Nat) (hb : 0 < b) (h : m = a / b) : (a : Int).tdiv (b : Int) = (m : Int) := by subst h; rfl

end Go.Proofs.YteephomlnbbjeaaGreatDoor

namespace Go.Proofs.YteephomlnbbjeaaGreatDoor
open Go Go.RowKit

theorem bs_append (l m : List UInt8) : bs (l ++ m) = bs l ++ bs m := by simp [bs]
theorem bs_len (l : List UInt8) : (bs l).length = l.length := by simp [bs]


/-- append of one byte, by its literal slice. -/
theorem append_byte {ops : Array Oper} {rest : List Oper} {o : Oper} {a : Act} {Q : Exit → Act → World → Prop} (w : World) (hgd : o.guard = none) (s x : Operand)
    (ho : o.op = .call { callee := .builtin .append, args := #[s, x], argTypes := #[82, 82] })
    (B : Nat) (A : Option Addr) (n cap : Nat) (l : List UInt8) (c : UInt8) (hs : a.eval s = .slice A n cap) (hown : w.ownsRow B 5 1 (.slice A n cap) n (bs l))
    (v : Value) (hv : v = .int .u8 c.toNat) (hx : a.eval x = .slice (some ⟨w.heap.size, 0, none⟩) 1 1) (hn : n ≤ 1000000000000) (hB : B ≤ w.heap.size)
    (h : ∀ A' cap' w', w'.ownsRow B 5 1 (.slice A' (n + 1) cap') (n + 1) (bs (l ++ [c])) → Below B w w' → wpList Tryz.prog ops Q rest (a.put o.dst (.slice A' (n + 1) cap')) w') :
    wpList Tryz.prog ops Q (o :: rest) a (w.alloc (.cells #[v] 5)) := by
  subst hv
  obtain ⟨i0, hi, hz0, hz1, hz2⟩ := info_parts Tryz.info5
  refine wpList_append_own _ hgd s x 82 ho B 5 i0 (.int .u8 0) 1 1 Tryz.underlying82 hi hz0 hz1 hz2 rfl (by decide) _ n (bs l) hs (hown.alloc _) ⟨w.heap.size, 0, none⟩ 1 1 [.int .u8 c.toNat] hx rfl (news_one w _ _) (by intro u hu; simp at hu; subst hu; rfl) (by unfold maxLen; omega) (by omega) (by simp; omega) ?_
  intro v' w' hown' hgrow _
  have hlt := hown.lt
  have hb : Below B w w' := ((Below.refl B w).alloc hB _).grown hgrow (by simp; omega) (fun k hk => (hlt k hk).1)
  rcases hown'.2 with ⟨_, hx⟩ | ⟨g, c', cur, rfl, _⟩
  · simp at hx
  · exact h _ _ _ (by rw [bs_append]; exact hown') hb
end Go.Proofs.YteephomlnbbjeaaGreatDoor

namespace Go.Proofs.YteephomlnbbjeaaGreatDoor
open Go Go.RowKit

theorem letter_of_isW {l : List UInt8} (h : isW l = true) : ∀ c ∈ l, 0 ≤ idx c := by
  intro c hc
  simp [isW] at h
  have := h.2 c hc
  simp [letterB] at this
  exact this.1
theorem otherc_of {c : UInt8} (h : 0 ≤ idx c) : otherc c = invc c := by simp [otherc, h]

theorem mem_ba (s : ByteArray) (k : Nat) (h : k < s.size) : s[k] ∈ s.data.toList := by
  have : s[k] = s.data.toList[k]'(by simpa using h) := rfl
  rw [this]; exact List.getElem_mem _

theorem xor_other (x c : UInt8) : (x ^^^ c == 32) = ((x.toNat : Int) == ((invc c).toNat : Int)) := by
  rw [Bool.eq_iff_iff]
  simp only [beq_iff_eq, invc]
  constructor
  · intro h
    have : x = c ^^^ 32 := by rw [← h]; rw [← UInt8.toBitVec_inj]; simp [BitVec.xor_comm x.toBitVec c.toBitVec, ← BitVec.xor_assoc]
    rw [this]
  · intro h
    have : x = c ^^^ 32 := UInt8.toNat_inj.1 (by exact_mod_cast h)
    rw [this, ← UInt8.toBitVec_inj]; simp [BitVec.xor_comm c.toBitVec, BitVec.xor_assoc]

theorem other_quiet (c : UInt8) (w : World) (n : Nat) :
    Calls Tryz.prog 96 #[.int .u8 c.toNat] (w.drewN n) fun e w'' => e = .returned (.int .u8 (otherc c).toNat) ∧ ∃ m, w'' = w.drewN m :=
  Calls.quiet_of_same ((rOther_any c (w.drewN n)).mono fun _ _ h => ⟨h.1, h.2.symm⟩)

theorem ownsRow_take' {w : World} {base e n cap m : Nat} {A : Option Addr} {xs : List Value} (hm : m ≤ n) (h : w.ownsRow base e 1 (.slice A n cap) n xs) :
    w.ownsRow base e 1 (.slice A m cap) m (xs.take m) := by
  rcases h.2 with ⟨h2, h3⟩ | ⟨g', c', cur, hv, hg, hh, hnc, hcm, hcs, ht⟩
  · simp only [Value.slice.injEq] at h2
    obtain ⟨rfl, rfl, rfl⟩ := h2
    obtain rfl : m = 0 := by omega
    obtain rfl : xs = [] := List.length_eq_zero_iff.1 (by simpa using h.1)
    simpa using h
  · simp only [Value.slice.injEq, true_and] at hv
    obtain ⟨rfl, rfl⟩ := hv
    exact ownsRow_take hm h

theorem own_cap {w : World} {base e n cap : Nat} {A : Option Addr} {xs : List Value} (h : w.ownsRow base e 1 (.slice A n cap) n xs) : n ≤ cap := by
  rcases h.2 with ⟨h2, h3⟩ | ⟨g', c', cur, hv, hg, hh, hnc, hcm, hcs, ht⟩
  · simp only [Value.slice.injEq] at h2
    omega
  · simp only [Value.slice.injEq, true_and] at hv
    obtain ⟨rfl, rfl⟩ := hv
    exact hnc

theorem own_cell {w : World} {base e n cap j : Nat} {A : Option Addr} {xs : List Value} (h : w.ownsRow base e 1 (.slice A n cap) n xs) (hj : j < n) :
    ∃ g, A = some ⟨g, 0, none⟩ ∧ w.cell? ⟨g, j, none⟩ = xs[j]? := by
  rcases h.2 with ⟨h2, h3⟩ | ⟨g', c', cur, hv, hg, hh, hnc, hcm, hcs, ht⟩
  · simp only [Value.slice.injEq] at h2
    obtain ⟨rfl, rfl, rfl⟩ := h2
    omega
  · simp only [Value.slice.injEq, true_and] at hv
    obtain ⟨rfl, rfl⟩ := hv
    exact ⟨g', rfl, h.cellAt j (by simpa using hj)⟩

set_option maxHeartbeats 400000 in
set_option maxRecDepth 100000 in
theorem rReduce_yes (s : ByteArray) (w : World) (hw : isW s.data.toList = true) :
    Calls Tryz.prog 39 #[.string s] w fun e w' => e = .returned (.string ⟨(red s.data.toList).toArray⟩) ∧ Below w.heap.size w w' := by
  have hlen := isW_len hw
  have hs : s.size ≤ 100000 := by simpa using hlen
  have hI := rIs_any s w (by unfold maxLen; omega)
  rw [hw] at hI
  have hlet := letter_of_isW hw
  clear hlen hw
  go_enter Tryz.func39, Tryz.ntmps39
  go_wp2_with (go_at_call 95; refine hI.mono ?_; rintro e w' ⟨rfl, rfl⟩)
  clear hI
  go_loopw [3, 4] (fun out i wr => ∃ (k m cap : Nat) (A : Option Addr) (r : List UInt8), k ≤ s.size ∧ m ≤ k ∧ i = .int .i64 k ∧ r = redR (s.data.toList.take k) ∧ m = r.length ∧ out = .slice A m cap ∧
      wr.ownsRow w.heap.size 5 1 (.slice A m cap) m (bs r.reverse) ∧ Below w.heap.size w wr)
    (fun _ i _ => s.size - (intOf i).toNat)
  case atStart => exact ⟨0, 0, 0, none, [], Nat.zero_le _, Nat.le_refl _, rfl, rfl, rfl, rfl, World.ownsRow_nil _ _ _ _, Below.refl _ _⟩
  case round =>
    obtain ⟨k, m, cap, A, r, hk, hmk, rfl, hr, hm, rfl, hown, hb⟩ := hrel
    have HB := Lib.hid hb
    clear hb
    by_cases hlt : k < s.size
    · have hsn := redR_snoc s k hlt
      rw [← hr] at hsn
      have HSN := Lib.hid hsn
      have ho : otherc s[k] = invc s[k] := otherc_of (hlet _ (mem_ba s k hlt))
      clear hsn hr hlet
      cases r with
      | nil =>
        obtain rfl : m = 0 := by simpa using hm
        clear hm ho
        have HO := Lib.hid hown
        clear hown
        go_wp2
        go_quiet (fail)
        go_wp2_with (at_builtin; refine append_byte (wr.drewN nq) rfl (.tmp 35) (.tmp 39) rfl w.heap.size A 0 cap [] s[k] rfl (show (wr.drewN nq).ownsRow _ _ _ _ _ _ from HO.out) _ rfl rfl (by omega) HB.out.size ?_; intro A' cap' w1 hown1 hb1)
        go_roundw
        case rel => exact ⟨k + 1, 1, cap', A', [s[k]], by omega, by omega, by go_num, by rw [HSN.out]; rfl, rfl, rfl, hown1, (HB.out.drewN nq).trans hb1⟩
        case measure => simp [intOf]; omega
      | cons x t =>
        obtain rfl : m = t.length + 1 := by simpa using hm
        clear hm
        obtain ⟨g, rfl, hc⟩ := own_cell hown (j := t.length) (by omega)
        have hx : (bs (x :: t).reverse)[t.length]? = some (.int .u8 x.toNat) := by simp [bs]
        rw [hx] at hc
        clear hx
        have hoq := other_quiet s[k] wr
        rw [ho] at hoq
        have HQ := Lib.hid hoq
        have hxc := xor_other x s[k]
        clear hoq ho
        have HO := Lib.hid hown
        by_cases hcc : (x ^^^ s[k] == 32) = true
        · simp only [stp, hcc, if_true] at HSN
          rw [hcc] at hxc
          have hd : ((x.toNat : Int) == ((invc s[k]).toNat : Int)) = true := hxc.symm
          have ht : wr.ownsRow w.heap.size 5 1 (.slice (some ⟨g, 0, none⟩) t.length cap) t.length (bs t.reverse) := by
            have := ownsRow_take (m := t.length) (by omega) hown
            simpa [bs] using this
          have HTT := Lib.hid ht
          have hcap : t.length ≤ cap := by have := own_cap hown; omega
          clear hxc hcc ht hown
          go_wp2
          go_quiet ((go_at_call 96; exact HQ.out _))
          go_wp2
          go_roundw
          case rel => exact ⟨k + 1, t.length, cap, some ⟨g, 0, none⟩, t, by omega, by omega, by go_num, HSN.out.symm, rfl, rfl, HTT.out, HB.out.drewN nq⟩
          case measure => simp [intOf]; omega
        · have hcf : (x ^^^ s[k] == 32) = false := by simpa using hcc
          rw [hcf] at hxc
          simp only [stp, hcf] at HSN
          have hd : ((x.toNat : Int) == ((invc s[k]).toNat : Int)) = false := hxc.symm
          clear hxc hcc hcf hown
          go_wp2
          go_quiet ((go_at_call 96; exact HQ.out _))
          go_wp2_with (at_builtin; refine append_byte (wr.drewN nq) rfl (.tmp 35) (.tmp 39) rfl w.heap.size (some ⟨g, 0, none⟩) (t.length + 1) cap (x :: t).reverse s[k] rfl (show (wr.drewN nq).ownsRow _ _ _ _ _ _ from HO.out) _ rfl rfl (by omega) HB.out.size ?_; intro A' cap' w1 hown1 hb1)
          go_roundw
          case rel => exact ⟨k + 1, t.length + 1 + 1, cap', A', s[k] :: x :: t, by omega, by omega, by go_num, HSN.out.symm, rfl, rfl, by simpa using hown1, (HB.out.drewN nq).trans hb1⟩
          case measure => simp [intOf]; omega
    · have hk' : k = s.size := by omega
      subst hk'
      rw [List.take_of_length_le (by simp)] at hr
      have hrun := run_string_own (P := Tryz.prog) wr 82 9 5 Tryz.underlying82 Tryz.underlying5 Tryz.underlying9 _ _ _ _ _ hown
      have hz : r.reverse = red s.data.toList := by rw [hr]; rfl
      have HZ := Lib.hid hz
      generalize r.reverse = L at *
      clear hz hr hm hown hlet
      go_wp2
      go_ret
      exact ⟨by rw [← HZ.out]; rfl, HB.out⟩

set_option maxHeartbeats 400000 in
theorem rInverse_yes (s : ByteArray) (w : World) (hw : isW s.data.toList = true) :
    Calls Tryz.prog 42 #[.string s] w fun e w' => e = .returned (.string ⟨(invW s.data.toList).toArray⟩) ∧ Below w.heap.size w w' := by
  have hlen := isW_len hw
  have hs : s.size ≤ 100000 := by simpa using hlen
  have hI := rIs_any s w (by unfold maxLen; omega)
  rw [hw] at hI
  have hlet := letter_of_isW hw
  clear hlen hw
  go_enter Tryz.func42, Tryz.ntmps42
  go_wp2_with (go_at_call 95; refine hI.mono ?_; rintro e w' ⟨rfl, rfl⟩)
  clear hI
  go_loopw [3, 4] (fun out i wr => ∃ (k cap : Nat) (A : Option Addr), k ≤ s.size ∧ i = .int .i64 ((s.size : Int) - 1 - k) ∧ out = .slice A k cap ∧
      wr.ownsRow w.heap.size 5 1 (.slice A k cap) k (bs (invW (s.data.toList.drop (s.size - k)))) ∧ Below w.heap.size w wr)
    (fun _ i _ => (intOf i + 1).toNat)
  case atStart => exact ⟨0, 0, none, Nat.zero_le _, by go_num, rfl, by rw [Nat.sub_zero, List.drop_eq_nil_of_le (by simp)]; exact World.ownsRow_nil _ _ _ _, Below.refl _ _⟩
  case round =>
    obtain ⟨k, cap, A, hk, rfl, rfl, hown, hb⟩ := hrel
    have HB := Lib.hid hb
    clear hb
    by_cases hlt : k < s.size
    · obtain ⟨m, hm⟩ : ∃ m : Nat, s.size - 1 - k = m := ⟨_, rfl⟩
      have hms : m < s.size := by omega
      have hj : ((s.size : Int) - 1 - ↑k) = (m : Int) := by omega
      have ho : otherc s[m] = invc s[m] := otherc_of (hlet _ (mem_ba s m hms))
      have hQ := rOther_any s[m] wr
      rw [ho] at hQ
      have hd : invW (s.data.toList.drop (s.size - (k + 1))) = invW (s.data.toList.drop (s.size - k)) ++ [invc s[m]] := by
        have h1 : m < s.data.toList.length := by simpa using hms
        rw [show s.size - (k + 1) = m by omega, show s.size - k = m + 1 by omega, List.drop_eq_getElem_cons h1]
        simp [invW]; rfl
      have HD := Lib.hid hd
      have HO := Lib.hid hown
      have HM := Lib.hid hm
      rw [hj]
      clear hd hown ho hlet hm hj
      go_wp2_with (first | (go_at_call 96; refine hQ.mono ?_; rintro e w' ⟨rfl, rfl⟩) | (at_builtin; refine append_byte wr rfl (.tmp 15) (.tmp 20) rfl w.heap.size A k cap _ (invc s[m]) rfl HO.out _ rfl rfl (by omega) HB.out.size ?_; intro A' cap' w1 hown1 hb1))
      go_roundw
      case rel => exact ⟨k + 1, cap', A', by omega, by have := HM.out; go_num, rfl, by rw [HD.out]; exact hown1, HB.out.trans hb1⟩
      case measure => simp [intOf]
    · have hk' : k = s.size := by omega
      subst hk'
      rw [Nat.sub_self, List.drop_zero] at hown
      have hrun := run_string_own (P := Tryz.prog) wr 82 9 5 Tryz.underlying82 Tryz.underlying5 Tryz.underlying9 _ _ _ _ _ hown
      have hz : ((s.size : Int) - 1 - ↑s.size) = -1 := by omega
      rw [hz]
      have HR : Hid (invW s.data.toList = invW s.data.toList) := Lib.hid rfl
      generalize hL : invW s.data.toList = L at *
      have HL := Lib.hid hL
      clear hL hown hlet hz
      go_wp2
      go_ret
      exact ⟨by rw [HL.out]; rfl, HB.out⟩
end Go.Proofs.YteephomlnbbjeaaGreatDoor

namespace Go.Proofs.YteephomlnbbjeaaGreatDoor
open Go Go.RowKit

/-- How long the run of the first letter is. -/
def runN : List UInt8 → Nat
  | [] => 0
  | c :: t => ((c :: t).takeWhile (· == c)).length
/-- The text of a word, run by run. -/
def textF : Nat → Bool → List UInt8 → List UInt8
  | 0, _, _ => []
  | _ + 1, _, [] => []
  | f + 1, first, c :: t =>
    (if first then [] else [32]) ++ [c] ++ (if 1 < runN (c :: t) then 94 :: Lib.itoa (runN (c :: t)) else []) ++ textF f false ((c :: t).drop (runN (c :: t)))
def textW (l : List UInt8) : List UInt8 := if l = [] then [49] else textF l.length true l

theorem runN_pos (c : UInt8) (t : List UInt8) : 1 ≤ runN (c :: t) := by simp [runN, List.takeWhile_cons]
theorem takeWhile_len_le (p : UInt8 → Bool) : ∀ l : List UInt8, (l.takeWhile p).length ≤ l.length
  | [] => by simp
  | c :: t => by have := takeWhile_len_le p t; rw [List.takeWhile_cons]; split <;> simp; omega
theorem runN_le (l : List UInt8) : runN l ≤ l.length := by
  cases l with
  | nil => simp [runN]
  | cons c t => exact takeWhile_len_le _ _
theorem takeWhile_get (p : UInt8 → Bool) : ∀ (l : List UInt8) (i : Nat) (h : i < l.length), i < (l.takeWhile p).length → p l[i] = true
  | [], i, h, h2 => by simp at h
  | c :: t, i, h, h2 => by
    rw [List.takeWhile_cons] at h2
    split at h2
    · cases i with
      | zero => assumption
      | succ i => exact takeWhile_get p t i (by simpa using h) (by simpa using h2)
    · simp at h2
theorem takeWhile_stop (p : UInt8 → Bool) : ∀ (l : List UInt8) (h : (l.takeWhile p).length < l.length), p (l[(l.takeWhile p).length]'h) = false
  | [], h => by simp at h
  | c :: t, h => by
    by_cases hc : p c = true
    · have e : (List.takeWhile p (c :: t)).length = (List.takeWhile p t).length + 1 := by simp [List.takeWhile_cons, hc]
      have := takeWhile_stop p t (by rw [e] at h; simpa using h)
      simp only [e, List.getElem_cons_succ]
      exact this
    · have e : (List.takeWhile p (c :: t)).length = 0 := by simp [List.takeWhile_cons, hc]
      simp only [e, List.getElem_cons_zero]
      simpa using hc

theorem run_in (s : ByteArray) (a e : Nat) (ha : a < s.size) (he : a ≤ e) (h : e < a + runN (s.data.toList.drop a)) : ∃ h1 : e < s.size, s[e] = s[a] := by
  have hl : a < s.data.toList.length := by simpa using ha
  have hd := List.drop_eq_getElem_cons hl
  have hrl := runN_le (s.data.toList.drop a)
  have hz : (s.data.toList.drop a).length = s.size - a := by simp
  refine ⟨by omega, ?_⟩
  have hlt : e - a < (s.data.toList.drop a).length := by omega
  have hr : runN (s.data.toList.drop a) = ((s.data.toList.drop a).takeWhile (· == s[a])).length := by rw [hd]; rfl
  have := takeWhile_get (· == s[a]) _ (e - a) hlt (by rw [← hr]; omega)
  simp only [beq_iff_eq, List.getElem_drop] at this
  have e2 : a + (e - a) = e := by omega
  simp only [e2] at this
  exact this
theorem run_end (s : ByteArray) (a : Nat) (ha : a < s.size) (h1 : a + runN (s.data.toList.drop a) < s.size) : s[a + runN (s.data.toList.drop a)] ≠ s[a] := by
  have hl : a < s.data.toList.length := by simpa using ha
  have hd := List.drop_eq_getElem_cons hl
  have hz : (s.data.toList.drop a).length = s.size - a := by simp
  have hr : runN (s.data.toList.drop a) = ((s.data.toList.drop a).takeWhile (· == s[a])).length := by rw [hd]; rfl
  have := takeWhile_stop (· == s[a]) (s.data.toList.drop a) (by rw [← hr]; omega)
  simp only [List.getElem_drop, ← hr] at this
  intro hc
  have hc' : s.data.toList[a + runN (s.data.toList.drop a)]'(by simpa using h1) = s[a] := hc
  rw [hc'] at this
  simp at this

theorem text_step (s : ByteArray) (a f : Nat) (b : Bool) (ha : a < s.size) :
    textF (f + 1) b (s.data.toList.drop a) = (if b then [] else [32]) ++ [s[a]] ++ (if 1 < runN (s.data.toList.drop a) then 94 :: Lib.itoa (runN (s.data.toList.drop a)) else []) ++ textF f false (s.data.toList.drop (a + runN (s.data.toList.drop a))) := by
  have hl : a < s.data.toList.length := by simpa using ha
  have hd := List.drop_eq_getElem_cons hl
  rw [← List.drop_drop, hd]
  rfl

theorem itoa_len (n : Nat) (h : n ≤ 1000000) : (Lib.itoa n).length ≤ 20 := by
  rw [Lib.itoa_nonneg, Lib.decDigits_length]; exact Lib.nDigits_le20 n (by omega)

theorem own_slice {w : World} {B e n : Nat} {v : Value} {xs : List Value} (h : w.ownsRow B e 1 v n xs) (hn : 0 < n) : ∃ g cap, v = .slice (some ⟨g, 0, none⟩) n cap := by
  rcases h.2 with ⟨rfl, hx⟩ | ⟨g, cap, cur, rfl, _⟩
  · have h1 := h.1
    first
      | (subst hx; simp at h1; omega)
      | (rw [hx] at h1; simp at h1; omega)
      | omega
  · exact ⟨g, cap, rfl⟩

set_option maxHeartbeats 1000000 in
set_option maxRecDepth 100000 in
theorem Text_yes (s : ByteArray) (w : World) (ht : Tabs w) (hw : isW s.data.toList = true) :
    Calls Tryz.prog 60 #[.string s] w fun e w' => e = .returned (.string ⟨(textW s.data.toList).toArray⟩) ∧ Below w.heap.size w w' := by
  have hlen := isW_len hw
  have hs : s.size ≤ 100000 := by simpa using hlen
  have hI := isWord_any s w ht (by unfold maxLen; omega)
  rw [hw] at hI
  clear hlen hw
  by_cases hem : s.data.toList = []
  · obtain rfl : s = ⟨#[]⟩ := ba_ext (by rw [hem])
    clear hem ht
    go_enter Tryz.func60, Tryz.ntmps60
    go_wp2_with (go_at_call 114; refine hI.mono ?_; rintro e w' ⟨rfl, rfl⟩)
    go_ret
    exact ⟨rfl, Below.refl _ _⟩
  have he : s.toList.isEmpty = false := by rw [ByteArray.toList_eq]; simpa using hem
  have HW : Hid (textW s.data.toList = textF s.data.toList.length true (s.data.toList.drop 0)) := Lib.hid (by simp [textW, hem])
  have h3 := ht.three
  have HT := Lib.hid ht
  clear hem ht
  go_enter Tryz.func60, Tryz.ntmps60
  go_wp2_with (go_at_call 114; refine hI.mono ?_; rintro e w' ⟨rfl, rfl⟩)
  clear hI
  go_loopw [3, 4, 5] (fun out i j wr => ∃ (a m cap f : Nat) (A : Option Addr) (T : List UInt8), a ≤ s.size ∧ i = .int .i64 a ∧ j = .int .i64 a ∧ out = .slice A m cap ∧ m ≤ 30 * a ∧
      wr.ownsRow w.heap.size 5 1 (.slice A m cap) m (bs T) ∧ s.size ≤ f + a ∧ T ++ textF f (a == 0) (s.data.toList.drop a) = textW s.data.toList ∧ Below w.heap.size w wr)
    (fun _ i _ _ => s.size - (intOf i).toNat)
  case atStart => exact ⟨0, 0, 0, s.size, none, [], Nat.zero_le _, rfl, rfl, rfl, by simp, World.ownsRow_nil _ _ _ _, by omega, by rw [HW.out]; rfl, Below.refl _ _⟩
  case round =>
    obtain ⟨a, m, cap, f, A, T, ha, rfl, rfl, rfl, hTl, hown, hf, htx, hb⟩ := hrel
    have HB := Lib.hid hb
    have HO := Lib.hid hown
    clear hb hown
    by_cases hlt : a < s.size
    · obtain ⟨g, rfl⟩ : ∃ g, f = g + 1 := ⟨f - 1, by omega⟩
      rw [text_step s a g _ hlt] at htx
      have hr1 : 1 ≤ runN (s.data.toList.drop a) := by
        rw [List.drop_eq_getElem_cons (show a < s.data.toList.length by simpa using hlt)]; exact runN_pos _ _
      have hr2 := runN_le (s.data.toList.drop a)
      have hin := run_in s a
      have hen := run_end s a hlt
      rw [List.length_drop, show s.data.toList.length = s.size by simp] at hr2
      generalize hrr : runN (s.data.toList.drop a) = r at *
      have HX := Lib.hid htx
      have HIN := Lib.hid hin
      have HEN := Lib.hid hen
      clear hrr htx hin hen
      obtain ⟨wo, hwo⟩ : ∃ wo : World, wo = wr := ⟨_, rfl⟩
      rw [← hwo]
      have HWO := Lib.hid hwo
      clear hwo
      go_wp2
      go_loopw [5] (fun j w2 => ∃ (e n : Nat), a ≤ e ∧ e ≤ a + r ∧ j = .int .i64 e ∧ w2 = wo.drewN n)
        (fun j _ => s.size - (intOf j).toNat)
      case atStart => exact ⟨a, 0, Nat.le_refl _, by omega, rfl, rfl⟩
      case round =>
        obtain ⟨e, n, he1, he2, rfl, hw2⟩ := hrel
        have HW2 := Lib.hid hw2
        clear hw2
        by_cases hlt2 : e < a + r
        · obtain ⟨hes, heq⟩ := HIN.out e hlt he1 hlt2
          have hd1 : decide (e < s.size) = true := by simpa using hes
          have hd2 : ((s[e].toNat : Int) == (s[a].toNat : Int)) = true := by rw [heq]; simp
          clear heq
          go_wp2
          go_quiet (fail)
          go_wp2
          go_roundw
          case rel => exact ⟨e + 1, n + nq, by omega, by omega, by go_num, by rw [HW2.out, World.drewN_drewN]⟩
          case measure => simp [intOf]; omega
        · obtain rfl : e = a + r := by omega
          have hw3 : ∀ q, Below w.heap.size w (wr.drewN q) := fun q => by rw [HW2.out, HWO.out]; exact (HB.out.drewN n).drewN q
          have ho3 : ∀ q, (wr.drewN q).ownsRow w.heap.size 5 1 (.slice A m cap) m (bs T) := fun q => by rw [HW2.out, HWO.out]; exact HO.out
          have HW3 := Lib.hid hw3
          have HO3 := Lib.hid ho3
          have hrest : s.data.toList.drop (a + r) = s.data.toList.drop (a + r) := rfl
          clear hw3 ho3 hrest
          have hcast : ((a : Int) + (r : Int)) - (a : Int) = (r : Int) := by omega
          obtain ⟨er, her⟩ : ∃ er : Nat, a + r = er := ⟨_, rfl⟩
          have hsub : (er : Int) - (a : Int) = (r : Int) := by omega
          rw [her] at HX HEN
          rw [her]
          have HER := Lib.hid her
          have hle : er ≤ s.size := by omega
          have hage : a < er := by omega
          clear her hcast he1 he2 hlt2
          by_cases hes : er < s.size
          · have hne := HEN.out hes
            have hd1 : decide (er < s.size) = true := by simpa using hes
            have hd2 : ((s[er].toNat : Int) == (s[a].toNat : Int)) = false := by
              rw [beq_eq_false_iff_ne]; intro h; exact hne (UInt8.toNat_inj.1 (by exact_mod_cast h))
            clear hne
            go_wp2
            go_quiet (fail)
            by_cases ha0 : a = 0
            · by_cases hr0 : 1 < r
              · have haI : a ≤ 0 := by omega
                have hdA : decide (0 < a) = false := by simp; omega
                have hdR : decide (1 < r) = true := by simp; omega
                have hab : (a == 0) = true := by simp [ha0]
                rw [hab] at HX
                rw [if_pos hr0] at HX
                have hil := itoa_len r (by omega)
                have HIL := Lib.hid hil
                clear hab hil ha0
                go_wp2_with (first | (at_builtin; refine append_byte (wr.drewN nq) rfl (.tmp 37) (.tmp 41) rfl w.heap.size _ _ _ _ s[a] rfl (HO3.out nq) _ rfl rfl (by omega) (HW3.out nq).size ?_; intro A2 cap2 w2 hown2 hb2; have H2 := Lib.hid hown2; have B2 := Lib.hid ((HW3.out nq).trans hb2); clear hown2 hb2) | (at_builtin; refine append_byte w2 rfl (.tmp 48) (.tmp 49) rfl w.heap.size _ _ _ _ 94 rfl H2.out _ rfl rfl (by omega) B2.out.size ?_; intro A3 cap3 w3 hown3 hb3; have H3 := Lib.hid hown3; have B3 := Lib.hid (B2.out.trans hb3); clear hown3 hb3) | (go_at_call 115; refine (Tryz.strconv_AppendInt_10 w.heap.size _ r (by omega) (by omega) _ _ _ H3.out B3.out.size (by omega) ((HT.out.tab h3).on B3.out)).mono ?_; rintro e w4 ⟨v4, rfl, hown4, hb4, -⟩; obtain ⟨g4, cap4, rfl⟩ := own_slice hown4 (by omega); have H4 := Lib.hid hown4; have B4 := Lib.hid (B3.out.trans hb4); clear hown4 hb4))
                go_roundw
                case rel =>
                  have hil := HIL.out
                  refine ⟨er, m + 1 + 1 + (Lib.itoa r).length, cap4, g, some ⟨g4, 0, none⟩, T ++ [s[a]] ++ [94] ++ Lib.itoa r, hle, rfl, rfl, rfl, by omega, ?_, by omega, ?_, B4.out⟩
                  · rw [bs_append]; exact H4.out
                  · rw [← HX.out, show (er == 0) = false by simp; omega]; simp
                case measure => simp [intOf]; omega
              · have haI : a ≤ 0 := by omega
                have hdA : decide (0 < a) = false := by simp; omega
                have hdR : decide (1 < r) = false := by simp; omega
                have hab : (a == 0) = true := by simp [ha0]
                rw [hab] at HX
                rw [if_neg hr0] at HX
                have hil := itoa_len r (by omega)
                have HIL := Lib.hid hil
                clear hab hil ha0
                go_wp2_with (first | (at_builtin; refine append_byte (wr.drewN nq) rfl (.tmp 37) (.tmp 41) rfl w.heap.size _ _ _ _ s[a] rfl (HO3.out nq) _ rfl rfl (by omega) (HW3.out nq).size ?_; intro A2 cap2 w2 hown2 hb2; have H2 := Lib.hid hown2; have B2 := Lib.hid ((HW3.out nq).trans hb2); clear hown2 hb2))
                go_roundw
                case rel =>
                  have hil := HIL.out
                  refine ⟨er, m + 1, cap2, g, A2, T ++ [s[a]], hle, rfl, rfl, rfl, by omega, ?_, by omega, ?_, B2.out⟩
                  · exact H2.out
                  · rw [← HX.out, show (er == 0) = false by simp; omega]; simp
                case measure => simp [intOf]; omega
            · by_cases hr0 : 1 < r
              · have haI : 0 < a := by omega
                have hdA : decide (0 < a) = true := by simp; omega
                have hdR : decide (1 < r) = true := by simp; omega
                have hab : (a == 0) = false := by simp [ha0]
                rw [hab] at HX
                rw [if_pos hr0] at HX
                have hil := itoa_len r (by omega)
                have HIL := Lib.hid hil
                clear hab hil ha0
                go_wp2_with (first | (at_builtin; refine append_byte (wr.drewN nq) rfl (.tmp 34) (.tmp 35) rfl w.heap.size _ _ _ _ 32 rfl (HO3.out nq) _ rfl rfl (by omega) (HW3.out nq).size ?_; intro A1 cap1 w1 hown1 hb1; have H1 := Lib.hid hown1; have B1 := Lib.hid ((HW3.out nq).trans hb1); clear hown1 hb1) | (at_builtin; refine append_byte w1 rfl (.tmp 37) (.tmp 41) rfl w.heap.size _ _ _ _ s[a] rfl H1.out _ rfl rfl (by omega) B1.out.size ?_; intro A2 cap2 w2 hown2 hb2; have H2 := Lib.hid hown2; have B2 := Lib.hid (B1.out.trans hb2); clear hown2 hb2) | (at_builtin; refine append_byte w2 rfl (.tmp 48) (.tmp 49) rfl w.heap.size _ _ _ _ 94 rfl H2.out _ rfl rfl (by omega) B2.out.size ?_; intro A3 cap3 w3 hown3 hb3; have H3 := Lib.hid hown3; have B3 := Lib.hid (B2.out.trans hb3); clear hown3 hb3) | (go_at_call 115; refine (Tryz.strconv_AppendInt_10 w.heap.size _ r (by omega) (by omega) _ _ _ H3.out B3.out.size (by omega) ((HT.out.tab h3).on B3.out)).mono ?_; rintro e w4 ⟨v4, rfl, hown4, hb4, -⟩; obtain ⟨g4, cap4, rfl⟩ := own_slice hown4 (by omega); have H4 := Lib.hid hown4; have B4 := Lib.hid (B3.out.trans hb4); clear hown4 hb4))
                go_roundw
                case rel =>
                  have hil := HIL.out
                  refine ⟨er, m + 1 + 1 + 1 + (Lib.itoa r).length, cap4, g, some ⟨g4, 0, none⟩, T ++ [32] ++ [s[a]] ++ [94] ++ Lib.itoa r, hle, rfl, rfl, rfl, by omega, ?_, by omega, ?_, B4.out⟩
                  · rw [bs_append]; exact H4.out
                  · rw [← HX.out, show (er == 0) = false by simp; omega]; simp
                case measure => simp [intOf]; omega
              · have haI : 0 < a := by omega
                have hdA : decide (0 < a) = true := by simp; omega
                have hdR : decide (1 < r) = false := by simp; omega
                have hab : (a == 0) = false := by simp [ha0]
                rw [hab] at HX
                rw [if_neg hr0] at HX
                have hil := itoa_len r (by omega)
                have HIL := Lib.hid hil
                clear hab hil ha0
                go_wp2_with (first | (at_builtin; refine append_byte (wr.drewN nq) rfl (.tmp 34) (.tmp 35) rfl w.heap.size _ _ _ _ 32 rfl (HO3.out nq) _ rfl rfl (by omega) (HW3.out nq).size ?_; intro A1 cap1 w1 hown1 hb1; have H1 := Lib.hid hown1; have B1 := Lib.hid ((HW3.out nq).trans hb1); clear hown1 hb1) | (at_builtin; refine append_byte w1 rfl (.tmp 37) (.tmp 41) rfl w.heap.size _ _ _ _ s[a] rfl H1.out _ rfl rfl (by omega) B1.out.size ?_; intro A2 cap2 w2 hown2 hb2; have H2 := Lib.hid hown2; have B2 := Lib.hid (B1.out.trans hb2); clear hown2 hb2))
                go_roundw
                case rel =>
                  have hil := HIL.out
                  refine ⟨er, m + 1 + 1, cap2, g, A2, T ++ [32] ++ [s[a]], hle, rfl, rfl, rfl, by omega, ?_, by omega, ?_, B2.out⟩
                  · exact H2.out
                  · rw [← HX.out, show (er == 0) = false by simp; omega]; simp
                case measure => simp [intOf]; omega
          · have hd1 : decide (er < s.size) = false := by simpa using hes
            go_wp2
            go_quiet (fail)
            by_cases ha0 : a = 0
            · by_cases hr0 : 1 < r
              · have haI : a ≤ 0 := by omega
                have hdA : decide (0 < a) = false := by simp; omega
                have hdR : decide (1 < r) = true := by simp; omega
                have hab : (a == 0) = true := by simp [ha0]
                rw [hab] at HX
                rw [if_pos hr0] at HX
                have hil := itoa_len r (by omega)
                have HIL := Lib.hid hil
                clear hab hil ha0
                go_wp2_with (first | (at_builtin; refine append_byte (wr.drewN nq) rfl (.tmp 37) (.tmp 41) rfl w.heap.size _ _ _ _ s[a] rfl (HO3.out nq) _ rfl rfl (by omega) (HW3.out nq).size ?_; intro A2 cap2 w2 hown2 hb2; have H2 := Lib.hid hown2; have B2 := Lib.hid ((HW3.out nq).trans hb2); clear hown2 hb2) | (at_builtin; refine append_byte w2 rfl (.tmp 48) (.tmp 49) rfl w.heap.size _ _ _ _ 94 rfl H2.out _ rfl rfl (by omega) B2.out.size ?_; intro A3 cap3 w3 hown3 hb3; have H3 := Lib.hid hown3; have B3 := Lib.hid (B2.out.trans hb3); clear hown3 hb3) | (go_at_call 115; refine (Tryz.strconv_AppendInt_10 w.heap.size _ r (by omega) (by omega) _ _ _ H3.out B3.out.size (by omega) ((HT.out.tab h3).on B3.out)).mono ?_; rintro e w4 ⟨v4, rfl, hown4, hb4, -⟩; obtain ⟨g4, cap4, rfl⟩ := own_slice hown4 (by omega); have H4 := Lib.hid hown4; have B4 := Lib.hid (B3.out.trans hb4); clear hown4 hb4))
                go_roundw
                case rel =>
                  have hil := HIL.out
                  refine ⟨er, m + 1 + 1 + (Lib.itoa r).length, cap4, g, some ⟨g4, 0, none⟩, T ++ [s[a]] ++ [94] ++ Lib.itoa r, hle, rfl, rfl, rfl, by omega, ?_, by omega, ?_, B4.out⟩
                  · rw [bs_append]; exact H4.out
                  · rw [← HX.out, show (er == 0) = false by simp; omega]; simp
                case measure => simp [intOf]; omega
              · have haI : a ≤ 0 := by omega
                have hdA : decide (0 < a) = false := by simp; omega
                have hdR : decide (1 < r) = false := by simp; omega
                have hab : (a == 0) = true := by simp [ha0]
                rw [hab] at HX
                rw [if_neg hr0] at HX
                have hil := itoa_len r (by omega)
                have HIL := Lib.hid hil
                clear hab hil ha0
                go_wp2_with (first | (at_builtin; refine append_byte (wr.drewN nq) rfl (.tmp 37) (.tmp 41) rfl w.heap.size _ _ _ _ s[a] rfl (HO3.out nq) _ rfl rfl (by omega) (HW3.out nq).size ?_; intro A2 cap2 w2 hown2 hb2; have H2 := Lib.hid hown2; have B2 := Lib.hid ((HW3.out nq).trans hb2); clear hown2 hb2))
                go_roundw
                case rel =>
                  have hil := HIL.out
                  refine ⟨er, m + 1, cap2, g, A2, T ++ [s[a]], hle, rfl, rfl, rfl, by omega, ?_, by omega, ?_, B2.out⟩
                  · exact H2.out
                  · rw [← HX.out, show (er == 0) = false by simp; omega]; simp
                case measure => simp [intOf]; omega
            · by_cases hr0 : 1 < r
              · have haI : 0 < a := by omega
                have hdA : decide (0 < a) = true := by simp; omega
                have hdR : decide (1 < r) = true := by simp; omega
                have hab : (a == 0) = false := by simp [ha0]
                rw [hab] at HX
                rw [if_pos hr0] at HX
                have hil := itoa_len r (by omega)
                have HIL := Lib.hid hil
                clear hab hil ha0
                go_wp2_with (first | (at_builtin; refine append_byte (wr.drewN nq) rfl (.tmp 34) (.tmp 35) rfl w.heap.size _ _ _ _ 32 rfl (HO3.out nq) _ rfl rfl (by omega) (HW3.out nq).size ?_; intro A1 cap1 w1 hown1 hb1; have H1 := Lib.hid hown1; have B1 := Lib.hid ((HW3.out nq).trans hb1); clear hown1 hb1) | (at_builtin; refine append_byte w1 rfl (.tmp 37) (.tmp 41) rfl w.heap.size _ _ _ _ s[a] rfl H1.out _ rfl rfl (by omega) B1.out.size ?_; intro A2 cap2 w2 hown2 hb2; have H2 := Lib.hid hown2; have B2 := Lib.hid (B1.out.trans hb2); clear hown2 hb2) | (at_builtin; refine append_byte w2 rfl (.tmp 48) (.tmp 49) rfl w.heap.size _ _ _ _ 94 rfl H2.out _ rfl rfl (by omega) B2.out.size ?_; intro A3 cap3 w3 hown3 hb3; have H3 := Lib.hid hown3; have B3 := Lib.hid (B2.out.trans hb3); clear hown3 hb3) | (go_at_call 115; refine (Tryz.strconv_AppendInt_10 w.heap.size _ r (by omega) (by omega) _ _ _ H3.out B3.out.size (by omega) ((HT.out.tab h3).on B3.out)).mono ?_; rintro e w4 ⟨v4, rfl, hown4, hb4, -⟩; obtain ⟨g4, cap4, rfl⟩ := own_slice hown4 (by omega); have H4 := Lib.hid hown4; have B4 := Lib.hid (B3.out.trans hb4); clear hown4 hb4))
                go_roundw
                case rel =>
                  have hil := HIL.out
                  refine ⟨er, m + 1 + 1 + 1 + (Lib.itoa r).length, cap4, g, some ⟨g4, 0, none⟩, T ++ [32] ++ [s[a]] ++ [94] ++ Lib.itoa r, hle, rfl, rfl, rfl, by omega, ?_, by omega, ?_, B4.out⟩
                  · rw [bs_append]; exact H4.out
                  · rw [← HX.out, show (er == 0) = false by simp; omega]; simp
                case measure => simp [intOf]; omega
              · have haI : 0 < a := by omega
                have hdA : decide (0 < a) = true := by simp; omega
                have hdR : decide (1 < r) = false := by simp; omega
                have hab : (a == 0) = false := by simp [ha0]
                rw [hab] at HX
                rw [if_neg hr0] at HX
                have hil := itoa_len r (by omega)
                have HIL := Lib.hid hil
                clear hab hil ha0
                go_wp2_with (first | (at_builtin; refine append_byte (wr.drewN nq) rfl (.tmp 34) (.tmp 35) rfl w.heap.size _ _ _ _ 32 rfl (HO3.out nq) _ rfl rfl (by omega) (HW3.out nq).size ?_; intro A1 cap1 w1 hown1 hb1; have H1 := Lib.hid hown1; have B1 := Lib.hid ((HW3.out nq).trans hb1); clear hown1 hb1) | (at_builtin; refine append_byte w1 rfl (.tmp 37) (.tmp 41) rfl w.heap.size _ _ _ _ s[a] rfl H1.out _ rfl rfl (by omega) B1.out.size ?_; intro A2 cap2 w2 hown2 hb2; have H2 := Lib.hid hown2; have B2 := Lib.hid (B1.out.trans hb2); clear hown2 hb2))
                go_roundw
                case rel =>
                  have hil := HIL.out
                  refine ⟨er, m + 1 + 1, cap2, g, A2, T ++ [32] ++ [s[a]], hle, rfl, rfl, rfl, by omega, ?_, by omega, ?_, B2.out⟩
                  · exact H2.out
                  · rw [← HX.out, show (er == 0) = false by simp; omega]; simp
                case measure => simp [intOf]; omega
    · have hk' : a = s.size := by omega
      subst hk'
      have hz : T = textW s.data.toList := by
        rw [← htx]; rw [List.drop_eq_nil_of_le (by simp)]; cases f <;> simp [textF]
      have hrun := run_string_own (P := Tryz.prog) wr 82 9 5 Tryz.underlying82 Tryz.underlying5 Tryz.underlying9 _ _ _ _ _ HO.out
      have HZ := Lib.hid hz
      clear hz htx
      go_wp2
      go_ret
      exact ⟨by rw [← HZ.out]; rfl, HB.out⟩
end Go.Proofs.YteephomlnbbjeaaGreatDoor
