/-
  Our own text, in the proofs of the laws of package word (cayleylaw01). Proved here: Reduce and Inverse of the reference package, at words. Conditions: the arguments read as the row says and the listed tables lie as the program lays them; none other.
-/
import Derived.Test.YtflieikbhgneoaaGreatDoorWl
import Derived.Test.YtflieikbhgneoaaGreatDoorLap
namespace Go.Proofs.YtflieikbhgneoaaGreatDoor
open Go Go.RowKit

theorem letter_of_isW {l : List UInt8} (h : isW l = true) : ∀ c ∈ l, 0 ≤ idx c := by
  intro c hc
  simp [isW] at h
  have := h.2 c hc
  simp [letterB] at this
  exact this.1
theorem otherc_of {c : UInt8} (h : 0 ≤ idx c) : otherc c = invc c := by simp [otherc, h]

theorem mem_ba (s : ByteArray) (k : Nat) (h : k < s.size) : s[k] ∈ s.data.toList := by
  have : s[k] = s.data.toList[k]'(by simpa using h) := rfl
  rw [this]; exact List.getElem_mem _

theorem xor_other (x c : UInt8) : (x ^^^ c == 32) = ((x.toNat : Int) == ((invc c).toNat : Int)) := by
  rw [Bool.eq_iff_iff]
  simp only [beq_iff_eq, invc]
  constructor
  · intro h
    have : x = c ^^^ 32 := by rw [← h]; rw [← UInt8.toBitVec_inj]; simp [BitVec.xor_comm x.toBitVec c.toBitVec, ← BitVec.xor_assoc]
    rw [this]
  · intro h
    have : x = c ^^^ 32 := UInt8.toNat_inj.1 (by exact_mod_cast h)
    rw [this, ← UInt8.toBitVec_inj]; simp [BitVec.xor_comm c.toBitVec, BitVec.xor_assoc]

theorem other_quiet (c : UInt8) (w : World) (n : Nat) :
    Calls Tryz.prog 37 #[.int .u8 c.toNat] (w.drewN n) fun e w'' => e = .returned (.int .u8 (otherc c).toNat) ∧ ∃ m, w'' = w.drewN m :=
  Calls.quiet_of_same ((rOther_any c (w.drewN n)).mono fun _ _ h => ⟨h.1, h.2.symm⟩)

theorem ownsRow_take' {w : World} {base e n cap m : Nat} {A : Option Addr} {xs : List Value} (hm : m ≤ n) (h : w.ownsRow base e 1 (.slice A n cap) n xs) :
    w.ownsRow base e 1 (.slice A m cap) m (xs.take m) := by
  rcases h.2 with ⟨h2, h3⟩ | ⟨g', c', cur, hv, hg, hh, hnc, hcm, hcs, ht⟩
  · simp only [Value.slice.injEq] at h2
    obtain ⟨rfl, rfl, rfl⟩ := h2
    obtain rfl : m = 0 := by omega
    obtain rfl : xs = [] := List.length_eq_zero_iff.1 (by simpa using h.1)
    simpa using h
  · simp only [Value.slice.injEq, true_and] at hv
    obtain ⟨rfl, rfl⟩ := hv
    exact ownsRow_take hm h

theorem own_cap {w : World} {base e n cap : Nat} {A : Option Addr} {xs : List Value} (h : w.ownsRow base e 1 (.slice A n cap) n xs) : n ≤ cap := by
  rcases h.2 with ⟨h2, h3⟩ | ⟨g', c', cur, hv, hg, hh, hnc, hcm, hcs, ht⟩
  · simp only [Value.slice.injEq] at h2
    omega
  · simp only [Value.slice.injEq, true_and] at hv
    obtain ⟨rfl, rfl⟩ := hv
    exact hnc

theorem own_cell {w : World} {base e n cap j : Nat} {A : Option Addr} {xs : List Value} (h : w.ownsRow base e 1 (.slice A n cap) n xs) (hj : j < n) :
    ∃ g, A = some ⟨g, 0, none⟩ ∧ w.cell? ⟨g, j, none⟩ = xs[j]? := by
  rcases h.2 with ⟨h2, h3⟩ | ⟨g', c', cur, hv, hg, hh, hnc, hcm, hcs, ht⟩
  · simp only [Value.slice.injEq] at h2
    obtain ⟨rfl, rfl, rfl⟩ := h2
    omega
  · simp only [Value.slice.injEq, true_and] at hv
    obtain ⟨rfl, rfl⟩ := hv
    exact ⟨g', rfl, h.cellAt j (by simpa using hj)⟩

set_option maxHeartbeats 400000 in
set_option maxRecDepth 100000 in
theorem rReduce_yes (s : ByteArray) (w : World) (hw : isW s.data.toList = true) :
    Calls Tryz.prog 16 #[.string s] w fun e w' => e = .returned (.string ⟨(red s.data.toList).toArray⟩) ∧ Below w.heap.size w w' := by
  have hlen := isW_len hw
  have hs : s.size ≤ 100000 := by simpa using hlen
  have hI := rIs_any s w (by unfold maxLen; omega)
  rw [hw] at hI
  have hlet := letter_of_isW hw
  clear hlen hw
  go_enter Tryz.func16, Tryz.ntmps16
  go_wp2_with (go_at_call 31; refine hI.mono ?_; rintro e w' ⟨rfl, rfl⟩)
  clear hI
  go_loopw [3, 4] (fun out i wr => ∃ (k m cap : Nat) (A : Option Addr) (r : List UInt8), k ≤ s.size ∧ m ≤ k ∧ i = .int .i64 k ∧ r = redR (s.data.toList.take k) ∧ m = r.length ∧ out = .slice A m cap ∧
      wr.ownsRow w.heap.size 5 1 (.slice A m cap) m (bs r.reverse) ∧ Below w.heap.size w wr)
    (fun _ i _ => s.size - (intOf i).toNat)
  case atStart => exact ⟨0, 0, 0, none, [], Nat.zero_le _, Nat.le_refl _, rfl, rfl, rfl, rfl, World.ownsRow_nil _ _ _ _, Below.refl _ _⟩
  case round =>
    obtain ⟨k, m, cap, A, r, hk, hmk, rfl, hr, hm, rfl, hown, hb⟩ := hrel
    have HB := Lib.hid hb
    clear hb
    by_cases hlt : k < s.size
    · have hsn := redR_snoc s k hlt
      rw [← hr] at hsn
      have HSN := Lib.hid hsn
      have ho : otherc s[k] = invc s[k] := otherc_of (hlet _ (mem_ba s k hlt))
      clear hsn hr hlet
      cases r with
      | nil =>
        obtain rfl : m = 0 := by simpa using hm
        clear hm ho
        have HO := Lib.hid hown
        clear hown
        go_wp2
        go_quiet (fail)
        go_wp2_with (at_builtin; refine append_byte (wr.drewN nq) rfl (.tmp 35) (.tmp 39) rfl w.heap.size A 0 cap [] s[k] rfl (show (wr.drewN nq).ownsRow _ _ _ _ _ _ from HO.out) _ rfl rfl (by omega) HB.out.size ?_; intro A' cap' w1 hown1 hb1)
        go_roundw
        case rel => exact ⟨k + 1, 1, cap', A', [s[k]], by omega, by omega, by go_num, by rw [HSN.out]; rfl, rfl, rfl, hown1, (HB.out.drewN nq).trans hb1⟩
        case measure => simp [intOf]; omega
      | cons x t =>
        obtain rfl : m = t.length + 1 := by simpa using hm
        clear hm
        obtain ⟨g, rfl, hc⟩ := own_cell hown (j := t.length) (by omega)
        have hx : (bs (x :: t).reverse)[t.length]? = some (.int .u8 x.toNat) := by simp [bs]
        rw [hx] at hc
        clear hx
        have hoq := other_quiet s[k] wr
        rw [ho] at hoq
        have HQ := Lib.hid hoq
        have hxc := xor_other x s[k]
        clear hoq ho
        have HO := Lib.hid hown
        by_cases hcc : (x ^^^ s[k] == 32) = true
        · simp only [stp, hcc, if_true] at HSN
          rw [hcc] at hxc
          have hd : ((x.toNat : Int) == ((invc s[k]).toNat : Int)) = true := hxc.symm
          have ht : wr.ownsRow w.heap.size 5 1 (.slice (some ⟨g, 0, none⟩) t.length cap) t.length (bs t.reverse) := by
            have := ownsRow_take (m := t.length) (by omega) hown
            simpa [bs] using this
          have HTT := Lib.hid ht
          have hcap : t.length ≤ cap := by have := own_cap hown; omega
          clear hxc hcc ht hown
          go_wp2
          go_quiet ((go_at_call 37; exact HQ.out _))
          go_wp2
          go_roundw
          case rel => exact ⟨k + 1, t.length, cap, some ⟨g, 0, none⟩, t, by omega, by omega, by go_num, HSN.out.symm, rfl, rfl, HTT.out, HB.out.drewN nq⟩
          case measure => simp [intOf]; omega
        · have hcf : (x ^^^ s[k] == 32) = false := by simpa using hcc
          rw [hcf] at hxc
          simp only [stp, hcf] at HSN
          have hd : ((x.toNat : Int) == ((invc s[k]).toNat : Int)) = false := hxc.symm
          clear hxc hcc hcf hown
          go_wp2
          go_quiet ((go_at_call 37; exact HQ.out _))
          go_wp2_with (at_builtin; refine append_byte (wr.drewN nq) rfl (.tmp 35) (.tmp 39) rfl w.heap.size (some ⟨g, 0, none⟩) (t.length + 1) cap (x :: t).reverse s[k] rfl (show (wr.drewN nq).ownsRow _ _ _ _ _ _ from HO.out) _ rfl rfl (by omega) HB.out.size ?_; intro A' cap' w1 hown1 hb1)
          go_roundw
          case rel => exact ⟨k + 1, t.length + 1 + 1, cap', A', s[k] :: x :: t, by omega, by omega, by go_num, HSN.out.symm, rfl, rfl, by simpa using hown1, (HB.out.drewN nq).trans hb1⟩
          case measure => simp [intOf]; omega
    · have hk' : k = s.size := by omega
      subst hk'
      rw [List.take_of_length_le (by simp)] at hr
      have hrun := run_string_own (P := Tryz.prog) wr 48 9 5 Tryz.underlying48 Tryz.underlying5 Tryz.underlying9 _ _ _ _ _ hown
      have hz : r.reverse = red s.data.toList := by rw [hr]; rfl
      have HZ := Lib.hid hz
      generalize r.reverse = L at *
      clear hz hr hm hown hlet
      go_wp2
      go_ret
      exact ⟨by rw [← HZ.out]; rfl, HB.out⟩

set_option maxHeartbeats 400000 in
theorem rInverse_yes (s : ByteArray) (w : World) (hw : isW s.data.toList = true) :
    Calls Tryz.prog 14 #[.string s] w fun e w' => e = .returned (.string ⟨(invW s.data.toList).toArray⟩) ∧ Below w.heap.size w w' := by
  have hlen := isW_len hw
  have hs : s.size ≤ 100000 := by simpa using hlen
  have hI := rIs_any s w (by unfold maxLen; omega)
  rw [hw] at hI
  have hlet := letter_of_isW hw
  clear hlen hw
  go_enter Tryz.func14, Tryz.ntmps14
  go_wp2_with (go_at_call 31; refine hI.mono ?_; rintro e w' ⟨rfl, rfl⟩)
  clear hI
  go_loopw [3, 4] (fun out i wr => ∃ (k cap : Nat) (A : Option Addr), k ≤ s.size ∧ i = .int .i64 ((s.size : Int) - 1 - k) ∧ out = .slice A k cap ∧
      wr.ownsRow w.heap.size 5 1 (.slice A k cap) k (bs (invW (s.data.toList.drop (s.size - k)))) ∧ Below w.heap.size w wr)
    (fun _ i _ => (intOf i + 1).toNat)
  case atStart => exact ⟨0, 0, none, Nat.zero_le _, by go_num, rfl, by rw [Nat.sub_zero, List.drop_eq_nil_of_le (by simp)]; exact World.ownsRow_nil _ _ _ _, Below.refl _ _⟩
  case round =>
    obtain ⟨k, cap, A, hk, rfl, rfl, hown, hb⟩ := hrel
    have HB := Lib.hid hb
    clear hb
    by_cases hlt : k < s.size
    · obtain ⟨m, hm⟩ : ∃ m : Nat, s.size - 1 - k = m := ⟨_, rfl⟩
      have hms : m < s.size := by omega
      have hj : ((s.size : Int) - 1 - ↑k) = (m : Int) := by omega
      have ho : otherc s[m] = invc s[m] := otherc_of (hlet _ (mem_ba s m hms))
      have hQ := rOther_any s[m] wr
      rw [ho] at hQ
      have hd : invW (s.data.toList.drop (s.size - (k + 1))) = invW (s.data.toList.drop (s.size - k)) ++ [invc s[m]] := by
        have h1 : m < s.data.toList.length := by simpa using hms
        rw [show s.size - (k + 1) = m by omega, show s.size - k = m + 1 by omega, List.drop_eq_getElem_cons h1]
        simp [invW]; rfl
      have HD := Lib.hid hd
      have HO := Lib.hid hown
      have HM := Lib.hid hm
      rw [hj]
      clear hd hown ho hlet hm hj
      go_wp2_with (first | (go_at_call 37; refine hQ.mono ?_; rintro e w' ⟨rfl, rfl⟩) | (at_builtin; refine append_byte wr rfl (.tmp 15) (.tmp 20) rfl w.heap.size A k cap _ (invc s[m]) rfl HO.out _ rfl rfl (by omega) HB.out.size ?_; intro A' cap' w1 hown1 hb1))
      go_roundw
      case rel => exact ⟨k + 1, cap', A', by omega, by have := HM.out; go_num, rfl, by rw [HD.out]; exact hown1, HB.out.trans hb1⟩
      case measure => simp [intOf]
    · have hk' : k = s.size := by omega
      subst hk'
      rw [Nat.sub_self, List.drop_zero] at hown
      have hrun := run_string_own (P := Tryz.prog) wr 48 9 5 Tryz.underlying48 Tryz.underlying5 Tryz.underlying9 _ _ _ _ _ hown
      have hz : ((s.size : Int) - 1 - ↑s.size) = -1 := by omega
      rw [hz]
      have HR : Hid (invW s.data.toList = invW s.data.toList) := Lib.hid rfl
      generalize hL : invW s.data.toList = L at *
      have HL := Lib.hid hL
      clear hL hown hlet hz
      go_wp2
      go_ret
      exact ⟨by rw [HL.out]; rfl, HB.out⟩
end Go.Proofs.YtflieikbhgneoaaGreatDoor
