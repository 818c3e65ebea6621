/-
  Our own text, in the proofs of the laws of package disk (cayleylaw04). Proved here: isDisk of the program. Conditions: the relators and the cells lie in memory as the slices say.
-/
import Derived.Test.YtbcckfggnlmhoaaAk
namespace Go.Proofs.Ytbcckfggnlmhoaa
open Go Go.RowKit

/-! CELLS IN MEMORY. -/
abbrev Cel.val (c : Cel) : Value := .agg #[.string ⟨c.conj.toArray⟩, .int .i64 c.rel, .bool c.inv]
abbrev celC (c : List UInt8) (r : Int) (i : Bool) : Array Value := #[.string ⟨c.toArray⟩, .int .i64 r, .bool i]
structure CelAt (w : World) (b o : Nat) (c : Cel) : Prop where
  conj : w.cell? ⟨b, o, none⟩ = some (.string ⟨c.conj.toArray⟩)
  rel : w.cell? ⟨b, o + 1, none⟩ = some (.int .i64 c.rel)
  inv : w.cell? ⟨b, o + 2, none⟩ = some (.bool c.inv)
  len : c.conj.length ≤ 140737488351232
def CellsAt (w : World) (D : Option Addr) (d : List Cel) : Prop :=
  ∀ i (h : i < d.length), ∃ b o, D = some ⟨b, o, none⟩ ∧ CelAt w b (o + i * 3) d[i]
theorem CelAt.below {w w' : World} {b o : Nat} {c : Cel} (h : CelAt w b o c) (hb : Below w.heap.size w w') : CelAt w' b o c :=
  ⟨(hb.cell (p := ⟨b, o, none⟩) (lt_of_cell h.conj)).trans h.conj, (hb.cell (p := ⟨b, o + 1, none⟩) (lt_of_cell h.rel)).trans h.rel, (hb.cell (p := ⟨b, o + 2, none⟩) (lt_of_cell h.inv)).trans h.inv, h.len⟩
theorem CellsAt.below {w w' : World} {D : Option Addr} {d : List Cel} (h : CellsAt w D d) (hb : Below w.heap.size w w') : CellsAt w' D d := by
  intro i hi
  obtain ⟨b, o, hA, hc⟩ := h i hi
  exact ⟨b, o, hA, hc.below hb⟩

theorem conjs_take_succ (d : List Cel) (k : Nat) (h : k < d.length) : conjs (d.take (k + 1)) = conjs (d.take k) + (d[k]).conj.length := by
  rw [List.take_succ_eq_append_getElem h, conjs_app]; simp [conjs]
theorem conjs_take_le (d : List Cel) (k : Nat) : conjs (d.take k) ≤ conjs d := by
  have := conjs_app (d.take k) (d.drop k); rw [List.take_append_drop] at this; omega
theorem diskB_long {p : Pr} {d : List Cel} (h : 100000 < d.length) : diskB p d = false := by
  have : ¬ d.length ≤ 100000 := by omega
  simp [diskB, this]
theorem diskB_fat {p : Pr} {d : List Cel} (h : 1000000 < conjs d) : diskB p d = false := by
  have : ¬ conjs d ≤ 1000000 := by omega
  simp [diskB, this]
theorem diskB_bad {p : Pr} {d : List Cel} (h : d.all (cellB p) = false) : diskB p d = false := by simp [diskB, h]
theorem diskB_good {p : Pr} {d : List Cel} (h1 : d.length ≤ 100000) (h2 : conjs d ≤ 1000000) (h : d.all (cellB p) = true) : diskB p d = true := by simp [diskB, h, h1, h2]

set_option maxHeartbeats 2000000 in
set_option maxRecDepth 100000 in
theorem isDisk_any (p : Pr) (R : Option Addr) (rc : Nat) (D : Option Addr) (dc : Nat) (d : List Cel) (w : World) (hd : CellsAt w D d) (hm : p.rels.length ≤ maxLen) (hdm : d.length ≤ maxLen) :
    Calls Try.prog 46 #[prV p.k R p.rels.length rc, .slice D d.length dc] w fun e w' => e = .returned (.bool (diskB p d)) ∧ Below w.heap.size w w' := by
  have HM := Lib.hid hm
  have HBX := Lib.hid (Boxd.start w (prC p.k R p.rels.length rc) 24)
  have HD := Lib.hid hd
  clear hm hd
  unfold maxLen at hdm
  by_cases hlong : 100000 < d.length
  · have HR := Lib.hid (diskB_long (p := p) hlong)
    have hd1 : decide ((100000 : Int) < (d.length : Int)) = true := by simp; omega
    have hd2 : decide (100000 < d.length) = true := by simpa using hlong
    go_enter Try.func46, Try.ntmps46
    go_wp2
    go_ret
    exact ⟨ret_bool HR.out.symm, HBX.out.old⟩
  have hd1 : decide ((100000 : Int) < (d.length : Int)) = false := by simp; omega
  have hd2 : decide (100000 < d.length) = false := by simpa using hlong
  go_enter Try.func46, Try.ntmps46
  go_wp2
  go_loopw [5, 7, 13] (fun s _ i wr => ∃ (n m : Nat), n ≤ d.length ∧ i = .int .i64 (n : Int) ∧ s = .int .i64 (m : Int) ∧ m = conjs (d.take n) ∧ m ≤ 1000000 ∧ (d.take n).all (cellB p) = true ∧ Boxd w (prC p.k R p.rels.length rc) 24 wr) (fun _ _ i _ => d.length - (intOf i).toNat)
  case atStart => exact ⟨0, 0, Nat.zero_le _, rfl, rfl, rfl, by omega, rfl, HBX.out⟩
  case round =>
    obtain ⟨n, m, hn, rfl, rfl, hmm, hm1, hall, hbx⟩ := hrel
    have HMM := Lib.hid hmm
    have HA := Lib.hid hall
    have HX := Lib.hid hbx
    clear hmm hall hbx
    by_cases hlt : n < d.length
    · have HS := Lib.hid (all_take_succL d (cellB p) n hlt)
      have HN := Lib.hid (all_noL d (cellB p) n hlt)
      have HC : Hid (conjs (d.take (n + 1)) = m + (d[n]).conj.length) := Lib.hid (by rw [conjs_take_succ d n hlt, HMM.out])
      have HL := Lib.hid (conjs_take_le d (n + 1))
      obtain ⟨b, o, hD, hcel⟩ := (HD.out.below HX.out.old) n hlt
      obtain ⟨q1, q2, q3, q4⟩ := hcel
      subst hD
      have HCB : Hid (cellB p d[n] = (isRelB p (d[n]).rel && isWd p.k (d[n]).conj)) := Lib.hid rfl
      generalize d[n] = x at *
      obtain ⟨c, rel, inv⟩ := x
      simp only at q1 q2 q3 q4
      have HCB : Hid (cellB p ⟨c, rel, inv⟩ = (isRelB p rel && isWd p.k c)) := HCB
      have HC : Hid (conjs (d.take (n + 1)) = m + c.length) := HC
      have hsz := HX.out.size
      have HSZ : (ByteArray.mk c.toArray).size = c.length := size_mk c
      have HX2 := Lib.hid (Boxd.start wr (celC c rel inv) 61)
      have HX1 := Lib.hid (HX.out.on HX2.out.old)
      by_cases hbig : 1000000 < m + c.length
      · have HR := Lib.hid (diskB_fat (p := p) (d := d) (by have := HL.out; rw [HC.out] at this; omega))
        have hd3 : decide ((1000000 : Int) < (m : Int) + (c.length : Int)) = true := by simp; omega
        have hd4 : decide (1000000 < m + c.length) = true := by simpa using hbig
        go_wp2
        go_ret
        exact ⟨ret_bool HR.out.symm, HX1.out.old⟩
      · have hd3 : decide ((1000000 : Int) < (m : Int) + (c.length : Int)) = false := by simp; omega
        have hd4 : decide (1000000 < m + c.length) = false := by simpa using hbig
        have hI := isRel_any p R rc rel (wr.alloc (.cells (celC c rel inv) 61)) HM.out
        have c0 := HX1.out.cell 0
        have c1 := HX1.out.cell 1
        simp only [List.getElem?_toArray, List.getElem?_cons_zero, List.getElem?_cons_succ] at c0 c1
        cases hrel : isRelB p rel with
        | false =>
          rw [hrel] at hI
          have HR := Lib.hid (diskB_bad (p := p) (d := d) (HN.out (by rw [HCB.out, hrel]; rfl)))
          clear hrel
          go_wp2_with fail
          refine hI.mono ?_
          rintro e w1 ⟨rfl, hb1⟩
          go_wp2
          go_ret
          exact ⟨ret_bool HR.out.symm, (HX1.out.on hb1).old⟩
        | true =>
          rw [hrel] at hI HCB
          have HREL := Lib.hid hrel
          clear hrel
          go_wp2_with fail
          refine hI.mono ?_
          rintro e w1 ⟨rfl, hb1⟩
          have HX3 := Lib.hid (HX1.out.on hb1)
          have HX4 := Lib.hid (HX2.out.on hb1)
          have k0 := HX3.out.cell 0
          have k1 := HX4.out.cell 0
          simp only [List.getElem?_toArray, List.getElem?_cons_zero, List.getElem?_cons_succ] at k0 k1
          have hW : Calls Try.prog 75 #[.int .i64 p.k, .string ⟨c.toArray⟩] w1 fun e w' => e = .returned (.bool (isWd p.k c)) ∧ w1 = w' := isWord_any p.k ⟨c.toArray⟩ w1 (by rw [HSZ]; unfold maxLen; omega)
          clear hb1 c0 c1 q1 q2 q3 hI
          cases hw : isWd p.k c with
          | false =>
            rw [hw] at hW
            have HR := Lib.hid (diskB_bad (p := p) (d := d) (HN.out (by rw [HCB.out, hw]; rfl)))
            clear hw
            go_wp2_with fail
            refine hW.mono ?_
            rintro e w2 ⟨rfl, rfl⟩
            go_wp2
            go_ret
            exact ⟨ret_bool HR.out.symm, HX3.out.old⟩
          | true =>
            rw [hw] at hW HCB
            clear hw
            go_wp2_with fail
            refine hW.mono ?_
            rintro e w2 ⟨rfl, rfl⟩
            go_wp2
            go_roundw
            case rel => exact ⟨n + 1, m + c.length, by omega, by go_num, by go_num, HC.out.symm, by omega, by rw [HS.out, HA.out, HCB.out]; rfl, HX3.out⟩
            case measure => simp [intOf]; omega
    · obtain rfl : n = d.length := by omega
      have HZ := HA.out
      have HMZ := HMM.out
      rw [List.take_length] at HZ HMZ
      have HR := Lib.hid (diskB_good (p := p) (d := d) (by omega) (by omega) HZ)
      clear HZ HMZ
      go_wp2
      go_ret
      exact ⟨ret_bool HR.out.symm, HX.out.old⟩
end Go.Proofs.Ytbcckfggnlmhoaa
