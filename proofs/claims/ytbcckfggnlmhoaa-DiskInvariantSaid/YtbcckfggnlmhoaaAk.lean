/-
  Our own text, in the proofs of the laws of package disk (cayleylaw04). Proved here: isRel, isRelator, isPresentation of the program. Conditions: the relators lie in memory as the slice says.
-/
import Derived.Test.YtbcckfggnlmhoaaAj
namespace Go.Proofs.Ytbcckfggnlmhoaa
open Go Go.RowKit

set_option maxHeartbeats 400000 in
theorem isRel_any (p : Pr) (R : Option Addr) (rc : Nat) (i : Int) (w : World) (hm : p.rels.length ≤ maxLen) :
    Calls Try.prog 79 #[prV p.k R p.rels.length rc, .int .i64 i] w fun e w' => e = .returned (.bool (isRelB p i)) ∧ Below w.heap.size w w' := by
  unfold maxLen at hm
  have HB0 : Hid (Below w.heap.size w (w.alloc (.cells (prC p.k R p.rels.length rc) 24))) := Lib.hid ((Below.refl _ _).alloc (Nat.le_refl _) _)
  by_cases h : 0 ≤ i
  · have HR : Hid (isRelB p i = decide (i < (p.rels.length : Int))) := Lib.hid (by simp [isRelB, h])
    generalize p.rels.length = n at *
    go_enter Try.func79, Try.ntmps79
    go_wp2
    go_ret
    exact ⟨ret_bool HR.out.symm, HB0.out⟩
  · have HR : Hid (isRelB p i = false) := Lib.hid (by simp [isRelB, h])
    generalize p.rels.length = n at *
    go_enter Try.func79, Try.ntmps79
    go_wp2
    go_ret
    exact ⟨ret_bool HR.out.symm, HB0.out⟩

theorem relB_no1 {k : Int} {l : List UInt8} (h : ¬ 1 ≤ l.length) : relB k l = false := by simp [relB, h]
theorem relB_no2 {k : Int} {l : List UInt8} (h : ¬ l.length ≤ 200) : relB k l = false := by simp [relB, h]
theorem relB_no3 {k : Int} {l : List UInt8} (h : isWd k l = false) : relB k l = false := by simp [relB, h]
theorem relB_yes {k : Int} {l : List UInt8} (h1 : 1 ≤ l.length) (h2 : l.length ≤ 200) (h : isWd k l = true) : relB k l = decide (red l = l) := by simp [relB, h, h1, h2]

set_option maxHeartbeats 400000 in
theorem isRelator_any (k : Int) (l : List UInt8) (w : World) (hm : l.length ≤ maxLen) :
    Calls Try.prog 92 #[.int .i64 k, .string ⟨l.toArray⟩] w fun e w' => e = .returned (.bool (relB k l)) ∧ Below w.heap.size w w' := by
  have HSZ : (ByteArray.mk l.toArray).size = l.length := size_mk l
  have hI : Calls Try.prog 75 #[.int .i64 k, .string ⟨l.toArray⟩] w fun e w' => e = .returned (.bool (isWd k l)) ∧ w = w' := isWord_any k ⟨l.toArray⟩ w (by rw [HSZ]; exact hm)
  unfold maxLen at hm
  by_cases h1 : 1 ≤ l.length
  case neg =>
    have HR := Lib.hid (relB_no1 (k := k) h1)
    have hd : decide ((1 : Int) ≤ (l.length : Int)) = false := by simp; omega
    have hd2 : decide (1 ≤ l.length) = false := decide_eq_false h1
    go_enter Try.func92, Try.ntmps92
    go_wp2
    go_ret
    exact ⟨ret_bool HR.out.symm, Below.refl _ _⟩
  have hd : decide ((1 : Int) ≤ (l.length : Int)) = true := by simp; omega
  have hd1 : decide (1 ≤ l.length) = true := by simp; omega
  by_cases h2 : l.length ≤ 200
  case neg =>
    have HR := Lib.hid (relB_no2 (k := k) h2)
    have hd2 : decide ((l.length : Int) ≤ 200) = false := by simp; omega
    have hd3 : decide (l.length ≤ 200) = false := by simp; omega
    go_enter Try.func92, Try.ntmps92
    go_wp2
    go_ret
    exact ⟨ret_bool HR.out.symm, Below.refl _ _⟩
  have hd2 : decide ((l.length : Int) ≤ 200) = true := by simp; omega
  have hd3 : decide (l.length ≤ 200) = true := by simp; omega
  have hRd := reduced_any l w (by omega)
  cases hw : isWd k l with
  | false =>
    have HR := Lib.hid (relB_no3 (k := k) hw)
    rw [hw] at hI
    clear hw
    go_enter Try.func92, Try.ntmps92
    go_wp2_with fail
    refine hI.mono ?_
    rintro e w1 ⟨rfl, rfl⟩
    go_wp2
    go_ret
    exact ⟨ret_bool HR.out.symm, Below.refl _ _⟩
  | true =>
    have HR := Lib.hid (relB_yes h1 h2 hw)
    rw [hw] at hI
    clear hw
    have hE : (red l == l) = decide (red l = l) := by rw [Bool.eq_iff_iff]; simp
    generalize decide (red l = l) = bb at *
    generalize red l = q at *
    go_enter Try.func92, Try.ntmps92
    go_wp2_with fail
    refine hI.mono ?_
    rintro e w1 ⟨rfl, rfl⟩
    go_wp2_with fail
    refine hRd.mono ?_
    rintro e w1 ⟨rfl, hb⟩
    go_wp2
    go_ret
    exact ⟨ret_bool HR.out.symm, hb⟩

/-- A struct that lies in a box of the call's own, and whatever comes behind. -/
structure Boxd (w : World) (cs : Array Value) (t : TypeId) (wr : World) : Prop where
  below : Below (w.heap.size + 1) (w.alloc (.cells cs t)) wr
theorem Boxd.start (w : World) (cs : Array Value) (t : TypeId) : Boxd w cs t (w.alloc (.cells cs t)) := ⟨Below.refl _ _⟩
theorem Boxd.on {w : World} {cs : Array Value} {t : TypeId} {wr w' : World} (h : Boxd w cs t wr) (hb : Below wr.heap.size wr w') : Boxd w cs t w' :=
  ⟨h.below.trans (hb.mono (by have := h.below.size; simpa using this))⟩
theorem Boxd.on' {w : World} {cs : Array Value} {t : TypeId} {wr w' : World} (h : Boxd w cs t wr) (hb : Below (w.heap.size + 1) wr w') : Boxd w cs t w' := ⟨h.below.trans hb⟩
theorem Boxd.drewN {w : World} {cs : Array Value} {t : TypeId} {wr : World} (h : Boxd w cs t wr) (n : Nat) : Boxd w cs t (wr.drewN n) := ⟨h.below.drewN n⟩
theorem Boxd.old {w : World} {cs : Array Value} {t : TypeId} {wr : World} (h : Boxd w cs t wr) : Below w.heap.size w wr :=
  ((Below.refl _ w).alloc (Nat.le_refl _) _).trans (h.below.mono (by omega))
theorem Boxd.cell {w : World} {cs : Array Value} {t : TypeId} {wr : World} (h : Boxd w cs t wr) (i : Nat) : wr.cell? ⟨w.heap.size, i, none⟩ = cs[i]? := by
  rw [h.below.cell (p := ⟨w.heap.size, i, none⟩) (by simp)]
  exact cell_of_row _ w.heap.size i cs t (0, 0) (heap_alloc_new w _)
theorem Boxd.size {w : World} {cs : Array Value} {t : TypeId} {wr : World} (h : Boxd w cs t wr) : w.heap.size < wr.heap.size := by
  have := h.below.size; simp at this; omega

theorem presB_no {p : Pr} (h : ¬ (1 ≤ p.k ∧ p.k ≤ 8 ∧ p.rels.length ≤ 60)) : presB p = false := by
  cases hb : presB p with
  | false => rfl
  | true => exact absurd (presB_k hb) h
theorem presB_yes {p : Pr} (h1 : 1 ≤ p.k) (h2 : p.k ≤ 8) (h3 : p.rels.length ≤ 60) : presB p = p.rels.all (relB p.k) := by simp [presB, h1, h2, h3]
theorem all_take_succL {α : Type} (l : List α) (q : α → Bool) (n : Nat) (h : n < l.length) : (l.take (n + 1)).all q = ((l.take n).all q && q l[n]) := by
  rw [List.take_succ_eq_append_getElem h]; simp only [List.all_append, List.all_cons, List.all_nil, Bool.and_true]
theorem all_noL {α : Type} (l : List α) (q : α → Bool) (n : Nat) (h : n < l.length) (hq : q l[n] = false) : l.all q = false := by
  rw [List.all_eq_false]; exact ⟨l[n], List.getElem_mem _, by simp [hq]⟩

set_option maxHeartbeats 1000000 in
set_option maxRecDepth 100000 in
theorem isPresentation_any (p : Pr) (R : Option Addr) (rc : Nat) (w : World) (hr : RelsAt w R p.rels) (hm : p.rels.length ≤ maxLen) :
    Calls Try.prog 74 #[prV p.k R p.rels.length rc] w fun e w' => e = .returned (.bool (presB p)) ∧ Below w.heap.size w w' := by
  unfold maxLen at hm
  have HBX := Lib.hid (Boxd.start w (prC p.k R p.rels.length rc) 24)
  by_cases h1 : p.k < 1
  · have HR := Lib.hid (presB_no (p := p) (by omega))
    have hd : decide (p.k < 1) = true := by simpa using h1
    clear hr
    generalize p.rels.length = n at *
    go_enter Try.func74, Try.ntmps74
    go_wp2
    go_ret
    exact ⟨ret_bool HR.out.symm, HBX.out.old⟩
  have hd1 : decide (p.k < 1) = false := by simpa using h1
  by_cases h2 : 8 < p.k
  · have HR := Lib.hid (presB_no (p := p) (by omega))
    have hd : decide (8 < p.k) = true := by simpa using h2
    clear hr
    generalize p.rels.length = n at *
    go_enter Try.func74, Try.ntmps74
    go_wp2
    go_ret
    exact ⟨ret_bool HR.out.symm, HBX.out.old⟩
  have hd2 : decide (8 < p.k) = false := by simpa using h2
  by_cases h3 : 60 < p.rels.length
  · have HR := Lib.hid (presB_no (p := p) (by omega))
    have hd : decide ((60 : Int) < (p.rels.length : Int)) = true := by simp; omega
    have hd' : decide (60 < p.rels.length) = true := by simpa using h3
    clear hr
    generalize p.rels.length = n at *
    go_enter Try.func74, Try.ntmps74
    go_wp2
    go_ret
    exact ⟨ret_bool HR.out.symm, HBX.out.old⟩
  have hd3 : decide ((60 : Int) < (p.rels.length : Int)) = false := by simp; omega
  have hd3' : decide (60 < p.rels.length) = false := by simpa using h3
  have HR := Lib.hid (presB_yes (p := p) (by omega) (by omega) (by omega))
  have HREL := Lib.hid hr
  clear hr
  go_enter Try.func74, Try.ntmps74
  go_wp2
  go_loopw [4, 22] (fun _ i wr => ∃ n : Nat, n ≤ p.rels.length ∧ i = .int .i64 n ∧ (p.rels.take n).all (relB p.k) = true ∧ Boxd w (prC p.k R p.rels.length rc) 24 wr) (fun _ i _ => p.rels.length - (intOf i).toNat)
  case atStart => exact ⟨0, Nat.zero_le _, rfl, rfl, HBX.out⟩
  case round =>
    obtain ⟨n, hn, rfl, hall, hbx⟩ := hrel
    have HA := Lib.hid hall
    have HX := Lib.hid hbx
    clear hall hbx
    by_cases hlt : n < p.rels.length
    · have HS := Lib.hid (all_take_succL p.rels (relB p.k) n hlt)
      have HN := Lib.hid (all_noL p.rels (relB p.k) n hlt)
      obtain ⟨b, o, hR, hc, hl⟩ := (HREL.out.below HX.out.old) n hlt
      have c0 := HX.out.cell 0
      have hsz := HX.out.size
      have hI := isRelator_any p.k p.rels[n] wr hl
      subst hR
      simp only [List.getElem?_toArray, List.getElem?_cons_zero] at c0
      clear hl
      cases hb : relB p.k p.rels[n] with
      | false =>
        rw [hb] at hI
        have HZ := Lib.hid (HN.out hb)
        clear hb
        generalize p.rels[n] = r at *
        go_wp2_with fail
        refine hI.mono ?_
        rintro e w1 ⟨rfl, hb⟩
        go_wp2
        go_ret
        exact ⟨ret_bool (by rw [HR.out, HZ.out]), (HX.out.on hb).old⟩
      | true =>
        rw [hb] at hI HS
        clear hb
        generalize p.rels[n] = r at *
        go_wp2_with fail
        refine hI.mono ?_
        rintro e w1 ⟨rfl, hb⟩
        have HB := Lib.hid hb
        clear hb
        go_wp2
        go_roundw
        case rel => exact ⟨n + 1, by omega, by go_num, by rw [HS.out, HA.out]; rfl, HX.out.on HB.out⟩
        case measure => simp [intOf]; omega
    · obtain rfl : n = p.rels.length := by omega
      have HZ := HA.out
      rw [List.take_length] at HZ
      have HZ := Lib.hid HZ
      go_wp2
      go_ret
      exact ⟨ret_bool (by rw [HR.out, HZ.out]), HX.out.old⟩
end Go.Proofs.Ytbcckfggnlmhoaa
