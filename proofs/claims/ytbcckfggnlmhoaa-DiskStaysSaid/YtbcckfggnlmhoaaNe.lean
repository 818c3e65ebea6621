/-
  Our own text, in the proof of the law DiskToMoves of package disk (cayleylaw04). Proved here: size; Refused of the reference. Conditions: a valid presentation and disk.
-/
import Derived.Test.YtbcckfggnlmhoaaNd
import Derived.Test.YtbcckfggnlmhoaaBc
namespace Go.Proofs.Ytbcckfggnlmhoaa
open Go Go.RowKit

theorem wtL_take (p : Pr) : ∀ (d : List Cel) (n : Nat) (h : n < d.length), wtL p (d.take (n + 1)) = wtL p (d.take n) + wtC p d[n] := by
  intro d n h
  rw [List.take_succ_eq_append_getElem h]
  unfold wtL
  rw [List.map_append, List.sum_append]
  simp
theorem relLen_le {p : Pr} (hp : presB p = true) {i : Int} (hi : isRelB p i = true) : relLen p i ≤ 200 := by
  rw [← relOf_relLen p i false]; exact relOf_len hp hi false

set_option maxHeartbeats 8000000 in
set_option maxRecDepth 100000 in
theorem size_any (p : Pr) (R : Option Addr) (rc : Nat) (D : Option Addr) (dc : Nat) (d : List Cel) (l : List UInt8) (w : World) (hr : RelsAt w R p.rels) (hd : CellsAt w D d) (hp : presB p = true) (hdb : diskB p d = true) (hl : l.length ≤ 100000) :
    Calls Try.prog 67 #[prV p.k R p.rels.length rc, .slice D d.length dc, .string ⟨l.toArray⟩] w fun e w' => e = .returned (.int .i64 ((l.length + wtL p d : Nat) : Int)) ∧ Below w.heap.size w w' := by
  obtain ⟨hdl, hdc, hdall⟩ := diskB_facts hdb
  have h60 := (presB_k hp).2.2
  have HBX := Lib.hid (Boxd.start w (prC p.k R p.rels.length rc) 24)
  have HR := Lib.hid hr
  have HD := Lib.hid hd
  have HP := Lib.hid hp
  have HALL := Lib.hid hdall
  have HSL : (ByteArray.mk l.toArray).size = l.length := size_mk l
  clear hr hd hp hdall hdb
  go_enter Try.func67, Try.ntmps67
  go_wp2
  go_loopw [7, 9, 14] (fun s _ i wr => ∃ (n m : Nat), n ≤ d.length ∧ i = .int .i64 (n : Int) ∧ s = .int .i64 ((l.length + m : Nat) : Int) ∧ m = wtL p (d.take n) ∧ m ≤ n * 100400 ∧ Boxd w (prC p.k R p.rels.length rc) 24 wr) (fun _ _ i _ => d.length - (intOf i).toNat)
  case atStart => exact ⟨0, 0, Nat.zero_le _, rfl, by simp, rfl, by omega, HBX.out⟩
  case round =>
    obtain ⟨n, m, hn, rfl, rfl, hmm, hm1, hbx⟩ := hrel
    have HMM := Lib.hid hmm
    have HX := Lib.hid hbx
    clear hmm hbx
    by_cases hlt : n < d.length
    · have HW := Lib.hid (wtL_take p d n hlt)
      obtain ⟨hir, hiw⟩ := HALL.out _ (List.getElem_mem hlt)
      obtain ⟨b, o, hD, hcel⟩ := (HD.out.below HX.out.old) n hlt
      obtain ⟨q1, q2, q3, q4⟩ := hcel
      subst hD
      generalize d[n] = x at *
      obtain ⟨c, rel, inv⟩ := x
      simp only at q1 q2 q3 q4 hir hiw
      have hcl := isWd_len hiw
      have hrl := relLen_le HP.out hir
      have HW2 : Hid (wtL p (d.take (n + 1)) = m + (c.length + 2 * relLen p rel)) := Lib.hid (by rw [HW.out, ← HMM.out]; rfl)
      clear HW
      have hir0 := hir
      simp only [isRelB, Bool.and_eq_true, decide_eq_true_eq] at hir0
      obtain ⟨hi0, hi1⟩ := hir0
      obtain ⟨k, rfl⟩ := Int.eq_ofNat_of_zero_le hi0
      have hk : k < p.rels.length := by omega
      obtain ⟨b2, o2, rfl, hc2, _⟩ := (HR.out.below HX.out.old) k hk
      have hrk : relLen p (k : Int) = (p.rels[k]).length := by unfold relLen; simp [List.getD, hk]
      rw [hrk] at HW2 hrl
      generalize p.rels[k] = y at *
      have hsz := HX.out.size
      have HSZ : (ByteArray.mk c.toArray).size = c.length := size_mk c
      have HSY : (ByteArray.mk y.toArray).size = y.length := size_mk y
      have HX2 := Lib.hid (Boxd.start wr (celC c k inv) 61)
      have HX1 := Lib.hid (HX.out.on HX2.out.old)
      have c1 : (wr.alloc (.cells (celC c k inv) 61)).cell? ⟨w.heap.size, 1, none⟩ = some (.slice (some ⟨b2, o2, none⟩) p.rels.length rc) := HX1.out.cell 1
      have e0 : (wr.alloc (.cells (celC c k inv) 61)).cell? ⟨wr.heap.size, 0, none⟩ = some (.string ⟨c.toArray⟩) := HX2.out.cell 0
      have e1 : (wr.alloc (.cells (celC c k inv) 61)).cell? ⟨wr.heap.size, 1, none⟩ = some (.int .i64 k) := HX2.out.cell 1
      have e2 : (wr.alloc (.cells (celC c k inv) 61)).cell? ⟨b2, o2 + k, none⟩ = some (.string ⟨y.toArray⟩) := (HX2.out.old.cell (p := ⟨b2, o2 + k, none⟩) (lt_of_cell hc2)).trans hc2
      clear hc2 hir hiw hrk
      go_wp2
      generalize wr.alloc (.cells (celC c k inv) 61) = wa at *
      go_quiet (fail)
      have HX3 := Lib.hid (HX1.out.drewN nq)
      clear c1 e0 e1 e2
      generalize wa.drewN nq = wd at *
      go_wp2
      go_roundw
      case rel => exact ⟨n + 1, m + (c.length + 2 * y.length), by omega, by go_num, by go_num, HW2.out.symm, by omega, HX3.out⟩
      case measure => simp [intOf]; omega
    · obtain rfl : n = d.length := by omega
      have HE : Hid (m = wtL p d) := Lib.hid (by rw [HMM.out, List.take_of_length_le (Nat.le_refl _)])
      obtain rfl := HE.out
      go_wp2
      go_ret
      exact ⟨rfl, HX.out.old⟩

theorem prI_cases (p : Pr) (d : List Cel) (l : List UInt8) : prI p d l = 0 ∨ prI p d l = 5 ∨ prI p d l = 40 ∨ prI p d l = 41 ∨ prI p d l = 42 := by
  by_cases h : chk p [l] [d] = 0
  · rw [prI_yes h]; split <;> simp
  · rw [prI_no h]; rcases chk_cases p [l] [d] with e | e | e | e <;> simp_all
theorem prI_chk {p : Pr} {d : List Cel} {l : List UInt8} (h : prI p d l = 0) : chk p [l] [d] = 0 ∧ bnd p d = red l := by
  unfold prI at h
  split at h
  · rename_i hc
    split at h
    · rename_i hb; exact ⟨hc, hb⟩
    · cases h
  · rename_i hc; exact absurd h hc

/-- What ToMoves answers: its error. -/
def tmE (p : Pr) (d : List Cel) (l : List UInt8) : Int := if prI p d l = 0 then (if 20000 < l.length + wtL p d then 2 else 0) else prI p d l

set_option maxHeartbeats 8000000 in
set_option maxRecDepth 100000 in
theorem Refused_any (p : Pr) (R : Option Addr) (rc : Nat) (D : Option Addr) (dc : Nat) (d : List Cel) (l : List UInt8) (w : World) (hr : RelsAt w R p.rels) (hm : p.rels.length ≤ maxLen) (hd : CellsAt w D d) (hdm : d.length ≤ 5000000000000) (hl : l.length ≤ maxLen) :
    Calls Try.prog 33 #[prV p.k R p.rels.length rc, .slice D d.length dc, .string ⟨l.toArray⟩] w fun e w' => e = .returned (.int .i64 (tmE p d l)) ∧ Below w.heap.size w w' := by
  have HB0 := Lib.hid (Boxd.start w (prC p.k R p.rels.length rc) 24)
  have hE := rProves_any p R rc D dc d l (w.alloc (.cells (prC p.k R p.rels.length rc) 24)) (hr.below HB0.out.old) hm (hd.below HB0.out.old) hdm hl
  have HR := Lib.hid hr
  have HD := Lib.hid hd
  have HPC := Lib.hid (prI_cases p d l)
  have g0 := HB0.out.cell 0
  have g1 := HB0.out.cell 1
  simp only [List.getElem?_toArray, List.getElem?_cons_zero, List.getElem?_cons_succ] at g0 g1
  clear hr hd
  by_cases hz : prI p d l = 0
  · obtain ⟨hck, hbd⟩ := prI_chk hz
    obtain ⟨hp, hw, hdb⟩ := chk_word hck
    have hlw := isWd_len hw
    obtain ⟨hdl, hdc, hdall⟩ := diskB_facts hdb
    have h60 := (presB_k hp).2.2
    have HP := Lib.hid hp
    have HALL := Lib.hid hdall
    have HT : Hid (tmE p d l = if 20000 < l.length + wtL p d then 2 else 0) := Lib.hid (if_pos hz)
    rw [hz] at hE
    clear hp hw hdb hdall hz hck hbd HPC hm hl
    have HSL : (ByteArray.mk l.toArray).size = l.length := size_mk l
    go_enter Try.func33, Try.ntmps33
    go_wp2_with fail
    refine hE.mono ?_
    rintro e1 w1 ⟨rfl, hb1⟩
    have HBX := Lib.hid (HB0.out.on hb1)
    clear hE hb1 g0 g1
    go_wp2
    go_loopw [8, 10, 22] (fun s _ i wr => ∃ (n m : Nat), n ≤ d.length ∧ i = .int .i64 (n : Int) ∧ s = .int .i64 ((l.length + m : Nat) : Int) ∧ m = wtL p (d.take n) ∧ m ≤ n * 100400 ∧ Boxd w (prC p.k R p.rels.length rc) 24 wr) (fun _ _ i _ => d.length - (intOf i).toNat)
    case atStart => exact ⟨0, 0, Nat.zero_le _, rfl, by simp, rfl, by omega, HBX.out⟩
    case round =>
      obtain ⟨n, m, hn, rfl, rfl, hmm, hm1, hbx⟩ := hrel
      have HMM := Lib.hid hmm
      have HX := Lib.hid hbx
      clear hmm hbx
      by_cases hlt : n < d.length
      · have HW := Lib.hid (wtL_take p d n hlt)
        obtain ⟨hir, hiw⟩ := HALL.out _ (List.getElem_mem hlt)
        obtain ⟨b, o, hD, hcel⟩ := (HD.out.below HX.out.old) n hlt
        obtain ⟨q1, q2, q3, q4⟩ := hcel
        subst hD
        generalize d[n] = x at *
        obtain ⟨c, rel, inv⟩ := x
        simp only at q1 q2 q3 q4 hir hiw
        have hcl := isWd_len hiw
        have hrl := relLen_le HP.out hir
        have HW2 : Hid (wtL p (d.take (n + 1)) = m + (c.length + 2 * relLen p rel)) := Lib.hid (by rw [HW.out, ← HMM.out]; rfl)
        clear HW
        have hir0 := hir
        simp only [isRelB, Bool.and_eq_true, decide_eq_true_eq] at hir0
        obtain ⟨hi0, hi1⟩ := hir0
        obtain ⟨k, rfl⟩ := Int.eq_ofNat_of_zero_le hi0
        have hk : k < p.rels.length := by omega
        obtain ⟨b2, o2, rfl, hc2, _⟩ := (HR.out.below HX.out.old) k hk
        have hrk : relLen p (k : Int) = (p.rels[k]).length := by unfold relLen; simp [List.getD, hk]
        rw [hrk] at HW2 hrl
        generalize p.rels[k] = y at *
        have hsz := HX.out.size
        have HSZ : (ByteArray.mk c.toArray).size = c.length := size_mk c
        have HSY : (ByteArray.mk y.toArray).size = y.length := size_mk y
        have HX2 := Lib.hid (Boxd.start wr (celC c k inv) 61)
        have HX1 := Lib.hid (HX.out.on HX2.out.old)
        have c1 : (wr.alloc (.cells (celC c k inv) 61)).cell? ⟨w.heap.size, 1, none⟩ = some (.slice (some ⟨b2, o2, none⟩) p.rels.length rc) := HX1.out.cell 1
        have e0 : (wr.alloc (.cells (celC c k inv) 61)).cell? ⟨wr.heap.size, 0, none⟩ = some (.string ⟨c.toArray⟩) := HX2.out.cell 0
        have e1 : (wr.alloc (.cells (celC c k inv) 61)).cell? ⟨wr.heap.size, 1, none⟩ = some (.int .i64 k) := HX2.out.cell 1
        have e2 : (wr.alloc (.cells (celC c k inv) 61)).cell? ⟨b2, o2 + k, none⟩ = some (.string ⟨y.toArray⟩) := (HX2.out.old.cell (p := ⟨b2, o2 + k, none⟩) (lt_of_cell hc2)).trans hc2
        clear hc2 hir hiw hrk
        go_wp2
        generalize wr.alloc (.cells (celC c k inv) 61) = wa at *
        go_quiet (fail)
        have HX3 := Lib.hid (HX1.out.drewN nq)
        clear c1 e0 e1 e2
        generalize wa.drewN nq = wd at *
        go_wp2
        go_roundw
        case rel => exact ⟨n + 1, m + (c.length + 2 * y.length), by omega, by go_num, by go_num, HW2.out.symm, by omega, HX3.out⟩
        case measure => simp [intOf]; omega
      · obtain rfl : n = d.length := by omega
        have HE : Hid (m = wtL p d) := Lib.hid (by rw [HMM.out, List.take_of_length_le (Nat.le_refl _)])
        by_cases hbig : 20000 < l.length + m
        · have HT2 : Hid (tmE p d l = 2) := Lib.hid (by rw [HT.out, ← HE.out, if_pos hbig])
          have hd3 : decide ((20000 : Int) < ((l.length + m : Nat) : Int)) = true := by simp; omega
          have hd3' : decide ((20000 : Int) < (l.length : Int) + (m : Int)) = true := by simp; omega
          have hd4 : decide (20000 < l.length + m) = true := by simpa using hbig
          go_wp2
          go_ret
          exact ⟨ret_int HT2.out.symm, HX.out.old⟩
        · have HT2 : Hid (tmE p d l = 0) := Lib.hid (by rw [HT.out, ← HE.out, if_neg hbig])
          have hd3 : decide ((20000 : Int) < ((l.length + m : Nat) : Int)) = false := by simp; omega
          have hd3' : decide ((20000 : Int) < (l.length : Int) + (m : Int)) = false := by simp; omega
          have hd4 : decide (20000 < l.length + m) = false := by simpa using hbig
          go_wp2
          go_ret
          exact ⟨ret_int HT2.out.symm, HX.out.old⟩
  · have HT : Hid (tmE p d l = prI p d l) := Lib.hid (if_neg hz)
    rcases HPC.out with e | e | e | e | e
    · exact absurd e hz
    all_goals
      rw [e] at hE HT
      clear e hz HPC
      go_enter Try.func33, Try.ntmps33
      go_wp2_with fail
      refine hE.mono ?_
      rintro e1 w1 ⟨rfl, hb1⟩
      go_wp2
      go_ret
      exact ⟨ret_int HT.out.symm, (HB0.out.on hb1).old⟩
end Go.Proofs.Ytbcckfggnlmhoaa
