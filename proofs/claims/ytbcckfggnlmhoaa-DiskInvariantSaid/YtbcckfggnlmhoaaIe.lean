/-
  Our own text, in the proofs of the laws of package disk (cayleylaw04). Proved here: mustApply, letterWith, relator (a row of the call's own). Conditions: none but bounds.
-/
import Derived.Test.YtbcckfggnlmhoaaId
import Derived.Test.YtbcckfggnlmhoaaEh
namespace Go.Proofs.Ytbcckfggnlmhoaa
open Go Go.RowKit

/-- A move that does not apply. -/
def pan : List PanicEntry := [{ v := .iface 26 (.int .i64 43), recovered := false }]

theorem mustApply_yes (w : World) : Calls Try.prog 88 #[.bool true] w fun e w' => e = .returned (.tuple #[]) ∧ w = w' := by
  go_enter Try.func88, Try.ntmps88
  go_wp2
  go_end0
  exact ⟨rfl, rfl⟩
theorem mustApply_no (w : World) : Calls Try.prog 88 #[.bool false] w fun e w' => e = .panicked pan ∧ w = w' := by
  go_enter Try.func88, Try.ntmps88
  go_wp2
  exact ⟨rfl, rfl, rfl⟩

def ltr (n : Nat) : UInt8 := if n % 2 = 0 then UInt8.ofNat (97 + n / 2) else invc (UInt8.ofNat (97 + n / 2))
theorem ltr_add : ∀ n : Nat, n < 16 → 97 + (n : Int) / 2 = ((UInt8.ofNat (97 + n / 2)).toNat : Int) := by decide +kernel
theorem ltr_let : ∀ n : Nat, n < 16 → letB 8 (ltr n) = true := by decide +kernel

set_option maxHeartbeats 1000000 in
theorem letterWith_any (n : Nat) (hn : n < 16) (w : World) : Calls Try.prog 95 #[.int .i64 n] w fun e w' => e = .returned (.int .u8 (ltr n).toNat) ∧ w = w' := by
  have H1 := Lib.hid (ltr_add n hn)
  have HX := Lib.hid (xor_u8_32 (UInt8.ofNat (97 + n / 2)))
  by_cases hp : n % 2 = 0
  · have HE : Hid (ltr n = UInt8.ofNat (97 + n / 2)) := Lib.hid (if_pos hp)
    have hd : ((n : Int) % 2 == 0) = true := by rw [beq_iff_eq]; omega
    clear hp
    go_enter Try.func95, Try.ntmps95
    go_wp2
    go_ret
    exact ⟨ret_int (by rw [HE.out]; exact H1.out), rfl⟩
  · have HO : Hid (ltr n = invc (UInt8.ofNat (97 + n / 2))) := Lib.hid (if_neg hp)
    have hd : ((n : Int) % 2 == 0) = false := by rw [beq_eq_false_iff_ne]; omega
    clear hp
    go_enter Try.func95, Try.ntmps95
    go_wp2
    go_ret
    exact ⟨ret_int (by rw [HO.out, ← HX.out, ← H1.out]), rfl⟩

/-- The row behind []byte(s). -/
theorem bw_wrow (w : World) (l : List UInt8) (hl : l.length ≤ 1000000000) : WRow (bw w l) w.heap.size (bcap w l) l := by
  have hge : l.length ≤ bcap w l := grownCap_ge w l.length 0 5
  have hmx : bcap w l ≤ maxLen := grownCap_le_maxLen w l.length 0 5 (by unfold maxLen; omega)
  have hnew : (bw w l).heap[w.heap.size]? = some (.cells (Lib.bytesCells w 5 ⟨l.toArray⟩) 5 ((Lib.bytesCells w 5 ⟨l.toArray⟩).size, (Lib.bytesCells w 5 ⟨l.toArray⟩).size + 1)) := Lib.bytesWorld_at_new w 5 _
  have hsz : (Lib.bytesCells w 5 ⟨l.toArray⟩).size = bcap w l := by
    unfold Lib.bytesCells bcap
    rw [size_mk]
    unfold bcap at hge
    simp
    omega
  have hcs : (Lib.bytesCells w 5 ⟨l.toArray⟩).toList = bs l ++ List.replicate (bcap w l - l.length) (.int .u8 0) := by
    unfold Lib.bytesCells bcap
    rw [size_mk]
    simp [bs]
  refine ⟨hge, List.replicate (bcap w l - l.length) (.int .u8 0), ⟨by rw [bw_size]; omega, by rw [List.length_append, bs_len, List.length_replicate]; omega, hmx, ?_, fun j hj => ?_, fun j hj => ?_⟩⟩
  · unfold World.shape?; rw [hnew]; simp only [hsz]
  · rw [cell_of_row _ w.heap.size j _ 5 _ hnew, ← hcs]; simp
  · unfold World.frozen?; simp only; rw [hnew]; simp only [hsz, Bool.and_eq_false_iff, decide_eq_false_iff_not]; left; omega

set_option maxHeartbeats 1000000 in
set_option maxRecDepth 100000 in
/-- relator: the row's address and capacity. -/
theorem relatorO_any (p : Pr) (R : Option Addr) (rc : Nat) (i : Int) (inv : Bool) (w : World) (hp : presB p = true) (hi : isRelB p i = true) (hr : RelsAt w R p.rels) :
    Calls Try.prog 76 #[prV p.k R p.rels.length rc, .int .i64 i, .bool inv] w fun e w' => ∃ g cap, e = .returned (.slice (some ⟨g, 0, none⟩) (relOf p i inv).length cap) ∧ RowAt w' (some ⟨g, 0, none⟩) (relOf p i inv) ∧ (relOf p i inv).length ≤ cap ∧ cap ≤ maxLen ∧ w.heap.size ≤ g ∧ Below w.heap.size w w' := by
  have h60 := (presB_k hp).2.2
  have hlen := relOf_len hp hi false
  have hne : 1 ≤ (relOf p i inv).length := by
    have h1 := presB_rel hp i.toNat (by simp only [isRelB, Bool.and_eq_true, decide_eq_true_eq] at hi; omega)
    have h2 := (relB_facts h1).1
    unfold relOf
    split
    · show 1 ≤ (ginv invc _).length; rw [ginv_len]; exact h2
    · exact h2
  have HNE := Lib.hid hne
  simp only [isRelB, Bool.and_eq_true, decide_eq_true_eq] at hi
  obtain ⟨hi0, hi1⟩ := hi
  obtain ⟨n, rfl⟩ := Int.eq_ofNat_of_zero_le hi0
  have hn : n < p.rels.length := by omega
  obtain ⟨b, o, rfl, hc, _⟩ := hr n hn
  have HL : Hid (p.rels.getD n [] = p.rels[n]) := Lib.hid (by simp [List.getD, hn])
  have hl : (p.rels[n]).length ≤ 200 := by have := hlen; simp only [relOf, Int.toNat_natCast, HL.out] at this; simpa using this
  generalize hrr : p.rels[n] = l at *
  have HRR := Lib.hid hrr
  have hbw : b < w.heap.size := lt_of_cell hc
  have HB0 : Hid (Below w.heap.size w (w.alloc (.cells (prC p.k (some ⟨b, o, none⟩) p.rels.length rc) 24))) := Lib.hid ((Below.refl _ _).alloc (Nat.le_refl _) _)
  have hconv := run_bw l (w.alloc (.cells (prC p.k (some ⟨b, o, none⟩) p.rels.length rc) 24))
  have HW := Lib.hid (bw_wrow (w.alloc (.cells (prC p.k (some ⟨b, o, none⟩) p.rels.length rc) 24)) l (by omega))
  have HB1 := Lib.hid (HB0.out.trans ((bw_below (w.alloc (.cells (prC p.k (some ⟨b, o, none⟩) p.rels.length rc) 24)) l).mono HB0.out.size))
  simp only [World.size_alloc] at HW hconv
  generalize hw1 : bw (w.alloc (.cells (prC p.k (some ⟨b, o, none⟩) p.rels.length rc) 24)) l = w1 at *
  generalize hcc : bcap (w.alloc (.cells (prC p.k (some ⟨b, o, none⟩) p.rels.length rc) 24)) l = cap at *
  clear hrr hlen hw1 hcc hne
  cases inv with
  | false =>
    have HE : Hid (relOf p (n : Int) false = l) := Lib.hid (by simp only [relOf, Int.toNat_natCast, HL.out]; rfl)
    go_enter Try.func76, Try.ntmps76
    go_wp2
    go_ret
    rw [HE.out]
    exact ⟨_, _, rfl, HW.out.row, HW.out.1, HW.out.max, Nat.le_succ _, HB1.out⟩
  | true =>
    have HE : Hid (relOf p (n : Int) true = invW l) := Lib.hid (by simp only [relOf, Int.toNat_natCast, HL.out]; rfl)
    have hI := inverseOf_any _ cap l w1 HW.out.row (fun h => by cases h) (by omega)
    go_enter Try.func76, Try.ntmps76
    go_wp2_with fail
    refine hI.mono ?_
    intro e w2 hcl
    obtain ⟨A', cap', rfl, hown2, hb2⟩ := hcl
    have HR2 := Lib.hid hown2
    have HB2 := Lib.hid hb2
    clear hown2 hb2 hI
    go_wp2
    go_ret
    have hN := HNE.out
    rw [HE.out] at hN ⊢
    rcases own_shape HR2.out with ⟨_, h0, _⟩ | ⟨g', rfl, hg', _⟩
    · omega
    · exact ⟨g', cap', rfl, rowAt_own HR2.out, own_cap HR2.out, own_max HR2.out, Nat.le_trans HB1.out.size hg', HB1.out.trans (HB2.out.mono HB1.out.size)⟩
end Go.Proofs.Ytbcckfggnlmhoaa
