/-
  Our own text, in the proof of the law DiskMoves of package disk (cayleylaw04). Proved here: Letter and turned of the reference. Conditions: an index below sixteen; a valid presentation.
-/
import Derived.Test.YtbcckfggnlmhoaaLg
import Derived.Test.YtbcckfggnlmhoaaBa
namespace Go.Proofs.Ytbcckfggnlmhoaa
open Go Go.RowKit

theorem ba_ext {x y : ByteArray} (h : x.data.toList = y.data.toList) : x = y := by
  cases x; cases y; simp only at h; congr 1; exact Array.toList_inj.1 h
theorem ex_mid (l : List UInt8) (a b : Nat) (h : b ≤ l.length) : (ByteArray.mk l.toArray).extract a b = ⟨((l.take b).drop a).toArray⟩ := by
  apply ba_ext
  rw [ByteArray.data_extract, Array.toList_extract]
  simp [List.extract, List.drop_take]
theorem ex_take (l : List UInt8) (b : Nat) (h : b ≤ l.length) : (ByteArray.mk l.toArray).extract 0 b = ⟨(l.take b).toArray⟩ := by rw [ex_mid l 0 b h, List.drop_zero]
theorem ex_drop (l : List UInt8) (a : Nat) : (ByteArray.mk l.toArray).extract a l.length = ⟨(l.drop a).toArray⟩ := by rw [ex_mid l a l.length (Nat.le_refl _), List.take_length]

theorem ltr_even : ∀ n, n < 16 → n % 2 = 0 → ((ltr n).toNat : Int) = 97 + (n : Int) / 2 := by decide +kernel
theorem ltr_odd : ∀ n, n < 16 → ¬ n % 2 = 0 → ((ltr n).toNat : Int) = 65 + (n : Int) / 2 := by decide +kernel

set_option maxHeartbeats 1000000 in
theorem Letter_any (n : Nat) (hn : n < 16) (w : World) : Calls Try.prog 94 #[.int .i64 n] w fun e w' => e = .returned (.string ⟨[ltr n].toArray⟩) ∧ Below w.heap.size w w' := by
  have hrow : ∀ x : Int, ((ltr n).toNat : Int) = x → RowAt (w.alloc (.cells #[.int .u8 x] 5)) (some ⟨w.heap.size, 0, none⟩) [ltr n] := fun x hx i hi => by
    obtain rfl : i = 0 := by simpa using hi
    subst hx
    exact ⟨w.heap.size, 0, rfl, by rw [Nat.zero_add, alloc_cell]; rfl⟩
  have HB : Hid (∀ v : Value, Below w.heap.size w (w.alloc (.cells #[v] 5))) := Lib.hid (fun v => (Below.refl _ _).alloc (Nat.le_refl _) _)
  by_cases he : n % 2 = 0
  · have hrs := run_string_row _ (some ⟨w.heap.size, 0, none⟩) 1 [ltr n] (hrow _ (ltr_even n hn he))
    simp only [List.length_cons, List.length_nil, Nat.zero_add] at hrs
    have h2 : ((n : Int) % 2 == 0) = true := by rw [beq_iff_eq]; omega
    clear hrow he
    generalize [ltr n] = c at *
    go_enter Try.func94, Try.ntmps94
    go_wp2
    go_ret
    exact ⟨rfl, HB.out _⟩
  · have hrs := run_string_row _ (some ⟨w.heap.size, 0, none⟩) 1 [ltr n] (hrow _ (ltr_odd n hn he))
    simp only [List.length_cons, List.length_nil, Nat.zero_add] at hrs
    have h2 : ((n : Int) % 2 == 0) = false := by rw [beq_eq_false_iff_ne]; omega
    clear hrow he
    generalize [ltr n] = c at *
    go_enter Try.func94, Try.ntmps94
    go_wp2
    go_ret
    exact ⟨rfl, HB.out _⟩

/-- What turned returns. -/
def turnS (p : Pr) (m : Mv) : List UInt8 := (rotOf p m).getD []
def turnF (p : Pr) (m : Mv) : List UInt8 := if (rotOf p m).isSome then (relOf p m.rel m.inv).take m.shift.toNat else []
def TurnP (p : Pr) (m : Mv) (w : World) (e : Ending) (w' : World) : Prop := e = .returned (.tuple #[.string ⟨(turnS p m).toArray⟩, .string ⟨(turnF p m).toArray⟩, .bool (rotOf p m).isSome]) ∧ Below w.heap.size w w'
theorem turn_no {p : Pr} {m : Mv} {w w' : World} (h : rotOf p m = none) (hb : Below w.heap.size w w') : TurnP p m w (.returned (.tuple #[.string ⟨#[]⟩, .string ⟨#[]⟩, .bool false])) w' := by
  refine ⟨?_, hb⟩
  unfold turnS turnF; rw [h]; rfl

set_option maxHeartbeats 4000000 in
set_option maxRecDepth 100000 in
theorem turned_any (p : Pr) (R : Option Addr) (rc : Nat) (m : Mv) (w : World) (hp : presB p = true) (hr : RelsAt w R p.rels) : Calls Try.prog 83 #[prV p.k R p.rels.length rc, mvV m] w (TurnP p m w) := by
  obtain ⟨mk, mp, ml, mr, ms, mi⟩ := m
  have h60 := (presB_k hp).2.2
  have HX0 := Lib.hid (Boxd.start w (prC p.k R p.rels.length rc) 24)
  have HB0 : Hid (Below w.heap.size w ((w.alloc (.cells (prC p.k R p.rels.length rc) 24)).alloc (.cells #[.int .i64 mk, .int .i64 mp, .int .i64 ml, .int .i64 mr, .int .i64 ms, .bool mi] 52))) := Lib.hid (HX0.out.old.alloc (by simp) _)
  have HC : Hid (∀ i, ((w.alloc (.cells (prC p.k R p.rels.length rc) 24)).alloc (.cells #[.int .i64 mk, .int .i64 mp, .int .i64 ml, .int .i64 mr, .int .i64 ms, .bool mi] 52)).cell? ⟨w.heap.size + 1, i, none⟩ = (#[.int .i64 mk, .int .i64 mp, .int .i64 ml, .int .i64 mr, .int .i64 ms, .bool mi] : Array Value)[i]?) := Lib.hid (fun i => by
    have := alloc_cell (w.alloc (.cells (prC p.k R p.rels.length rc) 24)) #[.int .i64 mk, .int .i64 mp, .int .i64 ml, .int .i64 mr, .int .i64 ms, .bool mi] 52 i
    rwa [World.size_alloc] at this)
  have HZ : Hid (((w.alloc (.cells (prC p.k R p.rels.length rc) 24)).alloc (.cells #[.int .i64 mk, .int .i64 mp, .int .i64 ml, .int .i64 mr, .int .i64 ms, .bool mi] 52)).heap.size = w.heap.size + 2) := Lib.hid (by simp)
  have HP0 : Hid (∀ i, ((w.alloc (.cells (prC p.k R p.rels.length rc) 24)).alloc (.cells #[.int .i64 mk, .int .i64 mp, .int .i64 ml, .int .i64 mr, .int .i64 ms, .bool mi] 52)).cell? ⟨w.heap.size, i, none⟩ = (prC p.k R p.rels.length rc)[i]?) := Lib.hid (fun i =>
    (((Below.refl _ (w.alloc (.cells (prC p.k R p.rels.length rc) 24))).alloc (Nat.le_refl _) _).cell (p := ⟨w.heap.size, i, none⟩) (by simp)).trans (alloc_cell _ _ _ _))
  show Calls Try.prog 83 #[prV p.k R p.rels.length rc, .agg #[.int .i64 mk, .int .i64 mp, .int .i64 ml, .int .i64 mr, .int .i64 ms, .bool mi]] w (TurnP p ⟨mk, mp, ml, mr, ms, mi⟩ w)
  by_cases hrel : isRelB p mr = true
  case neg =>
    have HN : Hid (rotOf p ⟨mk, mp, ml, mr, ms, mi⟩ = none) := Lib.hid (if_neg hrel)
    simp only [isRelB, Bool.and_eq_true, decide_eq_true_eq] at hrel
    clear hp hr
    by_cases h0 : mr < 0
    · have e1 : decide (mr < 0) = true := by simpa using h0
      clear hrel
      go_enter Try.func83, Try.ntmps83
      go_wp2
      go_ret3
      exact turn_no HN.out HB0.out
    · have e1 : decide (mr < 0) = false := by simpa using h0
      have e2 : decide ((p.rels.length : Int) ≤ mr) = true := by simp; omega
      clear hrel
      go_enter Try.func83, Try.ntmps83
      go_wp2
      go_ret3
      exact turn_no HN.out HB0.out
  case pos =>
    have hT := rRelator_any p R rc mr mi _ hp hrel (hr.below HB0.out)
    have hlen := relOf_len hp hrel mi
    have HRT : Hid (rotOf p ⟨mk, mp, ml, mr, ms, mi⟩ = if 0 ≤ ms ∧ ms < (relOf p mr mi).length then some ((relOf p mr mi).drop ms.toNat ++ (relOf p mr mi).take ms.toNat) else none) := Lib.hid (if_pos hrel)
    have HTF : Hid (turnF p ⟨mk, mp, ml, mr, ms, mi⟩ = if (rotOf p ⟨mk, mp, ml, mr, ms, mi⟩).isSome then (relOf p mr mi).take ms.toNat else []) := Lib.hid rfl
    simp only [isRelB, Bool.and_eq_true, decide_eq_true_eq] at hrel
    have e1 : decide (mr < 0) = false := by simp; omega
    have e2 : decide ((p.rels.length : Int) ≤ mr) = false := by simp; omega
    clear hp hr hrel
    generalize relOf p mr mi = t at *
    go_enter Try.func83, Try.ntmps83
    go_wp2_with fail
    refine hT.mono ?_
    rintro e3 w3 ⟨rfl, hb3⟩
    have HB3 := Lib.hid (HB0.out.trans (hb3.mono HB0.out.size))
    have c4 : w3.cell? ⟨w.heap.size + 1, 4, none⟩ = some (.int .i64 ms) := (hb3.cell (p := ⟨w.heap.size + 1, 4, none⟩) (by rw [HZ.out]; simp)).trans (HC.out 4)
    have hsz : (ByteArray.mk t.toArray).size = t.length := size_mk t
    clear hT hb3
    by_cases hs : 0 ≤ ms ∧ ms < t.length
    · have HR2 : Hid (rotOf p ⟨mk, mp, ml, mr, ms, mi⟩ = some (t.drop ms.toNat ++ t.take ms.toNat)) := Lib.hid (by rw [HRT.out, if_pos hs])
      obtain ⟨h0, h1⟩ := hs
      obtain ⟨k, rfl⟩ := Int.eq_ofNat_of_zero_le h0
      have hk : k < t.length := by omega
      have f1 : decide ((k : Int) < 0) = false := by simp
      have f2 : decide ((t.length : Int) ≤ (k : Int)) = false := by simp; omega
      have f2' : decide (t.length ≤ k) = false := by simp; omega
      have x1 := ex_take t k (by omega)
      have x2 := ex_drop t k
      have hcat := catC (t.drop k) (t.take k) _ rfl
      simp only [Int.toNat_natCast] at HR2 HTF
      have hlv : (t.drop k ++ t.take k).length ≤ 200 := by rw [List.length_append, List.length_drop, List.length_take]; omega
      have hk2 : (k : Int) ≤ (t.length : Int) := by omega
      have hk3 : k ≤ t.length := by omega
      clear h0 h1
      go_wp2_with fail
      go_quiet (fail)
      go_wp2
      go_ret3
      refine ⟨?_, HB3.out.drewN _⟩
      unfold turnS
      rw [HTF.out, HR2.out]
      rfl
    · have HR2 : Hid (rotOf p ⟨mk, mp, ml, mr, ms, mi⟩ = none) := Lib.hid (by rw [HRT.out, if_neg hs])
      by_cases h0 : ms < 0
      · have f1 : decide (ms < 0) = true := by simpa using h0
        clear hs
        go_wp2
        go_ret3
        exact turn_no HR2.out HB3.out
      · have f1 : decide (ms < 0) = false := by simpa using h0
        have f2 : decide ((t.length : Int) ≤ ms) = true := by simp; omega
        clear hs
        go_wp2
        go_ret3
        exact turn_no HR2.out HB3.out
end Go.Proofs.Ytbcckfggnlmhoaa
