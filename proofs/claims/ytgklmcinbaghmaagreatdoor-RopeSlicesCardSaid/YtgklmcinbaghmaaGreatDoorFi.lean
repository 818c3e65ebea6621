/-
  Our own text, in the proof of the law RopeSlices of package rope (cayleylaw02). Proved here: the slicer cuts a power and a join, given that cutPower and cutJoin do. Conditions: the nodes lie in memory as the slice says.
-/
import Derived.Test.YtgklmcinbaghmaaGreatDoorFh
namespace Go.Proofs.YtgklmcinbaghmaaGreatDoor
open Go Go.RowKit

set_option maxHeartbeats 2000000 in
set_option maxRecDepth 100000 in
theorem cut_pow {w : World} {base Q P Bm B : Nat} {ad : Addr} {cap : Nat} {a : List Nd} {L : List Nat} {o : List Nd} {Ao : Option Addr} {co n : Nat} {f : Int → Option Value}
    (hl : Lie base Q P Bm B) (hlens : lens a = some L) (h : KS w base Q P Bm B (some ad) cap a L o Ao co n f) (k : Nat) (hk : k < a.length) (i j : Nat) (hij : i < j) (hj : j ≤ L.getD k 0) (hnw : ¬ (i = 0 ∧ j = L.getD k 0)) (x : Nat) (u : List UInt8) (b m : Nat) (hm : 1 ≤ m)
    (hw : a[k].word.data.toList = []) (hxl : a[k].l = b) (hxt : a[k].t = m)
    (IH : ∀ W, KS W base Q P Bm B (some ad) cap a L o Ao co n f → Calls Tryz.prog 69 #[.pointer (some ⟨Q, 0, none⟩), .int .i64 (b : Int), .int .i64 (i : Int), .int .i64 (j : Int)] W (CutP base Q P Bm B (some ad) cap a L k x u W o Ao f)) :
    Calls Tryz.prog 47 #[.pointer (some ⟨Q, 0, none⟩), .int .i64 (k : Int), .int .i64 (i : Int), .int .i64 (j : Int)] w (CutP base Q P Bm B (some ad) cap a L k x u w o Ao f) := by
  obtain ⟨hLl, hok, hlen⟩ := lens_ok hlens
  obtain ⟨ad', e, hx, hxs⟩ := h.st.rope k hk
  cases e
  have q0 : w.cell? ⟨Q, 0, none⟩ = some (.slice (some ad) a.length cap) := h.st.q.cell 0
  generalize a[k] = y at *
  obtain ⟨s, l, q, t⟩ := y
  obtain ⟨f0, f1, f2, f3⟩ := hx
  simp only at f0 f1 f2 f3 hxs hw hxl hxt
  subst hxl hxt
  obtain rfl := emp_ba hw
  have hB0 : Below w.heap.size w (w.alloc (.cells #[.string ⟨#[]⟩, .int .i64 (b : Int), .int .i64 q, .int .i64 (m : Int)] 68)) := (Below.refl _ _).alloc (Nat.le_refl _) _
  have h1 := h.on hB0
  have q1 : (w.alloc (.cells #[.string ⟨#[]⟩, .int .i64 (b : Int), .int .i64 q, .int .i64 (m : Int)] 68)).cell? ⟨Q, 1, none⟩ = some (envV 76 Bm) := h1.st.q.cell 1
  have HV := Lib.hid (value_at _ Bm _ L (by omega) h1.st.len (k : Int) (by omega))
  rw [Int.toNat_natCast] at HV
  have HK := Lib.hid (fun w0 => by have := kindOf_any ⟨⟨#[]⟩, (b : Int), q, (m : Int)⟩ w0; rw [kindI_pow hw (show (m : Int) ≠ 0 by omega)] at this; exact this)
  have hblk := Blk.new w 68 #[.string ⟨#[]⟩, .int .i64 (b : Int), .int .i64 q, .int .i64 (m : Int)]
  have HBLK := Lib.hid hblk
  have H := Lib.hid h
  have HB0 := Lib.hid hB0
  have HL := Lib.hid hl
  have hql := h.st.q.lt
  have HI := Lib.hid IH
  clear h h1 hB0 hl hlens hok hw hblk IH
  generalize L.getD k 0 = v at *
  go_enter Tryz.func47, Tryz.ntmps47
  by_cases hi : i = 0
  case' pos =>
    have hd1 : ((i : Int) == 0) = true := by simp [hi]
    have hd2 : ((j : Int) == (v : Int)) = false := by rw [beq_eq_false_iff_ne]; omega
    clear hi hnw
    go_wp2_with fail
    refine HV.out.mono ?_; rintro e w1 ⟨rfl, rfl⟩
    go_wp2_with fail
  case' neg =>
    have hd1 : ((i : Int) == 0) = false := by rw [beq_eq_false_iff_ne]; omega
    clear hi hnw
    go_wp2_with fail
  all_goals
    refine (HK.out _).mono ?_; rintro e w2 ⟨rfl, hb⟩
    have hb2 := HB0.out.trans (hb.mono HB0.out.size)
    have hn2 := HBLK.out.below hb (by simp)
    have d0 := hn2.cell 0
    have d1 := hn2.cell 1
    have d2 := hn2.cell 2
    have d3 := hn2.cell 3
    have HB2 := Lib.hid hn2
    have HBB := Lib.hid hb2
    clear hb hb2 hn2 q0 q1 f0 f1 f2 f3
    go_wp2_with fail
    refine (HK.out _).mono ?_; rintro e w3 ⟨rfl, hb3⟩
    have c0 : w3.cell? ⟨w.heap.size, 1, none⟩ = some (.int .i64 (b : Int)) := (HB2.out.below hb3 HB2.out.lt).cell 1
    have hb4 := HBB.out.trans (hb3.mono HBB.out.size)
    have HC := Lib.hid (HI.out w3 (H.out.on hb4))
    have HG2 := Lib.hid (SGrow.of_below (Q := Q) (B := B) (R := rowOf Ao) hb4)
    clear hb3 hb4 d0 d1 d2 d3
    go_wp2_with fail
    refine HC.out.mono ?_; rintro e w4 hc
    obtain ⟨idx, he⟩ : ∃ idx : Nat, e = .returned (.int .i64 (idx : Int)) := by obtain ⟨idx, _, _, _, _, _, he, _⟩ := hc; exact ⟨idx, he⟩
    subst he
    have HCC := Lib.hid (hc.from_ HG2.out)
    clear hc
    go_wp2
    go_ret
    exact HCC.out

set_option maxHeartbeats 2000000 in
set_option maxRecDepth 100000 in
theorem cut_join {w : World} {base Q P Bm B : Nat} {ad : Addr} {cap : Nat} {a : List Nd} {L : List Nat} {o : List Nd} {Ao : Option Addr} {co n : Nat} {f : Int → Option Value}
    (hl : Lie base Q P Bm B) (hlens : lens a = some L) (h : KS w base Q P Bm B (some ad) cap a L o Ao co n f) (k : Nat) (hk : k < a.length) (i j : Nat) (hij : i < j) (hj : j ≤ L.getD k 0) (hnw : ¬ (i = 0 ∧ j = L.getD k 0)) (x : Nat) (u : List UInt8) (b c : Nat)
    (hw : a[k].word.data.toList = []) (hxl : a[k].l = b) (hxr : a[k].r = c) (hxt : a[k].t = 0)
    (IH : ∀ W, KS W base Q P Bm B (some ad) cap a L o Ao co n f → Calls Tryz.prog 70 #[.pointer (some ⟨Q, 0, none⟩), .agg #[.string ⟨#[]⟩, .int .i64 (b : Int), .int .i64 (c : Int), .int .i64 0], .int .i64 (i : Int), .int .i64 (j : Int)] W (CutP base Q P Bm B (some ad) cap a L k x u W o Ao f)) :
    Calls Tryz.prog 47 #[.pointer (some ⟨Q, 0, none⟩), .int .i64 (k : Int), .int .i64 (i : Int), .int .i64 (j : Int)] w (CutP base Q P Bm B (some ad) cap a L k x u w o Ao f) := by
  obtain ⟨hLl, hok, hlen⟩ := lens_ok hlens
  obtain ⟨ad', e, hx, hxs⟩ := h.st.rope k hk
  cases e
  have q0 : w.cell? ⟨Q, 0, none⟩ = some (.slice (some ad) a.length cap) := h.st.q.cell 0
  generalize a[k] = y at *
  obtain ⟨s, l, q, t⟩ := y
  obtain ⟨f0, f1, f2, f3⟩ := hx
  simp only at f0 f1 f2 f3 hxs hw hxl hxr hxt
  subst hxl hxr hxt
  obtain rfl := emp_ba hw
  have hB0 : Below w.heap.size w (w.alloc (.cells #[.string ⟨#[]⟩, .int .i64 (b : Int), .int .i64 (c : Int), .int .i64 0] 68)) := (Below.refl _ _).alloc (Nat.le_refl _) _
  have h1 := h.on hB0
  have q1 : (w.alloc (.cells #[.string ⟨#[]⟩, .int .i64 (b : Int), .int .i64 (c : Int), .int .i64 0] 68)).cell? ⟨Q, 1, none⟩ = some (envV 76 Bm) := h1.st.q.cell 1
  have HV := Lib.hid (value_at _ Bm _ L (by omega) h1.st.len (k : Int) (by omega))
  rw [Int.toNat_natCast] at HV
  have HK := Lib.hid (fun w0 => by have := kindOf_any ⟨⟨#[]⟩, (b : Int), (c : Int), 0⟩ w0; rw [kindI_join hw rfl] at this; exact this)
  have hblk := Blk.new w 68 #[.string ⟨#[]⟩, .int .i64 (b : Int), .int .i64 (c : Int), .int .i64 0]
  have HBLK := Lib.hid hblk
  have H := Lib.hid h
  have HB0 := Lib.hid hB0
  have HL := Lib.hid hl
  have hql := h.st.q.lt
  have HI := Lib.hid IH
  clear h h1 hB0 hl hlens hok hw hblk IH
  generalize L.getD k 0 = v at *
  go_enter Tryz.func47, Tryz.ntmps47
  by_cases hi : i = 0
  case' pos =>
    have hd1 : ((i : Int) == 0) = true := by simp [hi]
    have hd2 : ((j : Int) == (v : Int)) = false := by rw [beq_eq_false_iff_ne]; omega
    clear hi hnw
    go_wp2_with fail
    refine HV.out.mono ?_; rintro e w1 ⟨rfl, rfl⟩
    go_wp2_with fail
  case' neg =>
    have hd1 : ((i : Int) == 0) = false := by rw [beq_eq_false_iff_ne]; omega
    clear hi hnw
    go_wp2_with fail
  all_goals
    refine (HK.out _).mono ?_; rintro e w2 ⟨rfl, hb⟩
    have hb2 := HB0.out.trans (hb.mono HB0.out.size)
    have hn2 := HBLK.out.below hb (by simp)
    have d0 := hn2.cell 0
    have d1 := hn2.cell 1
    have d2 := hn2.cell 2
    have d3 := hn2.cell 3
    have HB2 := Lib.hid hn2
    have HBB := Lib.hid hb2
    clear hb hb2 hn2 q0 q1 f0 f1 f2 f3
    go_wp2_with fail
    refine (HK.out _).mono ?_; rintro e w3 ⟨rfl, hb3⟩
    have hn3 := HB2.out.below hb3 HB2.out.lt
    have c0 : w3.cell? ⟨w.heap.size, 0, none⟩ = some (.string ⟨#[]⟩) := hn3.cell 0
    have c1 : w3.cell? ⟨w.heap.size, 1, none⟩ = some (.int .i64 (b : Int)) := hn3.cell 1
    have c2 : w3.cell? ⟨w.heap.size, 2, none⟩ = some (.int .i64 (c : Int)) := hn3.cell 2
    have c3 : w3.cell? ⟨w.heap.size, 3, none⟩ = some (.int .i64 0) := hn3.cell 3
    clear hn3
    have hb4 := HBB.out.trans (hb3.mono HBB.out.size)
    have HC := Lib.hid (HI.out w3 (H.out.on hb4))
    have HG2 := Lib.hid (SGrow.of_below (Q := Q) (B := B) (R := rowOf Ao) hb4)
    clear hb3 hb4 d0 d1 d2 d3
    go_wp2_with fail
    refine HC.out.mono ?_; rintro e w4 hc
    obtain ⟨idx, he⟩ : ∃ idx : Nat, e = .returned (.int .i64 (idx : Int)) := by obtain ⟨idx, _, _, _, _, _, he, _⟩ := hc; exact ⟨idx, he⟩
    subst he
    have HCC := Lib.hid (hc.from_ HG2.out)
    clear hc
    go_wp2
    go_ret
    exact HCC.out

end Go.Proofs.YtgklmcinbaghmaaGreatDoor
