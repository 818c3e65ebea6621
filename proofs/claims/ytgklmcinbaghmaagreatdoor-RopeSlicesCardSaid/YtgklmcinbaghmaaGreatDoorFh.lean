/-
  Our own text, in the proof of the law RopeSlices of package rope (cayleylaw02). Proved here: the slicer cuts a leaf; it cuts a power and a join, given that cutPower and cutJoin do. Conditions: the nodes lie in memory as the slice says.
-/
import Derived.Test.YtgklmcinbaghmaaGreatDoorFg
namespace Go.Proofs.YtgklmcinbaghmaaGreatDoor
open Go Go.RowKit

theorem extract_list (s : ByteArray) (i j : Nat) : (s.extract i j).data.toList = cutW s.data.toList i j := by
  unfold cutW
  simp only [ByteArray.data_extract, Array.toList_extract, List.extract_eq_take_drop]

set_option maxHeartbeats 2000000 in
set_option maxRecDepth 100000 in
theorem cut_leaf {w : World} {base Q P Bm B : Nat} {ad : Addr} {cap : Nat} {a : List Nd} {L : List Nat} {o : List Nd} {Ao : Option Addr} {co n : Nat} {f : Int → Option Value}
    (hl : Lie base Q P Bm B) (hlens : lens a = some L) (h : KS w base Q P Bm B (some ad) cap a L o Ao co n f) (k : Nat) (hk : k < a.length) (i j : Nat) (hij : i < j) (hj : j ≤ L.getD k 0) (hnw : ¬ (i = 0 ∧ j = L.getD k 0)) (hP : Phi a o f + 1 ≤ 4000)
    (hw : a[k].word.data.toList ≠ []) (hlf : leafB a[k].word.data.toList = true) (hd : wordK a k = a[k].word.data.toList) :
    Calls Tryz.prog 47 #[.pointer (some ⟨Q, 0, none⟩), .int .i64 (k : Int), .int .i64 (i : Int), .int .i64 (j : Int)] w (CutP base Q P Bm B (some ad) cap a L k 1 (cutW (wordK a k) i j) w o Ao f) := by
  obtain ⟨hLl, hok, hlen⟩ := lens_ok hlens
  obtain ⟨M, hM⟩ := h.val
  have hlk : (wordK a k).length = L.getD k 0 := dens_lens hlens k hk
  have hol : o.length + 1 ≤ 4000 := by unfold Phi at hP; omega
  obtain ⟨ad', e, hx, hxs⟩ := h.st.rope k hk
  cases e
  have q0 : w.cell? ⟨Q, 0, none⟩ = some (.slice (some ad) a.length cap) := h.st.q.cell 0
  rw [hd] at hlk
  have HD := Lib.hid hd
  generalize a[k] = x at *
  obtain ⟨s, l, q, t⟩ := x
  obtain ⟨f0, f1, f2, f3⟩ := hx
  simp only at f0 f1 f2 f3 hxs hw hlf hlk
  have hsz : s.size = L.getD k 0 := hlk
  have hs100 := leafB_size hlf
  have hcl : (cutW s.data.toList i j).length = j - i := cutW_len _ i j (by omega) (by have : s.data.toList.length = s.size := rfl; omega)
  have hgr := grown_leaf hM hol (s.extract i j) (by
      rw [extract_list]
      unfold leafB at hlf ⊢
      rw [Bool.and_eq_true, decide_eq_true_eq] at hlf ⊢
      refine ⟨by omega, ?_⟩
      have h2 := hlf.2
      rw [List.all_eq_true] at h2 ⊢
      exact fun c hc => h2 c (List.mem_of_mem_drop (List.mem_of_mem_take hc))) (by
      rw [extract_list]
      intro h0
      have := congrArg List.length h0
      rw [hcl] at this
      simp at this
      omega)
  rw [extract_list] at hgr
  have HGR := Lib.hid hgr
  have hB0 : Below w.heap.size w (w.alloc (.cells #[.string s, .int .i64 l, .int .i64 q, .int .i64 t] 68)) := (Below.refl _ _).alloc (Nat.le_refl _) _
  have h1 := h.on hB0
  have q1 : (w.alloc (.cells #[.string s, .int .i64 l, .int .i64 q, .int .i64 t] 68)).cell? ⟨Q, 1, none⟩ = some (envV 76 Bm) := h1.st.q.cell 1
  have HV := Lib.hid (value_at _ Bm _ L (by omega) h1.st.len (k : Int) (by omega))
  rw [Int.toNat_natCast] at HV
  have HK := Lib.hid (by have := kindOf_any ⟨s, l, q, t⟩ (w.alloc (.cells #[.string s, .int .i64 l, .int .i64 q, .int .i64 t] 68)); rw [kindI_leaf hw] at this; exact this)
  have hblk := Blk.new w 68 #[.string s, .int .i64 l, .int .i64 q, .int .i64 t]
  have HBLK := Lib.hid hblk
  have H := Lib.hid h
  have HB0 := Lib.hid hB0
  have HL := Lib.hid hl
  have hql := h.st.q.lt
  clear h h1 hB0 hl hlens hok hw hlf hgr hM hblk hd hlk
  have hjs : j ≤ s.size := by omega
  generalize L.getD k 0 = v at *
  go_enter Tryz.func47, Tryz.ntmps47
  by_cases hi : i = 0
  case' pos =>
    have hd1 : ((i : Int) == 0) = true := by simp [hi]
    have hd2 : ((j : Int) == (v : Int)) = false := by rw [beq_eq_false_iff_ne]; omega
    clear hi hnw
    go_wp2_with fail
    refine HV.out.mono ?_; rintro e w1 ⟨rfl, rfl⟩
    go_wp2_with fail
  case' neg =>
    have hd1 : ((i : Int) == 0) = false := by rw [beq_eq_false_iff_ne]; omega
    clear hi hnw
    go_wp2_with fail
  all_goals
    refine HK.out.mono ?_; rintro e w2 ⟨rfl, hb⟩
    have hb2 := HB0.out.trans (hb.mono HB0.out.size)
    have h2 := H.out.on hb2
    have c0 : w2.cell? ⟨w.heap.size, 0, none⟩ = some (.string s) := (HBLK.out.below hb (by simp)).cell 0
    have HA := Lib.hid (add_any ⟨s.extract i j, 0, 0, 0⟩ h2.st HL.out.dis (by omega))
    have HG2 := Lib.hid (SGrow.of_below (Q := Q) (B := B) (R := rowOf Ao) hb2)
    have H2 := Lib.hid h2
    clear hb hb2 h2 q0 q1 f0 f1 f2 f3
    go_wp2_with fail
    refine HA.out.mono ?_; rintro e w3 ⟨rfl, A3, c3, s3, g3⟩
    have HS3 := Lib.hid s3
    have HG3 := Lib.hid g3
    clear s3 g3
    go_wp2
    go_ret
    have hks := add_step (w' := w3) H2.out HGR.out HS3.out
    exact ⟨o.length, _, A3, c3, n, f, rfl, hks.1, ⟨_, rfl⟩, by rw [hks.2.2]; exact Nat.le_refl _, by rw [HD.out]; exact hks.2.1, fun _ _ => rfl, fun _ => by simp, HG2.out.trans HG3.out⟩
end Go.Proofs.YtgklmcinbaghmaaGreatDoor
