/-
  Our own text, in the proofs of the laws of package pres (cayleylaw03). Proved here: open of package pres; the deferred closure of Parse of package pres, and Parse's results; Parse of package pres, where it returns a presentation, and where a name is not known; the chapter's examples of Parse. Conditions: the arguments lie in memory as the slices say; bounds; the listed tables lie as the program lays them.
-/
import Derived.Test.YteephomlnbbjeaaGreatDoorJx
set_option linter.unusedVariables false
set_option linter.unusedSimpArgs false
set_option linter.unusedSectionVars false
namespace Go.Proofs.YteephomlnbbjeaaGreatDoor
open Go Go.RowKit Go.Shelf

set_option maxHeartbeats 2000000 in
theorem cutB_hit (s : ByteArray) (c : UInt8) (i : Nat) (hi : Lib.indexByte s.data.toList c = i) (hl : i < s.size) (hs : s.size ≤ 1000000) (w : World) :
    Calls Tryz.prog 106 #[.string s, .string ⟨#[c]⟩] w fun e w' => e = .returned (.tuple #[.string (s.extract 0 i), .string (s.extract (i + 1) s.size), .bool true]) ∧ ∃ n, w' = w.drewN n := by
  have HC := Lib.hid (cut_hit s c i hi hl hs w)
  clear hi
  go_enter Tryz.func106, Tryz.ntmps106
  go_wp2_with (go_at_call 145; refine HC.out.mono ?_; rintro e w' ⟨rfl, n, rfl⟩)
  go_ret3
  exact ⟨rfl, n, rfl⟩

/-- A text's two parts. -/
structure OpensTo (t names rels : List UInt8) : Prop where
  len : t.length ≤ 100000
  pre : Lib.hasPrefix (Lib.trimB t 32) [60] = true
  suf : Lib.hasSuffix (Lib.trimPrefix (Lib.trimB t 32) [60]) [62] = true
  inner : Lib.trimSuffix (Lib.trimPrefix (Lib.trimB t 32) [60]) [62] = names ++ 124 :: rels
  bar : Lib.indexByte (names ++ 124 :: rels) 124 = names.length
  ilen : (Lib.trimPrefix (Lib.trimB t 32) [60]).length ≤ 100000
  nlen : (names ++ 124 :: rels).length ≤ 100000

set_option maxHeartbeats 4000000 in
set_option maxRecDepth 100000 in
theorem open_ok (t names rels : List UInt8) (w : World) (h : OpensTo t names rels) :
    Calls Tryz.prog 57 #[.string ⟨t.toArray⟩] w fun e w' => e = .returned (.tuple #[.string ⟨names.toArray⟩, .string ⟨rels.toArray⟩]) ∧ ∃ n, w' = w.drewN n := by
  have HT := Lib.hid (fun X => trim_any t X (by have := h.len; omega))
  have HP : Hid (∀ X : World, Calls Tryz.prog 103 #[.string ⟨(Lib.trimB t 32).toArray⟩, .string ⟨#[60]⟩] X (fun e w' => e = .returned (.tuple #[.string ⟨(Lib.trimPrefix (Lib.trimB t 32) [60]).toArray⟩, .bool true]) ∧ X = w')) := Lib.hid (fun X =>
    (show Calls Tryz.prog 103 #[.string ⟨(Lib.trimB t 32).toArray⟩, .string ⟨#[60]⟩] X (fun e w' => e = .returned (.tuple #[.string ⟨(Lib.trimPrefix (Lib.trimB t 32) [60]).toArray⟩, .bool (Lib.hasPrefix (Lib.trimB t 32) [60])]) ∧ w' = X) from Any.strings_CutPrefix Tryz.laysCutP ⟨(Lib.trimB t 32).toArray⟩ ⟨#[60]⟩ X).mono (fun e w' k => ⟨by rw [k.1, h.pre], k.2.symm⟩))
  have HS : Hid (∀ X : World, Calls Tryz.prog 105 #[.string ⟨(Lib.trimPrefix (Lib.trimB t 32) [60]).toArray⟩, .string ⟨#[62]⟩] X (fun e w' => e = .returned (.tuple #[.string ⟨(names ++ 124 :: rels).toArray⟩, .bool true]) ∧ X = w')) := Lib.hid (fun X =>
    (show Calls Tryz.prog 105 #[.string ⟨(Lib.trimPrefix (Lib.trimB t 32) [60]).toArray⟩, .string ⟨#[62]⟩] X (fun e w' => e = .returned (.tuple #[.string ⟨(Lib.trimSuffix (Lib.trimPrefix (Lib.trimB t 32) [60]) [62]).toArray⟩, .bool (Lib.hasSuffix (Lib.trimPrefix (Lib.trimB t 32) [60]) [62])]) ∧ w' = X) from Any.strings_CutSuffix Tryz.laysCutS ⟨(Lib.trimPrefix (Lib.trimB t 32) [60]).toArray⟩ ⟨#[62]⟩ X (by rw [size_mk]; have := h.ilen; omega)).mono (fun e w' k => ⟨by rw [k.1, h.suf, h.inner], k.2.symm⟩))
  have he0 : (ByteArray.mk (names ++ 124 :: rels).toArray).extract 0 names.length = ⟨names.toArray⟩ := ba_ext (by simp [ByteArray.data_extract, List.extract_eq_take_drop])
  have he1 : (ByteArray.mk (names ++ 124 :: rels).toArray).extract (names.length + 1) (ByteArray.mk (names ++ 124 :: rels).toArray).size = ⟨rels.toArray⟩ := ba_ext (by
    rw [size_mk]
    have e : ((ByteArray.mk (names ++ 124 :: rels).toArray).extract (names.length + 1) (names ++ 124 :: rels).length).data.toList = ((names ++ 124 :: rels).drop (names.length + 1)).take ((names ++ 124 :: rels).length - (names.length + 1)) := by simp [ByteArray.data_extract, List.extract_eq_take_drop]
    rw [e, List.take_of_length_le (by simp; omega)]
    rw [show names.length + 1 = (names ++ [124]).length by simp, show names ++ 124 :: rels = (names ++ [124]) ++ rels by simp, List.drop_left])
  have HCU : Hid (∀ X : World, Calls Tryz.prog 106 #[.string ⟨(names ++ 124 :: rels).toArray⟩, .string ⟨#[124]⟩] X (fun e w' => e = .returned (.tuple #[.string ⟨names.toArray⟩, .string ⟨rels.toArray⟩, .bool true]) ∧ ∃ n, w' = X.drewN n)) := Lib.hid (fun X => by
    have k := cutB_hit ⟨(names ++ 124 :: rels).toArray⟩ 124 names.length h.bar (by rw [size_mk]; simp) (by rw [size_mk]; have := h.nlen; omega) X
    rw [he0, he1] at k
    exact k)
  have HM := Lib.hid (fun X => must_yes X)
  clear h he0 he1
  go_enter Tryz.func57, Tryz.ntmps57
  go_wp2_with (go_at_call 104; refine (HT.out _).mono ?_; rintro e w1 ⟨rfl, n1, rfl⟩)
  go_wp2_with (go_at_call 103; refine (HP.out _).mono ?_; rintro e w1 ⟨rfl, rfl⟩)
  go_wp2_with (go_at_call 105; refine (HS.out _).mono ?_; rintro e w1 ⟨rfl, rfl⟩)
  go_wp2_with (go_at_call 106; refine (HCU.out _).mono ?_; rintro e w1 ⟨rfl, n2, rfl⟩)
  go_wp2_with (go_at_call 107; refine (HM.out _).mono ?_; rintro e w1 ⟨rfl, rfl⟩)
  go_ret2
  exact ⟨rfl, n1 + n2, by simp [World.drewN_drewN]⟩
end Go.Proofs.YteephomlnbbjeaaGreatDoor

namespace Go.Proofs.YteephomlnbbjeaaGreatDoor
open Go Go.RowKit Go.Shelf

/-- The blocks of Parse's two results. -/
structure Tp (w w0 : World) (k : Int) (R : Value) (n : Int) : Prop where
  below : Below w.heap.size w w0
  size : w.heap.size + 2 ≤ w0.heap.size
  c0 : w0.cell? ⟨w.heap.size, 0, none⟩ = some (.int .i64 k)
  c1 : w0.cell? ⟨w.heap.size, 1, none⟩ = some R
  c2 : w0.cell? ⟨w.heap.size + 1, 0, none⟩ = some (.int .i64 n)
  f0 : w0.frozen? ⟨w.heap.size, 0, none⟩ = false
  f1 : w0.frozen? ⟨w.heap.size, 1, none⟩ = false
  f2 : w0.frozen? ⟨w.heap.size + 1, 0, none⟩ = false
theorem Tp.on {w w0 w1 : World} {k : Int} {R : Value} {n : Int} {m : Nat} (h : Tp w w0 k R n) (hb : Below m w0 w1) (hm : w.heap.size + 2 ≤ m) (hs : w0.heap.size ≤ w1.heap.size) : Tp w w1 k R n where
  below := h.below.trans (hb.mono (by omega))
  size := Nat.le_trans h.size hs
  c0 := (hb.cell (p := ⟨_, 0, none⟩) (by simp; omega)).trans h.c0
  c1 := (hb.cell (p := ⟨_, 1, none⟩) (by simp; omega)).trans h.c1
  c2 := (hb.cell (p := ⟨_, 0, none⟩) (by simp; omega)).trans h.c2
  f0 := (hb.frozen (p := ⟨_, 0, none⟩) (by simp; omega)).trans h.f0
  f1 := (hb.frozen (p := ⟨_, 1, none⟩) (by simp; omega)).trans h.f1
  f2 := (hb.frozen (p := ⟨_, 0, none⟩) (by simp; omega)).trans h.f2
theorem Tp.set {w w0 : World} {k : Int} {R : Value} {n : Int} (h : Tp w w0 k R n) (k' : Int) (R' : Value) (n' : Int) : Tp w (((w0.setCell ⟨w.heap.size, 0, none⟩ (.int .i64 k')).setCell ⟨w.heap.size, 1, none⟩ R').setCell ⟨w.heap.size + 1, 0, none⟩ (.int .i64 n')) k' R' n' where
  below := ((h.below.setCell (p := ⟨w.heap.size, 0, none⟩) (Nat.le_refl _) _).setCell (p := ⟨w.heap.size, 1, none⟩) (Nat.le_refl _) _).setCell (p := ⟨w.heap.size + 1, 0, none⟩) (Nat.le_succ _) _
  size := by have := h.size; simpa [World.setCell] using this
  c0 := by
    rw [World.cell?_setCell_other _ _ _ _ (by simp), World.cell?_setCell_other _ _ _ _ (by simp)]
    exact World.cell?_setCell_same' _ _ _ (by rw [h.c0]; rfl)
  c1 := by
    rw [World.cell?_setCell_other _ _ _ _ (by simp)]
    exact World.cell?_setCell_same' _ _ _ (by rw [World.cell?_setCell_other _ _ _ _ (by simp), h.c1]; rfl)
  c2 := World.cell?_setCell_same' _ _ _ (by rw [World.cell?_setCell_other _ _ _ _ (by simp), World.cell?_setCell_other _ _ _ _ (by simp), h.c2]; rfl)
  f0 := by rw [World.frozen?_setCell, World.frozen?_setCell, World.frozen?_setCell]; exact h.f0
  f1 := by rw [World.frozen?_setCell, World.frozen?_setCell, World.frozen?_setCell]; exact h.f1
  f2 := by rw [World.frozen?_setCell, World.frozen?_setCell, World.frozen?_setCell]; exact h.f2
theorem Tp.start (w : World) : Tp w ((w.alloc (.cells #[.int .i64 0, .slice none 0 0] 24)).alloc (.cells #[.int .i64 0] 27)) 0 (.slice none 0 0) 0 := by
  have e1 : (w.alloc (.cells #[.int .i64 0, .slice none 0 0] 24)).heap.size = w.heap.size + 1 := by simp only [World.size_alloc]
  have h1 : ((w.alloc (.cells #[.int .i64 0, .slice none 0 0] 24)).alloc (.cells #[.int .i64 0] 27)).heap[w.heap.size]? = some (.cells #[.int .i64 0, .slice none 0 0] 24) := (Below.heap_alloc _ _ _ (by omega)).trans (heap_alloc_new w _)
  have h2 : ((w.alloc (.cells #[.int .i64 0, .slice none 0 0] 24)).alloc (.cells #[.int .i64 0] 27)).heap[w.heap.size + 1]? = some (.cells #[.int .i64 0] 27) := by
    rw [← e1]; exact heap_alloc_new _ _
  refine ⟨((Below.refl _ w).alloc (Nat.le_refl _) _).alloc (by omega) _, by simp, ?_, ?_, ?_, ?_, ?_, ?_⟩
  · unfold World.cell?; rw [h1]; rfl
  · unfold World.cell?; rw [h1]; rfl
  · unfold World.cell?; rw [h2]; rfl
  · unfold World.frozen?; rw [h1]; rfl
  · unfold World.frozen?; rw [h1]; rfl
  · unfold World.frozen?; rw [h2]; rfl

theorem catchP_yes (w w0 : World) (k : Int) (A : Option Addr) (m cap : Nat) (n x : Int) (older : List PanicEntry) (h : Tp w w0 k (.slice A m cap) n) :
    CallsD Tryz.prog 56 #[.pointer (some ⟨w.heap.size, 0, none⟩), .pointer (some ⟨w.heap.size + 1, 0, none⟩)] (.panicking ({ v := .iface 27 (.int .i64 x), recovered := false } :: older)) w0 fun e u' w' =>
      e = .returned (.tuple #[]) ∧ u' = .panicking ({ v := .iface 27 (.int .i64 x), recovered := true } :: older) ∧ w' = ((w0.setCell ⟨w.heap.size, 0, none⟩ (.int .i64 0)).setCell ⟨w.heap.size, 1, none⟩ (.slice none 0 0)).setCell ⟨w.heap.size + 1, 0, none⟩ (.int .i64 4) := by
  have hc0 := h.c0
  have hf0 := h.f0
  have hc1 : (w0.setCell ⟨w.heap.size, 0, none⟩ (.int .i64 0)).cell? ⟨w.heap.size, 1, none⟩ = some (.slice A m cap) := (World.cell?_setCell_other _ _ _ _ (by simp)).trans h.c1
  have hf1 : (w0.setCell ⟨w.heap.size, 0, none⟩ (.int .i64 0)).frozen? ⟨w.heap.size, 1, none⟩ = false := by rw [World.frozen?_setCell]; exact h.f1
  have hc1' := h.c1
  have hf1' := h.f1
  have hc2 : ((w0.setCell ⟨w.heap.size, 0, none⟩ (.int .i64 0)).setCell ⟨w.heap.size, 1, none⟩ (.slice none 0 0)).cell? ⟨w.heap.size + 1, 0, none⟩ = some (.int .i64 n) := ((World.cell?_setCell_other _ _ _ _ (by simp)).trans (World.cell?_setCell_other _ _ _ _ (by simp))).trans h.c2
  have hf2 : ((w0.setCell ⟨w.heap.size, 0, none⟩ (.int .i64 0)).setCell ⟨w.heap.size, 1, none⟩ (.slice none 0 0)).frozen? ⟨w.heap.size + 1, 0, none⟩ = false := by rw [World.frozen?_setCell, World.frozen?_setCell]; exact h.f2
  refine callsD_of_wpS Tryz.func56 rfl fun c₀ cs hu => ?_
  apply wpS_seq
  apply wpS_region
  simp [wpOpsS, go_sem, recoverD, hu, Tryz.ntmps56, Exit.thenS]
  refine wpS_cond (t := true) (by simp [Act.eval, Array.replicate]) ?_
  simp only [if_true]
  apply wpS_region
  simp [wpOpsS, go_sem, hc0, hf0, hc1, hf1, hc1', hf1', hc2, hf2, bodyPostS, results, Tryz.results56]

theorem catchP_no (b1 b2 : Addr) (w : World) :
    CallsD Tryz.prog 56 #[.pointer (some b1), .pointer (some b2)] .returning w fun e u' w' => e = .returned (.tuple #[]) ∧ u' = .returning ∧ w' = w := by
  refine callsD_of_wpS Tryz.func56 rfl fun c₀ cs hu => ?_
  apply wpS_seq
  apply wpS_region
  simp [wpOpsS, go_sem, recoverD, hu, Tryz.ntmps56, Exit.thenS]
  refine wpS_cond (t := false) (by simp [Act.eval, Array.replicate]) ?_
  simp only [Bool.false_eq_true, if_false]
  refine wpS_of_wp (wp_skip ?_)
  cases c₀
  simp_all [bodyPostS, results, Tryz.results56]

theorem res15 {w X : World} {k : Int} {A : Option Addr} {m cap : Nat} {n : Int} (h : Tp w X k (.slice A m cap) n) (tmps : Array Value) (h2 : tmps.getD 2 undef = .pointer (some ⟨w.heap.size, 0, none⟩)) (h3 : tmps.getD 3 undef = .pointer (some ⟨w.heap.size + 1, 0, none⟩)) :
    (results Tryz.f15 tmps).run Tryz.prog X = .ok (.tuple #[.agg #[.int .i64 k, .slice A m cap], .int .i64 n]) X := by
  have h2' : tmps[2]?.getD undef = .pointer (some ⟨w.heap.size, 0, none⟩) := by simpa using h2
  have h3' : tmps[3]?.getD undef = .pointer (some ⟨w.heap.size + 1, 0, none⟩) := by simpa using h3
  have c0 := h.c0
  have c1 := h.c1
  have c2 := h.c2
  simp [results, Tryz.results15, go_sem, h2', h3', c0, c1, c2]
end Go.Proofs.YteephomlnbbjeaaGreatDoor

namespace Go.Proofs.YteephomlnbbjeaaGreatDoor
open Go Go.RowKit Go.Shelf

theorem nmF_len : ∀ (ps : List (List UInt8)) (ns r : List UInt8), nmF ns ps = some r → ns.length ≤ 8 → r.length = ns.length + ps.length ∧ r.length ≤ 8
  | [], ns, r, h, h8 => by
    have : ns = r := by simpa [nmF] using h
    subst this
    exact ⟨rfl, h8⟩
  | p :: t, ns, r, h, h8 => by
    rw [nmF.eq_2] at h
    split at h
    · split at h
      · rename_i hh
        have := nmF_len t _ r h (by simp; omega)
        simp at this ⊢
        omega
      · cases h
    · cases h

theorem rd_new (w : World) (names : List UInt8) : RdAt (w.alloc (.cells #[.string ⟨names.toArray⟩, .slice none 0 0, .bool false] 100)) w.heap.size names none 0 [] := by
  have h := heap_alloc_new w (.cells #[.string ⟨names.toArray⟩, .slice none 0 0, .bool false] 100)
  refine ⟨?_, ?_, ?_, ?_, ?_, World.ownsRow_nil _ _ _ _⟩
  · unfold World.cell?; rw [h]; rfl
  · unfold World.cell?; rw [h]; rfl
  · unfold World.cell?; rw [h]; rfl
  · unfold World.frozen?; rw [h]; rfl
  · unfold World.frozen?; rw [h]; rfl

/-- What Parse returns. -/
def ParsP (w : World) (k : Int) (rs : List (List UInt8)) (n : Int) (e : Ending) (w' : World) : Prop :=
  ∃ A cap, e = .returned (.tuple #[.agg #[.int .i64 k, .slice A rs.length cap], .int .i64 n]) ∧ StrsAt w' A rs ∧ (A = none → rs = []) ∧ Below w.heap.size w w'

theorem relsF_short {names : List UInt8} {V Q : List UInt8 → List UInt8} {l : List (List UInt8)} (h : ∀ x ∈ l, PartOK names V Q x) : Short (relsF (l.map (relR V Q))) := by
  intro r hr
  have h1 := (List.mem_filter.1 hr).1
  obtain ⟨x, hx, rfl⟩ := List.mem_map.1 h1
  have := (h x hx).r
  unfold relR
  omega

set_option maxHeartbeats 4000000 in
set_option maxRecDepth 100000 in
theorem Parse_any (t nt rt names : List UInt8) (V Q : List UInt8 → List UInt8) (w : World) (ht : Tabs w) (ho : OpensTo t nt rt) (hnt : nt.length ≤ 100000) (hrt : rt.length ≤ 100000) (hnm : nmF [] (sepL 44 nt) = some names) (htr : Lib.trimB rt 32 ≠ [])
    (hP : ∀ x ∈ sepL 44 rt, PartOK names V Q x) (hmany : (sepL 44 rt).length ≤ 60) :
    Calls Tryz.prog 15 #[.string ⟨t.toArray⟩] w fun e w' => (ParsP w names.length (relsF ((sepL 44 rt).map (relR V Q))) 0 e w' ∧ ∀ x ∈ sepL 44 rt, ∀ y ∈ sepL 61 x, ExprIs names y (V y)) ∨
      (ParsP w 0 [] 4 e w' ∧ ∃ x ∈ sepL 44 rt, ∃ y ∈ sepL 61 x, renF names y = none) := by
  have hmf : ∀ (fn : Fn) (first cap : Array Value) (w : World), (Instr.makeFunc fn first cap).run Tryz.prog w = .ok (.func fn first cap) w := fun _ _ _ _ => rfl
  have hnl := nmF_len _ _ _ hnm (by simp)
  have hne := List.length_pos_iff.2 (sepL_ne 44 nt)
  have HNL : Hid (1 ≤ names.length ∧ names.length ≤ 8) := Lib.hid ⟨by have := hnl.1; simp at this; omega, hnl.2⟩
  have htl := ho.len
  have hd : decide ((100000 : Int) < (t.length : Int)) = false := by simp; omega
  have hd2 : decide (100000 < t.length) = false := by simp; omega
  have HT := Lib.hid ht
  have H3 := Lib.hid ht.three
  have HO := Lib.hid (fun X => open_ok t nt rt X ho)
  have HNM := Lib.hid (fun X => callsIn_wide.1 (readNames_in nt names X hnt hnm))
  have HRR := Lib.hid (fun (B : Nat) (X : World) (hX : Tabs X) (hr : RdAt X B names none 0 []) (hB : 3 < B) => callsIn_wide.1 (readRelations_in B names rt V Q X hX HNL.out.1 HNL.out.2 hrt hr hB htr hP hmany))
  have HSH := Lib.hid (relsF_short hP)
  have hsz : (ByteArray.mk t.toArray).size = t.length := size_mk t
  clear ht ho hnt hrt hnm htr hP hmany hnl hne htl
  go_enter_defers Tryz.func15, Tryz.ntmps15
  go_wp2_with fail
  have hT0 := Tp.start w
  generalize hw0 : (w.alloc (.cells #[.int .i64 0, .slice none 0 0] 24)).alloc (.cells #[.int .i64 0] 27) = w0 at *
  clear hw0
  refine (HO.out w0).mono ?_
  rintro e w1 ⟨rfl, n, rfl⟩
  go_wp2_with fail
  refine (HNM.out _).mono ?_
  rintro e w2 ⟨rfl, hb2⟩
  have hb2' : Below w0.heap.size w0 w2 := ((Below.refl _ w0).drewN n).trans hb2
  have hT2 : Tp w w2 0 (.slice none 0 0) 0 := hT0.on hb2' hT0.size hb2'.size
  clear hb2 hb2'
  go_wp2_with fail
  have hba := (Below.refl _ w2).alloc (Nat.le_refl _) (.cells #[.string ⟨names.toArray⟩, .slice none 0 0, .bool false] 100)
  have hT3 := hT2.on hba hT2.size (by simp)
  have hrd := rd_new w2 names
  have hsz2 : (w2.alloc (.cells #[.string ⟨names.toArray⟩, .slice none 0 0, .bool false] 100)).heap.size = w2.heap.size + 1 := by simp
  refine (HRR.out w2.heap.size _ (HT.out.on hT3.below) hrd (by have := H3.out; have := hT2.size; omega)).mono ?_
  rintro e w4 ⟨hb4, (⟨rfl, ⟨A, cap, hr4⟩, hok⟩ | ⟨rfl, hbad⟩)⟩
  · have hT4 := hT3.on hb4 hT2.size hb4.size
    have r0 := hr4.c0
    have r1 := hr4.c1
    have r2 := hr4.c2
    have hst := strsAt_own hr4.row HSH.out
    have hnn : A = none → relsF ((sepL 44 rt).map (relR V Q)) = [] := fun h => by
      subst h
      rcases hr4.row.2 with ⟨_, h2⟩ | ⟨g, c', cur, hv, _⟩
      · exact List.length_eq_zero_iff.1 h2
      · cases hv
    have HST := Lib.hid hst
    have HNN := Lib.hid hnn
    have HOK := Lib.hid hok
    have hlen : (ByteArray.mk names.toArray).size = names.length := size_mk names
    have HGE := Lib.hid (own_ge hr4.row)
    have HS2 := Lib.hid hT2.size
    clear hb4 hr4 hst hnn hok hT0 hT2 hT3 hrd hba
    have q0 := hT4.c0
    have q1 := hT4.c1
    have z0 := hT4.f0
    have z1 := hT4.f1
    have q1' : (w4.setCell ⟨w.heap.size, 0, none⟩ (.int .i64 names.length)).cell? ⟨w.heap.size, 1, none⟩ = some (.slice none 0 0) := (World.cell?_setCell_other _ _ _ _ (by simp)).trans hT4.c1
    have z1' : (w4.setCell ⟨w.heap.size, 0, none⟩ (.int .i64 names.length)).frozen? ⟨w.heap.size, 1, none⟩ = false := by rw [World.frozen?_setCell]; exact hT4.f1
    have q2 : ((w4.setCell ⟨w.heap.size, 0, none⟩ (.int .i64 names.length)).setCell ⟨w.heap.size, 1, none⟩ (.slice A (relsF ((sepL 44 rt).map (relR V Q))).length cap)).cell? ⟨w.heap.size + 1, 0, none⟩ = some (.int .i64 0) := ((World.cell?_setCell_other _ _ _ _ (by simp)).trans (World.cell?_setCell_other _ _ _ _ (by simp))).trans hT4.c2
    have z2 : ((w4.setCell ⟨w.heap.size, 0, none⟩ (.int .i64 names.length)).setCell ⟨w.heap.size, 1, none⟩ (.slice A (relsF ((sepL 44 rt).map (relR V Q))).length cap)).frozen? ⟨w.heap.size + 1, 0, none⟩ = false := by rw [World.frozen?_setCell, World.frozen?_setCell]; exact hT4.f2
    have hT5 := hT4.set names.length (.slice A (relsF ((sepL 44 rt).map (relR V Q))).length cap) 0
    have HST5 : Hid (StrsAt (((w4.setCell ⟨w.heap.size, 0, none⟩ (.int .i64 names.length)).setCell ⟨w.heap.size, 1, none⟩ (.slice A (relsF ((sepL 44 rt).map (relR V Q))).length cap)).setCell ⟨w.heap.size + 1, 0, none⟩ (.int .i64 0)) A (relsF ((sepL 44 rt).map (relR V Q)))) := Lib.hid (by
      intro i hi
      obtain ⟨b, o, hA, hc, hl⟩ := HST.out i hi
      have h1 := HGE.out _ hA
      have h2 := HS2.out
      simp only at h1
      refine ⟨b, o, hA, ?_, hl⟩
      rw [World.cell?_setCell_other _ _ _ _ (by intro e; have := congrArg Addr.block e; simp at this; omega), World.cell?_setCell_other _ _ _ _ (by intro e; have := congrArg Addr.block e; simp at this; omega), World.cell?_setCell_other _ _ _ _ (by intro e; have := congrArg Addr.block e; simp at this; omega)]
      exact hc)
    go_wp2_with fail
    generalize ((w4.setCell ⟨w.heap.size, 0, none⟩ (.int .i64 names.length)).setCell ⟨w.heap.size, 1, none⟩ (.slice A (relsF ((sepL 44 rt).map (relR V Q))).length cap)).setCell ⟨w.heap.size + 1, 0, none⟩ (.int .i64 0) = w5 at *
    refine leaves_cons (f := 56) (args := #[.pointer (some ⟨w.heap.size, 0, none⟩), .pointer (some ⟨w.heap.size + 1, 0, none⟩)]) (by simp) (by simp [go_sem]) ?_
    refine (catchP_no _ _ w5).mono ?_
    rintro e u' w'' ⟨rfl, rfl, rfl⟩
    exact ⟨_, res15 hT5 _ rfl rfl, .inl ⟨⟨A, cap, rfl, HST5.out, HNN.out, hT5.below⟩, HOK.out⟩⟩
  · have hT4 := hT3.on hb4 hT2.size hb4.size
    have HBAD := Lib.hid hbad
    clear hb4 hbad hT0 hT2 hT3 hrd hba
    refine leaves_cons (f := 56) (args := #[.pointer (some ⟨w.heap.size, 0, none⟩), .pointer (some ⟨w.heap.size + 1, 0, none⟩)]) (by simp) (by simp [go_sem]) ?_
    refine (catchP_yes w w4 0 none 0 0 0 4 [] hT4).mono ?_
    rintro e u' w'' ⟨rfl, rfl, rfl⟩
    have hT5 := hT4.set 0 (.slice none 0 0) 4
    exact ⟨_, res15 hT5 _ rfl rfl, .inr ⟨⟨none, 0, rfl, fun i hi => absurd hi (Nat.not_lt_zero i), fun _ => rfl, hT5.below⟩, HBAD.out⟩⟩
end Go.Proofs.YteephomlnbbjeaaGreatDoor

namespace Go.Proofs.YteephomlnbbjeaaGreatDoor
open Go Go.RowKit Go.Shelf

-- <x, y | x y = y x>
def t1 : List UInt8 := [60, 120, 44, 32, 121, 32, 124, 32, 120, 32, 121, 32, 61, 32, 121, 32, 120, 62]
-- <a | a^5, a A>
def t2 : List UInt8 := [60, 97, 32, 124, 32, 97, 94, 53, 44, 32, 97, 32, 65, 62]
-- <a | b>
def t3 : List UInt8 := [60, 97, 32, 124, 32, 98, 62]

theorem ex1a : ExprIs [120, 121] [32, 120, 32, 121, 32] [97, 98] := ⟨[32, 97, 32, 98, 32], 20, 20, 0, [], by kernel_rfl, by kernel_rfl, by decide, by kernel_rfl⟩
theorem ex1b : ExprIs [120, 121] [32, 121, 32, 120] [98, 97] := ⟨[32, 98, 32, 97], 20, 20, 0, [], by kernel_rfl, by kernel_rfl, by decide, by kernel_rfl⟩
theorem ex2a : ExprIs [97] [32, 97, 94, 53] [97, 97, 97, 97, 97] := ⟨[32, 97, 94, 53], 20, 20, 0, [], by kernel_rfl, by kernel_rfl, by decide, by kernel_rfl⟩
theorem ex2b : ExprIs [97] [32, 97, 32, 65] [] := ⟨[32, 97, 32, 65], 20, 20, 0, [], by kernel_rfl, by kernel_rfl, by decide, by kernel_rfl⟩
theorem op1 : OpensTo t1 [120, 44, 32, 121, 32] [32, 120, 32, 121, 32, 61, 32, 121, 32, 120] := ⟨by decide, by decide, by decide, by decide, by decide, by decide, by decide⟩
theorem op2 : OpensTo t2 [97, 32] [32, 97, 94, 53, 44, 32, 97, 32, 65] := ⟨by decide, by decide, by decide, by decide, by decide, by decide, by decide⟩
theorem op3 : OpensTo t3 [97, 32] [32, 98] := ⟨by decide, by decide, by decide, by decide, by decide, by decide, by decide⟩

theorem parse1 (w : World) (ht : Tabs w) : Calls Tryz.prog 15 #[.string ⟨t1.toArray⟩] w (ParsP w 2 [[97, 98, 65, 66]] 0) := by
  have hs : sepL 44 [32, 120, 32, 121, 32, 61, 32, 121, 32, 120] = [[32, 120, 32, 121, 32, 61, 32, 121, 32, 120]] := by decide
  have hs2 : sepL 61 [32, 120, 32, 121, 32, 61, 32, 121, 32, 120] = [[32, 120, 32, 121, 32], [32, 121, 32, 120]] := by decide
  refine (Parse_any t1 _ _ [120, 121] (fun y => if y = [32, 120, 32, 121, 32] then [97, 98] else [98, 97]) (fun _ => [97, 98, 65, 66]) w ht op1 (by decide) (by decide) (by decide) (by decide) (fun x hx => ?_) (by decide)).mono ?_
  · rw [hs] at hx
    obtain rfl := List.mem_singleton.1 hx
    refine ⟨?_, ?_, by rw [hs2]; decide, ?_, by rw [hs2]; decide⟩
    · rw [hs2]
      intro y hy
      simp only [List.mem_cons, List.not_mem_nil, or_false] at hy
      rcases hy with rfl | rfl
      · exact .inl ex1a
      · exact .inl ex1b
    · rw [hs2]
      intro y hy
      simp only [List.mem_cons, List.not_mem_nil, or_false] at hy
      rcases hy with rfl | rfl <;> decide
    · rw [hs2]
      intro a b hab X hX
      simp only [List.cons.injEq, and_true] at hab
      obtain ⟨rfl, rfl⟩ := hab
      exact quotient_ex X hX
  · rintro e w' (⟨h, _⟩ | ⟨_, x, hx, y, hy, hb⟩)
    · rw [hs] at h
      exact h
    · rw [hs] at hx
      obtain rfl := List.mem_singleton.1 hx
      rw [hs2] at hy
      simp only [List.mem_cons, List.not_mem_nil, or_false] at hy
      rcases hy with rfl | rfl
      · exact absurd hb (by decide)
      · exact absurd hb (by decide)

theorem parse2 (w : World) (ht : Tabs w) : Calls Tryz.prog 15 #[.string ⟨t2.toArray⟩] w (ParsP w 1 [[97, 97, 97, 97, 97]] 0) := by
  have hs : sepL 44 [32, 97, 94, 53, 44, 32, 97, 32, 65] = [[32, 97, 94, 53], [32, 97, 32, 65]] := by decide
  have ha : sepL 61 [32, 97, 94, 53] = [[32, 97, 94, 53]] := by decide
  have hb : sepL 61 [32, 97, 32, 65] = [[32, 97, 32, 65]] := by decide
  refine (Parse_any t2 _ _ [97] (fun y => if y = [32, 97, 94, 53] then [97, 97, 97, 97, 97] else []) (fun _ => []) w ht op2 (by decide) (by decide) (by decide) (by decide) (fun x hx => ?_) (by decide)).mono ?_
  · rw [hs] at hx
    simp only [List.mem_cons, List.not_mem_nil, or_false] at hx
    rcases hx with rfl | rfl
    · refine ⟨?_, ?_, by rw [ha]; decide, ?_, by rw [ha]; decide⟩
      · rw [ha]; intro y hy; obtain rfl := List.mem_singleton.1 hy; exact .inl ex2a
      · rw [ha]; intro y hy; obtain rfl := List.mem_singleton.1 hy; decide
      · rw [ha]; intro a b hab; cases hab
    · refine ⟨?_, ?_, by rw [hb]; decide, ?_, by rw [hb]; decide⟩
      · rw [hb]; intro y hy; obtain rfl := List.mem_singleton.1 hy; exact .inl ex2b
      · rw [hb]; intro y hy; obtain rfl := List.mem_singleton.1 hy; decide
      · rw [hb]; intro a b hab; cases hab
  · rintro e w' (⟨h, _⟩ | ⟨_, x, hx, y, hy, hbd⟩)
    · rw [hs] at h
      exact h
    · rw [hs] at hx
      simp only [List.mem_cons, List.not_mem_nil, or_false] at hx
      rcases hx with rfl | rfl
      · rw [ha] at hy; obtain rfl := List.mem_singleton.1 hy; exact absurd hbd (by decide)
      · rw [hb] at hy; obtain rfl := List.mem_singleton.1 hy; exact absurd hbd (by decide)

theorem parse3 (w : World) (ht : Tabs w) : Calls Tryz.prog 15 #[.string ⟨t3.toArray⟩] w (ParsP w 0 [] 4) := by
  have hs : sepL 44 [32, 98] = [[32, 98]] := by decide
  have ha : sepL 61 [32, 98] = [[32, 98]] := by decide
  have hn : renF [97] [32, 98] = none := by decide
  refine (Parse_any t3 _ _ [97] (fun _ => []) (fun _ => []) w ht op3 (by decide) (by decide) (by decide) (by decide) (fun x hx => ?_) (by decide)).mono ?_
  · rw [hs] at hx
    obtain rfl := List.mem_singleton.1 hx
    refine ⟨?_, ?_, by rw [ha]; decide, ?_, by rw [ha]; decide⟩
    · rw [ha]; intro y hy; obtain rfl := List.mem_singleton.1 hy; exact .inr hn
    · rw [ha]; intro y hy; obtain rfl := List.mem_singleton.1 hy; decide
    · rw [ha]; intro a b hab; cases hab
  · rintro e w' (⟨_, h⟩ | ⟨h, _⟩)
    · have h1 := h _ (by rw [hs]; exact List.mem_singleton.2 rfl) _ (by rw [ha]; exact List.mem_singleton.2 rfl)
      obtain ⟨rn, _, _, _, _, h2, _⟩ := h1
      rw [hn] at h2; cases h2
    · exact h
end Go.Proofs.YteephomlnbbjeaaGreatDoor
