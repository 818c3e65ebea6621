/-
  Our own text, in the proofs of the laws of package rope. Proved here: kindOf, isBelow, isLeafWord and isNode return what a node's fields say. Conditions: the listed table lies as the program lays it; none other.
-/
import Derived.Test.YtgklmcinbaghmaaGreatDoorBase
namespace Go.Proofs.YtgklmcinbaghmaaGreatDoor
open Go Go.RowKit

/-- A node of a rope. -/
structure Nd where
  word : ByteArray
  l : Int
  r : Int
  t : Int
abbrev Nd.val (x : Nd) : Value := .agg #[.string x.word, .int .i64 x.l, .int .i64 x.r, .int .i64 x.t]

/-- What a node is: a leaf 0, a join 1, a power 2. -/
def kindI (x : Nd) : Int := if x.word.data.toList = [] then (if x.t = 0 then 1 else 2) else 0

theorem kindI_leaf {x : Nd} (h : x.word.data.toList ≠ []) : kindI x = 0 := by simp [kindI, h]
theorem kindI_pow {x : Nd} (h : x.word.data.toList = []) (ht : x.t ≠ 0) : kindI x = 2 := by simp [kindI, h, ht]
theorem kindI_join {x : Nd} (h : x.word.data.toList = []) (ht : x.t = 0) : kindI x = 1 := by simp [kindI, h, ht]

theorem emp_ba {s : ByteArray} (h : s.data.toList = []) : s = ⟨#[]⟩ := by
  cases s with | mk d => congr 1; exact Array.toList_inj.1 (by simpa using h)

set_option maxHeartbeats 400000 in
theorem kindOf_any (x : Nd) (w : World) :
    Calls Tryz.prog 60 #[x.val] w fun e w' => e = .returned (.int .i64 (kindI x)) ∧ Below w.heap.size w w' := by
  obtain ⟨s, l, r, t⟩ := x
  by_cases h1 : s.data.toList = []
  · obtain rfl := emp_ba h1
    by_cases h2 : t = 0
    · subst h2
      have HR := Lib.hid (kindI_join (x := ⟨⟨#[]⟩, l, r, 0⟩) rfl rfl)
      clear h1
      go_enter Tryz.func60, Tryz.ntmps60
      go_wp2
      go_ret
      exact ⟨by rw [HR.out]; rfl, (Below.refl _ _).alloc (Nat.le_refl _) _⟩
    · have HR := Lib.hid (kindI_pow (x := ⟨⟨#[]⟩, l, r, t⟩) rfl h2)
      have hd : (t == 0) = false := by simpa using h2
      have hd2 : (t != 0) = true := by rw [bne, hd]; rfl
      clear h1 h2
      go_enter Tryz.func60, Tryz.ntmps60
      go_wp2
      go_ret
      exact ⟨by rw [HR.out]; rfl, (Below.refl _ _).alloc (Nat.le_refl _) _⟩
  · have HR := Lib.hid (kindI_leaf (x := ⟨s, l, r, t⟩) h1)
    have he : s.toList.isEmpty = false := by rw [ByteArray.toList_eq]; simpa using h1
    have he2 : (!s.toList.isEmpty) = true := by rw [he]; rfl
    clear h1
    go_enter Tryz.func60, Tryz.ntmps60
    go_wp2
    go_ret
    exact ⟨by rw [HR.out]; rfl, (Below.refl _ _).alloc (Nat.le_refl _) _⟩

def belowB (o at_ : Int) : Bool := decide (0 ≤ o) && decide (o < at_)

set_option maxHeartbeats 400000 in
theorem isBelow_any (o at_ : Int) (w : World) :
    Calls Tryz.prog 78 #[.int .i64 o, .int .i64 at_] w fun e w' => e = .returned (.bool (belowB o at_)) ∧ w = w' := by
  by_cases h : 0 ≤ o
  · have HR : Hid (belowB o at_ = decide (o < at_)) := Lib.hid (by simp [belowB, h])
    go_enter Tryz.func78, Tryz.ntmps78
    go_wp2
    go_ret
    exact ⟨by rw [HR.out]; rfl, rfl⟩
  · have HR : Hid (belowB o at_ = false) := Lib.hid (by simp [belowB, h])
    go_enter Tryz.func78, Tryz.ntmps78
    go_wp2
    go_ret
    exact ⟨by rw [HR.out]; rfl, rfl⟩

def leafB (l : List UInt8) : Bool := decide (l.length ≤ 100) && l.all (letterB 8)

theorem checkI_leaf (l : List UInt8) (h : l.length ≤ 100) : (checkI 8 l == 0) = leafB l := by
  rw [checkI_8]
  unfold isW leafB
  have h2 : l.length ≤ 100000 := by omega
  simp [h, h2]

set_option maxHeartbeats 400000 in
theorem isLeafWord_any (s : ByteArray) (w : World) (ht : Tabs w) (hs : s.size ≤ maxLen) :
    Calls Tryz.prog 77 #[.string s] w fun e w' => e = .returned (.bool (leafB s.data.toList)) ∧ w = w' := by
  by_cases h : s.size ≤ 100
  · have hC := check_any 8 s w ht hs
    have h8 := checkI_leaf s.data.toList (by simpa using h)
    have H8 := Lib.hid h8
    have hd : decide ((s.size : Int) ≤ 100) = true := by simp; omega
    generalize checkI 8 s.data.toList = r at *
    clear h8 ht h
    unfold maxLen at hs
    go_enter Tryz.func77, Tryz.ntmps77
    go_wp2_with (go_at_call 40; refine hC.mono ?_; rintro e w' ⟨rfl, rfl⟩)
    go_ret
    exact ⟨by rw [← H8.out]; rfl, rfl⟩
  · have HR : Hid (leafB s.data.toList = false) := Lib.hid (by simp [leafB]; omega)
    have hd : decide ((s.size : Int) ≤ 100) = false := by simp; omega
    clear ht h
    unfold maxLen at hs
    go_enter Tryz.func77, Tryz.ntmps77
    go_wp2
    go_ret
    exact ⟨by rw [HR.out]; rfl, rfl⟩

/-- What isNode answers. -/
def nodeB (x : Nd) (at_ : Int) : Bool :=
  if x.word.data.toList = [] then (if x.t = 0 then belowB x.l at_ && belowB x.r at_ else decide (0 < x.t) && belowB x.l at_ && decide (x.r = 0))
  else leafB x.word.data.toList && decide (x.l = 0) && decide (x.r = 0) && decide (x.t = 0)

set_option maxHeartbeats 1000000 in
theorem isNode_any (x : Nd) (at_ : Int) (w : World) (ht : Tabs w) (hs : x.word.size ≤ maxLen) :
    Calls Tryz.prog 58 #[x.val, .int .i64 at_] w fun e w' => e = .returned (.bool (nodeB x at_)) ∧ Below w.heap.size w w' := by
  obtain ⟨s, l, r, t⟩ := x
  simp only at hs
  have hB0 : Below w.heap.size w (w.alloc (.cells #[.string s, .int .i64 l, .int .i64 r, .int .i64 t] 68)) := (Below.refl _ _).alloc (Nat.le_refl _) _
  have hblk : (w.alloc (.cells #[.string s, .int .i64 l, .int .i64 r, .int .i64 t] 68)).heap[w.heap.size]? = some (.cells #[.string s, .int .i64 l, .int .i64 r, .int .i64 t] 68 (0, 0)) := heap_alloc_new w _
  have hK := kindOf_any ⟨s, l, r, t⟩ (w.alloc (.cells #[.string s, .int .i64 l, .int .i64 r, .int .i64 t] 68))
  have HT := Lib.hid ht
  have HB0 := Lib.hid hB0
  have HBLK := Lib.hid hblk
  clear ht hB0 hblk
  have key : ∀ w1, Below (w.alloc (.cells #[.string s, .int .i64 l, .int .i64 r, .int .i64 t] 68)).heap.size (w.alloc (.cells #[.string s, .int .i64 l, .int .i64 r, .int .i64 t] 68)) w1 →
      w1.cell? ⟨w.heap.size, 0, none⟩ = some (.string s) ∧ w1.cell? ⟨w.heap.size, 1, none⟩ = some (.int .i64 l) ∧ w1.cell? ⟨w.heap.size, 2, none⟩ = some (.int .i64 r) ∧ w1.cell? ⟨w.heap.size, 3, none⟩ = some (.int .i64 t) ∧ Tabs w1 ∧ Below w.heap.size w w1 := by
    intro w1 hb
    have hlt : w.heap.size < (w.alloc (.cells #[.string s, .int .i64 l, .int .i64 r, .int .i64 t] 68)).heap.size := by simp
    have hb1 := (hb.block w.heap.size hlt).trans HBLK.out
    exact ⟨cell_of_row _ w.heap.size 0 _ 68 (0, 0) hb1, cell_of_row _ w.heap.size 1 _ 68 (0, 0) hb1, cell_of_row _ w.heap.size 2 _ 68 (0, 0) hb1, cell_of_row _ w.heap.size 3 _ 68 (0, 0) hb1,
      (HT.out.on HB0.out).on hb, HB0.out.trans (hb.mono HB0.out.size)⟩
  have KEY := Lib.hid key
  clear key
  by_cases h1 : s.data.toList = []
  · by_cases h2 : t = 0
    · rw [kindI_join h1 h2] at hK
      by_cases hb1 : belowB l at_ = true
      · have HR : Hid (nodeB ⟨s, l, r, t⟩ at_ = belowB r at_) := Lib.hid (by simp [nodeB, h1, h2, hb1])
        have HL := Lib.hid hb1
        clear h1 h2 hb1
        go_enter Tryz.func58, Tryz.ntmps58
        go_wp2_with fail
        refine hK.mono ?_; rintro e w1 ⟨rfl, hb⟩
        obtain ⟨c0, c1, c2, c3, t1, b1⟩ := KEY.out _ hb
        have hL := isBelow_any l at_ w1
        rw [HL.out] at hL
        have hR := isBelow_any r at_ w1
        have T1 := Lib.hid t1
        have B1 := Lib.hid b1
        generalize belowB r at_ = rr at *
        clear t1 b1 hb hK
        go_wp2_with fail
        refine hL.mono ?_; rintro e w' ⟨rfl, rfl⟩
        go_wp2_with fail
        refine hR.mono ?_; rintro e w' ⟨rfl, rfl⟩
        go_wp2
        go_ret
        exact ⟨by rw [HR.out]; rfl, B1.out⟩
      · have hb1' : belowB l at_ = false := by simpa using hb1
        have HR : Hid (nodeB ⟨s, l, r, t⟩ at_ = false) := Lib.hid (by simp [nodeB, h1, h2, hb1'])
        have HL := Lib.hid hb1'
        clear h1 h2 hb1 hb1'
        go_enter Tryz.func58, Tryz.ntmps58
        go_wp2_with fail
        refine hK.mono ?_; rintro e w1 ⟨rfl, hb⟩
        obtain ⟨c0, c1, c2, c3, t1, b1⟩ := KEY.out _ hb
        have hL := isBelow_any l at_ w1
        rw [HL.out] at hL
        have B1 := Lib.hid b1
        clear t1 b1 hb hK
        go_wp2_with fail
        refine hL.mono ?_; rintro e w' ⟨rfl, rfl⟩
        go_wp2
        go_ret
        exact ⟨by rw [HR.out]; rfl, B1.out⟩
    · rw [kindI_pow h1 h2] at hK
      by_cases hp : 0 < t
      · have hdp : decide (0 < t) = true := by simpa using hp
        by_cases hb1 : belowB l at_ = true
        · have HR : Hid (nodeB ⟨s, l, r, t⟩ at_ = (r == 0)) := Lib.hid (by simp [nodeB, h1, h2, hb1, hp]; rfl)
          have HL := Lib.hid hb1
          clear h1 h2 hb1
          go_enter Tryz.func58, Tryz.ntmps58
          go_wp2_with fail
          refine hK.mono ?_; rintro e w1 ⟨rfl, hb⟩
          obtain ⟨c0, c1, c2, c3, t1, b1⟩ := KEY.out _ hb
          have hL := isBelow_any l at_ w1
          rw [HL.out] at hL
          have B1 := Lib.hid b1
          clear t1 b1 hb hK
          go_wp2_with fail
          refine hL.mono ?_; rintro e w' ⟨rfl, rfl⟩
          go_wp2
          go_ret
          exact ⟨by rw [HR.out]; rfl, B1.out⟩
        · have hb1' : belowB l at_ = false := by simpa using hb1
          have HR : Hid (nodeB ⟨s, l, r, t⟩ at_ = false) := Lib.hid (by simp [nodeB, h1, h2, hb1'])
          have HL := Lib.hid hb1'
          clear h1 h2 hb1 hb1'
          go_enter Tryz.func58, Tryz.ntmps58
          go_wp2_with fail
          refine hK.mono ?_; rintro e w1 ⟨rfl, hb⟩
          obtain ⟨c0, c1, c2, c3, t1, b1⟩ := KEY.out _ hb
          have hL := isBelow_any l at_ w1
          rw [HL.out] at hL
          have B1 := Lib.hid b1
          clear t1 b1 hb hK
          go_wp2_with fail
          refine hL.mono ?_; rintro e w' ⟨rfl, rfl⟩
          go_wp2
          go_ret
          exact ⟨by rw [HR.out]; rfl, B1.out⟩
      · have hdp : decide (0 < t) = false := by simpa using hp
        have HR : Hid (nodeB ⟨s, l, r, t⟩ at_ = false) := Lib.hid (by simp [nodeB, h1, h2, hp])
        clear h1 h2
        go_enter Tryz.func58, Tryz.ntmps58
        go_wp2_with fail
        refine hK.mono ?_; rintro e w1 ⟨rfl, hb⟩
        obtain ⟨c0, c1, c2, c3, t1, b1⟩ := KEY.out _ hb
        have B1 := Lib.hid b1
        clear t1 b1 hb hK
        go_wp2
        go_ret
        exact ⟨by rw [HR.out]; rfl, B1.out⟩
  · rw [kindI_leaf h1] at hK
    have hN : nodeB ⟨s, l, r, t⟩ at_ = (leafB s.data.toList && (l == 0) && (r == 0) && (t == 0)) := by
      simp only [nodeB, if_neg h1]; rfl
    have hlf := fun w1 (h : Tabs w1) => isLeafWord_any s w1 h hs
    generalize leafB s.data.toList = lf at *
    have HN := Lib.hid hN
    have HLF := Lib.hid hlf
    clear hN h1 hlf
    go_enter Tryz.func58, Tryz.ntmps58
    go_wp2_with fail
    refine hK.mono ?_; rintro e w1 ⟨rfl, hb⟩
    obtain ⟨c0, c1, c2, c3, t1, b1⟩ := KEY.out _ hb
    have hL := HLF.out w1 t1
    have B1 := Lib.hid b1
    clear t1 b1 hb hK
    go_wp2_with fail
    refine hL.mono ?_; rintro e w' ⟨rfl, rfl⟩
    cases lf with
    | false =>
      go_wp2
      go_ret
      exact ⟨by rw [HN.out]; rfl, B1.out⟩
    | true =>
      cases hl0 : (l == 0) with
      | false =>
        rw [hl0] at HN
        go_wp2
        go_ret
        exact ⟨by rw [HN.out]; rfl, B1.out⟩
      | true =>
        rw [hl0] at HN
        cases hr0 : (r == 0) with
        | false =>
          rw [hr0] at HN
          go_wp2
          go_ret
          exact ⟨by rw [HN.out]; rfl, B1.out⟩
        | true =>
          rw [hr0] at HN
          go_wp2
          go_ret
          exact ⟨by rw [HN.out]; rfl, B1.out⟩
end Go.Proofs.YtgklmcinbaghmaaGreatDoor
