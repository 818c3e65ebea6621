/-
  Our own text, in the proofs of the laws of package pres (cayleylaw03). Proved here: readRelations of the reader of package pres, also where it panics; readNames of package pres. Conditions: the arguments lie in memory as the slices say; bounds; the listed tables lie as the program lays them.
-/
import Derived.Test.YteephomlnbbjeaaGreatDoorJw
set_option linter.unusedVariables false
set_option linter.unusedSimpArgs false
set_option linter.unusedSectionVars false
namespace Go.Proofs.YteephomlnbbjeaaGreatDoor
open Go Go.RowKit Go.Shelf
attribute [local go_sem] Oper.semAt_some

theorem sepGo_ne (sep : UInt8) : ∀ (l cur : List UInt8) (d : Int), sepGo sep l cur d ≠ []
  | [], cur, d => by simp [sepGo]
  | b :: t, cur, d => by
    unfold sepGo
    split
    · exact sepGo_ne sep t _ _
    · split
      · exact sepGo_ne sep t _ _
      · split
        · simp
        · exact sepGo_ne sep t _ _
theorem sepL_ne (sep : UInt8) (l : List UInt8) : sepL sep l ≠ [] := sepGo_ne sep l [] 0

/-- What is asked of a relation's text. -/
structure PartOK (names : List UInt8) (V : List UInt8 → List UInt8) (Q : List UInt8 → List UInt8) (x : List UInt8) : Prop where
  v : ∀ y ∈ sepL 61 x, ExprIs names y (V y) ∨ renF names y = none
  v2 : ∀ y ∈ sepL 61 x, (V y).length ≤ 100000
  two : (sepL 61 x).length ≤ 2
  q : ∀ a b, sepL 61 x = [a, b] → ∀ X, Tabs X → Calls Tryz.prog 149 #[.string ⟨(V a).toArray⟩, .string ⟨(V b).toArray⟩] X fun e w' => e = .returned (.string ⟨(Q x).toArray⟩) ∧ Below X.heap.size X w'
  r : (relV V (Q x) (sepL 61 x)).length ≤ 200
def relR (V Q : List UInt8 → List UInt8) (x : List UInt8) : List UInt8 := relV V (Q x) (sepL 61 x)
def relsF (l : List (List UInt8)) : List (List UInt8) := l.filter (fun r => decide (r ≠ []))
theorem relsF_snoc (l : List (List UInt8)) (r : List UInt8) : relsF (l ++ [r]) = if r = [] then relsF l else relsF l ++ [r] := by
  unfold relsF
  rw [List.filter_append]
  by_cases h : r = []
  · simp [h]
  · simp [h]

theorem cells_at {W : World} {b i : Nat} {v : Value} (h : W.cell? ⟨b, i, none⟩ = some v) : ∀ o, W.heap[b]? = some o → o.isCells = true := by
  intro o ho
  unfold World.cell? at h
  simp only [ho] at h
  cases o <;> simp_all [Obj.isCells]
theorem row_cells {W : World} {B e s n cap : Nat} {A : Option Addr} {xs : List Value} (h : W.ownsRow B e s (.slice A n cap) n xs) {g : Nat} (hg : blk A = some g) : ∀ o, W.heap[g]? = some o → o.isCells = true := by
  rcases h.2 with ⟨h1, _⟩ | ⟨g', cap', cur, h1, _, hh, _⟩
  · cases h1; cases hg
  · cases h1
    have : g' = g := by simpa [blk] using hg
    subst this
    intro o ho
    rw [hh] at ho; cases ho; rfl
theorem RdAt.grown {W W' : World} {B : Nat} {names : List UInt8} {A : Option Addr} {cap : Nat} {rs : List (List UInt8)} {row : Option Nat} (h : RdAt W B names A cap rs) (hg : W.grownBy W' row) (h1 : row ≠ some B) (h2 : ∀ g, blk A = some g → row ≠ some g) : RdAt W' B names A cap rs := by
  have hb : W'.heap[B]? = W.heap[B]? := hg.block B h.lt (fun e => h1 e.symm)
  refine ⟨(cell_blk hb 0).trans h.c0, (cell_blk hb 1).trans h.c1, (cell_blk hb 2).trans h.c2, (frozen_blk hb 1).trans h.f1, (frozen_blk hb 2).trans h.f2, h.row.kept hg ?_⟩
  rw [ownBlock_slice]
  cases hA : blk A with
  | none => exact .inl rfl
  | some g => exact .inr (fun e => h2 g hA e.symm)
theorem Gr2.keeps {w w' : World} {B : Nat} {names : List UInt8} {A : Option Addr} {cap : Nat} {rs : List (List UInt8)} (g : Gr2 B (blk A) w w') (h : RdAt w B names A cap rs) : KeepsOthers w w' :=
  ⟨g.size, fun k o hk ho => by
    refine (g.block k (Array.getElem?_eq_some_iff.1 hk).1 (fun e => ?_) (fun e => ?_)).trans hk
    · subst e; rw [cells_at h.c0 o hk] at ho; cases ho
    · rw [row_cells h.row e.symm o hk] at ho; cases ho⟩

/-- What the rounds of the relations keep: n0: where the heap ended when the loop began; S, C: the boxes of the reader's address and of the count. -/
structure RrI (names : List UInt8) (V Q : List UInt8 → List UInt8) (w : World) (B S C n0 : Nat) (pre : List (List UInt8)) (W : World) : Prop where
  rd : ∃ A cap, RdAt W B names A cap (relsF (pre.map (relR V Q))) ∧ ∀ g, blk A = some g → n0 ≤ g
  bs : Boxed W S 147 (.pointer (some ⟨B, 0, none⟩))
  bc : Boxed W C 3 (.int .i64 pre.length)
  below : Below B w W
  size : n0 ≤ W.heap.size
  ok : ∀ x ∈ pre, ∀ y ∈ sepL 61 x, ExprIs names y (V y)
theorem RrI.own (names : List UInt8) (V Q : List UInt8 → List UInt8) (w : World) (B S C n0 B' : Nat) (hB : B ≤ B') : OwnFrom B' (RrI names V Q w B S C n0) := by
  rintro s X Y row ⟨⟨A, cap, hrd, hA⟩, h2, h3, h4, h5, h6⟩ hg hrow
  refine ⟨⟨A, cap, hrd.grown hg (fun e => ?_) (fun g hgA e => ?_), hA⟩, h2.kept hg (fun e => ?_), h3.kept hg (fun e => ?_), h4.grown hg ?_ (fun k e => Nat.le_trans hB (hrow k e).1), Nat.le_trans h5 hg.size, h6⟩
  · obtain ⟨_, o, ho, hc⟩ := hrow B e
    rw [cells_at hrd.c0 o ho] at hc; cases hc
  · obtain ⟨_, o, ho, hc⟩ := hrow g e
    rw [row_cells hrd.row hgA o ho] at hc; cases hc
  · obtain ⟨_, o, ho, hc⟩ := hrow S e.symm
    rw [show X.heap[S]? = _ from h2] at ho; cases ho; cases hc
  · obtain ⟨_, o, ho, hc⟩ := hrow C e.symm
    rw [show X.heap[C]? = _ from h3] at ho; cases ho; cases hc
  · exact Nat.le_of_lt hrd.lt
/-- .. and where one of them panics. -/
def RrP (names l : List UInt8) (w : World) (B : Nat) (chain : List PanicEntry) (W : World) : Prop := chain = leaves 4 ∧ (∃ x ∈ sepL 44 l, ∃ y ∈ sepL 61 x, renF names y = none) ∧ Below B w W ∧ B ≤ W.heap.size

def RrPost (names l : List UInt8) (V Q : List UInt8 → List UInt8) (w : World) (B : Nat) (e : Ending) (w' : World) : Prop :=
  Below B w w' ∧ ((e = .returned (.tuple #[]) ∧ (∃ A cap, RdAt w' B names A cap (relsF ((sepL 44 l).map (relR V Q)))) ∧ ∀ x ∈ sepL 44 l, ∀ y ∈ sepL 61 x, ExprIs names y (V y)) ∨
    (e = .panicked (leaves 4) ∧ ∃ x ∈ sepL 44 l, ∃ y ∈ sepL 61 x, renF names y = none))

set_option maxHeartbeats 8000000 in
set_option maxRecDepth 100000 in
theorem readRelations_in (B : Nat) (names l : List UInt8) (V Q : List UInt8 → List UInt8) (w : World) (ht : Tabs w) (hn0 : 1 ≤ names.length) (hn : names.length ≤ 8) (hl : l.length ≤ 100000) (hr : RdAt w B names none 0 []) (hB3 : 3 < B) (htr : Lib.trimB l 32 ≠ [])
    (hP : ∀ x ∈ sepL 44 l, PartOK names V Q x) (hmany : (sepL 44 l).length ≤ 60) :
    CallsIn Fence.wide 6 Tryz.prog 59 #[.pointer (some ⟨B, 0, none⟩), .string ⟨l.toArray⟩] w (RrPost names l V Q w B) := by
  have HT := Lib.hid ht
  have HR := Lib.hid hr
  have HP := Lib.hid hP
  have HM := Lib.hid hmany
  have HLL := Lib.hid (sepL_len 44 l)
  have HN := Lib.hid (And.intro hn0 (And.intro hn (And.intro hl hB3)))
  have HTR := Lib.hid (fun X => trim_any l X (by omega))
  have hBl := hr.lt
  have htr2 : (Lib.trimB l 32).isEmpty = false := by simpa using htr
  clear ht hr hP hmany hn0 hn htr hl hB3
  refine callsIn_of_on Tryz.func59 rfl ?_
  simp only [Tryz.ntmps59, List.size_toArray, List.length_cons, List.length_nil, Nat.reduceAdd, Nat.reduceSub, Array.replicate_succ, Array.replicate_zero, List.push_toArray, List.append_toArray, List.nil_append, List.cons_append]
  refine On.seq (On.of ?_)
  gi_wp2_with fail
  refine On.seq (On.of ?_)
  gi_wp2_with fail
  refine ⟨trivial, ?_⟩
  gi_at_call 104
  refine (callsIn_wide.2 (HTR.out _)).mono ?_
  rintro e1 w1 ⟨rfl, m, rfl⟩
  gi_wp2_with fail
  refine On.seq (On.of ?_)
  gi_wp2_with fail
  refine On.seq (On.seq (On.of ?_))
  gi_wp2_with fail
  refine ⟨trivial, ?_⟩
  gi_at_call 108
  refine (callsIn_wide.2 (separated_any ⟨l.toArray⟩ 44 _)).mono ?_
  rintro e1 w1 ⟨rfl, rfl⟩
  gi_wp2_with fail
  refine On.block ?_
  obtain ⟨W0, hW0⟩ : ∃ X, X = (((((w.alloc (.cells #[.pointer (some ⟨B, 0, none⟩)] 147)).drewN m).alloc (.cells #[.int .i64 0] 3)).alloc (.cells #[.string ⟨l.toArray⟩] 9)).alloc (.cells #[.int .u8 44] 5)) := ⟨_, rfl⟩
  rw [← hW0]
  have hs0 : W0.heap.size = w.heap.size + 4 := by rw [hW0]; simp
  have hd1 : ((w.alloc (.cells #[.pointer (some ⟨B, 0, none⟩)] 147)).drewN m).heap.size = w.heap.size + 1 := by show (w.alloc (.cells #[.pointer (some ⟨B, 0, none⟩)] 147)).heap.size = _; simp
  have hbx0 : Boxed W0 w.heap.size 147 (.pointer (some ⟨B, 0, none⟩)) := by
    rw [hW0]
    have h : Boxed ((w.alloc (.cells #[.pointer (some ⟨B, 0, none⟩)] 147)).drewN m) w.heap.size 147 (.pointer (some ⟨B, 0, none⟩)) := Boxed.new w 147 _
    exact ((h.alloc _).alloc _).alloc _
  have hbs0 : Boxed W0 (w.heap.size + 1) 3 (.int .i64 0) := by
    rw [hW0]
    have h := Boxed.new ((w.alloc (.cells #[.pointer (some ⟨B, 0, none⟩)] 147)).drewN m) 3 (.int .i64 0)
    rw [hd1] at h
    exact (h.alloc _).alloc _
  have k1 : W0.cell? ⟨w.heap.size + 1 + 1, 0, none⟩ = some (.string ⟨l.toArray⟩) := by
    rw [hW0]
    have h := Boxed.new (((w.alloc (.cells #[.pointer (some ⟨B, 0, none⟩)] 147)).drewN m).alloc (.cells #[.int .i64 0] 3)) 9 (.string ⟨l.toArray⟩)
    rw [World.size_alloc, hd1] at h
    exact (h.alloc _).cell
  have k2 : W0.cell? ⟨w.heap.size + 1 + 1 + 1, 0, none⟩ = some (.int .u8 (44 : UInt8).toNat) := by
    rw [hW0]
    have h := Boxed.new ((((w.alloc (.cells #[.pointer (some ⟨B, 0, none⟩)] 147)).drewN m).alloc (.cells #[.int .i64 0] 3)).alloc (.cells #[.string ⟨l.toArray⟩] 9)) 5 (.int .u8 44)
    rw [World.size_alloc, World.size_alloc, hd1] at h
    exact h.cell
  have hb0 : Below w.heap.size w W0 := by
    rw [hW0]
    exact (((((Below.refl _ w).alloc (Nat.le_refl _) _).drewN m).alloc (by rw [hd1]; omega) _).alloc (by rw [World.size_alloc, hd1]; omega) _).alloc (by rw [World.size_alloc, World.size_alloc, hd1]; omega) _
  have HS0 := Lib.hid hs0
  have HI0 : Hid (RrI names V Q w B w.heap.size (w.heap.size + 1) (w.heap.size + 4) [] W0) := Lib.hid ⟨⟨none, 0, HR.out.on hb0, fun g hg => by cases hg⟩, hbx0, hbs0, hb0.mono (by omega), by omega, fun x hx => by cases hx⟩
  clear hW0 hbx0 hbs0 hb0 hd1
  have hl5 : l.length ≤ 1000000 := by have := HN.out.2.2.1; omega
  refine On.range_panics (P := Tryz.prog) Tryz.func59 (gf := 146) (lb := #[.pointer (some ⟨w.heap.size + 1 + 1, 0, none⟩), .pointer (some ⟨w.heap.size + 1 + 1 + 1, 0, none⟩)]) rfl (enters_of Tryz.func146 (by kernel_rfl) rfl)
    (sep_seq 5 (by decide) ⟨l.toArray⟩ (by rw [size_mk]; exact hl5) 44 (w.heap.size + 1 + 1) W0 k1 k2 (by omega))
    (fun h k => h.trans k) (fun W l o o' hl _ _ _ => KpB.putObj W l o o' (by omega)) (Below.refl _ _) (fun _ => rfl)
    (RrI names V Q w B w.heap.size (w.heap.size + 1) (w.heap.size + 4)) (RrP names l w B) (RrI.own names V Q w B _ _ _ _ (by omega)) HI0.out
    (fun x => { tmps := #[.pointer (some ⟨B, 0, none⟩), .string ⟨l.toArray⟩, .pointer (some ⟨w.heap.size, 0, none⟩), undef, .pointer (some ⟨w.heap.size + 1, 0, none⟩), .string ⟨x.toArray⟩, .string ⟨l.toArray⟩, .string ⟨(Lib.trimB l 32).toArray⟩, .bool false, .string ⟨l.toArray⟩, .func (.func 146) #[] #[.pointer (some ⟨w.heap.size + 1 + 1, 0, none⟩), .pointer (some ⟨w.heap.size + 1 + 1 + 1, 0, none⟩)], .string ⟨x.toArray⟩, undef, undef, undef, undef, undef, undef, undef, undef, undef, undef, undef], defers := [] })
    ?hassign ?hbody ?hdone ?hpanic
  case hassign =>
    intro l' x W K hK
    have HK := Lib.hid hK
    clear hK
    unfold strA
    gi_wp2
    exact HK.out
  case hbody =>
    rintro l' pre x post W hx ⟨⟨A, cap, hrd, hA⟩, hbs, hbc, hb, hsz, hok⟩
    have hxm : x ∈ sepL 44 l := by rw [hx]; simp
    have hpl : pre.length < 60 := by have h := HM.out; rw [hx] at h; simp at h; omega
    have hxl := HLL.out x hxm
    have hPx := HP.out x hxm
    have c1 := hbc.cell
    have f1 := hbc.frozen
    have hbB := hrd.lt
    have hgr := grownBy_setCell' W (w.heap.size + 1) (.int .i64 ((pre.length : Int) + 1))
    have hrdc : RdAt (W.setCell ⟨w.heap.size + 1, 0, none⟩ (.int .i64 ((pre.length : Int) + 1))) B names A cap (relsF (pre.map (relR V Q))) := hrd.grown hgr (fun e => by cases e; omega) (fun g hg e => by cases e; have := hA _ hg; omega)
    have hbsc : Boxed (W.setCell ⟨w.heap.size + 1, 0, none⟩ (.int .i64 ((pre.length : Int) + 1))) w.heap.size 147 (.pointer (some ⟨B, 0, none⟩)) := hbs.other (by omega) _
    have hbcc : Boxed (W.setCell ⟨w.heap.size + 1, 0, none⟩ (.int .i64 ((pre.length : Int) + 1))) (w.heap.size + 1) 3 (.int .i64 ((pre.length : Int) + 1)) := hbc.set _
    have hbl : Below B w (W.setCell ⟨w.heap.size + 1, 0, none⟩ (.int .i64 ((pre.length : Int) + 1))) := hb.setCell (p := ⟨w.heap.size + 1, 0, none⟩) (by simp; omega) _
    have hsc : (W.setCell ⟨w.heap.size + 1, 0, none⟩ (.int .i64 ((pre.length : Int) + 1))).heap.size = W.heap.size := by simp [World.setCell]
    have hko : KeepsOthers W (W.setCell ⟨w.heap.size + 1, 0, none⟩ (.int .i64 ((pre.length : Int) + 1))) := KeepsOthers.setCell _ _ _
    have hkp : ∀ k, k < W.heap.size → k ≠ w.heap.size + 1 → (W.setCell ⟨w.heap.size + 1, 0, none⟩ (.int .i64 ((pre.length : Int) + 1))).heap[k]? = W.heap[k]? := fun k _ hk => Below.heap_setCell W ⟨w.heap.size + 1, 0, none⟩ _ k (by simpa using hk)
    have hwrap : IntKind.i64.wrap ((pre.length : Int) + 1) = (pre.length : Int) + 1 := IntWalk.i64_in _ (by omega)
    have HOK := Lib.hid hok
    have HA := Lib.hid hA
    have HSZ := Lib.hid hsz
    clear hbs hbc hrd hb hok hA hgr
    gi_wp2_with fail
    generalize hWc : W.setCell ⟨w.heap.size + 1, 0, none⟩ (.int .i64 ((pre.length : Int) + 1)) = Wc at *
    clear hWc
    have hTc : Tabs Wc.drew := (HT.out.below HN.out.2.2.2 hbl.drew)
    have c2 : Wc.cell? ⟨w.heap.size, 0, none⟩ = some (.pointer (some ⟨B, 0, none⟩)) := hbsc.cell
    have HREL := Lib.hid (callsIn_wide.1 (relation_in B names x V (Q x) Wc.drew hTc HN.out.1 HN.out.2.1 (by have := HN.out.2.2.1; omega) hrdc.c0 hrdc.c2 hrdc.f2 hPx.v hPx.v2 (sepL_ne 61 x) hPx.two (fun a b hab X hX => hPx.q a b hab X (hTc.on hX))))
    have HRD := Lib.hid hrdc
    have HBSC := Lib.hid hbsc
    have HBCC := Lib.hid hbcc
    have HBL := Lib.hid hbl
    have HCR : Hid (∀ wR, Below Wc.drew.heap.size Wc.drew wR → wR.cell? ⟨w.heap.size, 0, none⟩ = some (.pointer (some ⟨B, 0, none⟩))) := Lib.hid (fun wR hbR => (hbR.cell (p := ⟨w.heap.size, 0, none⟩) (lt_of_cell c2)).trans c2)
    have HADD : Hid (∀ wR, Below Wc.drew.heap.size Wc.drew wR → Calls Tryz.prog 111 #[.pointer (some ⟨B, 0, none⟩), .string ⟨(relV V (Q x) (sepL 61 x)).toArray⟩] wR (fun e w' => e = .returned (.tuple #[]) ∧ AddP wR B names A (if relV V (Q x) (sepL 61 x) = [] then relsF (pre.map (relR V Q)) else relsF (pre.map (relR V Q)) ++ [relV V (Q x) (sepL 61 x)]) w')) := Lib.hid (fun wR hbR =>
      add_any B names A cap (relsF (pre.map (relR V Q))) _ wR (HRD.out.on (((Below.refl _ Wc).drew).trans hbR)) hPx.r (by
        have h1 : (relsF (pre.map (relR V Q))).length ≤ pre.length := by unfold relsF; exact Nat.le_trans (List.length_filter_le _ _) (by simp)
        omega))
    have HBD : Hid (∀ wR, Below Wc.drew.heap.size Wc.drew wR → (∃ y ∈ sepL 61 x, renF names y = none) → (KeepsOthers W wR ∧ RrP names l w B (leaves 4) wR)) := Lib.hid (fun wR hbR hbad => by
      have h1 : Below Wc.heap.size Wc wR := ((Below.refl _ Wc).drew).trans hbR
      exact ⟨hko.trans (keeps_below h1), rfl, ⟨x, hxm, hbad⟩, HBL.out.trans (h1.mono (by omega)), by have := h1.size; omega⟩)
    have HFIN : Hid (∀ wR wA, Below Wc.drew.heap.size Wc.drew wR → (∀ y ∈ sepL 61 x, ExprIs names y (V y)) → AddP wR B names A (if relV V (Q x) (sepL 61 x) = [] then relsF (pre.map (relR V Q)) else relsF (pre.map (relR V Q)) ++ [relV V (Q x) (sepL 61 x)]) wA →
        (KeepsOthers W wA ∧ KpB (w.heap.size + 1 + 1) W wA ∧ RrI names V Q w B w.heap.size (w.heap.size + 1) (w.heap.size + 4) (pre ++ [x]) wA)) := Lib.hid (fun wR wA hbR hokx hadd => by
      have h1 : Below Wc.heap.size Wc wR := ((Below.refl _ Wc).drew).trans hbR
      have hrR := HRD.out.on h1
      obtain ⟨A', cap', hrA, hmv, hg2⟩ := hadd
      have hs1 := h1.size
      have hsz := HSZ.out
      have hge : ∀ k, k < w.heap.size + 4 → k ≠ B → k < wR.heap.size ∧ wA.heap[k]? = wR.heap[k]? := fun k hk hkB => ⟨by omega, hg2.block k (by omega) hkB (fun e => by have := HA.out k e.symm; omega)⟩
      have hold : ∀ k, k < w.heap.size + 4 → k ≠ B → wA.heap[k]? = Wc.heap[k]? := fun k hk hkB => (hge k hk hkB).2.trans (h1.block k (by omega))
      refine ⟨(hko.trans (keeps_below h1)).trans (hg2.keeps hrR), ⟨?_, ?_⟩, ⟨⟨A', cap', ?_, ?_⟩, ?_, ?_, ?_, ?_, ?_⟩⟩
      · exact (cell_blk (hold _ (by omega) (by omega)) 0).trans (cell_blk (hkp _ (by omega) (by omega)) 0)
      · exact (cell_blk (hold _ (by omega) (by omega)) 0).trans (cell_blk (hkp _ (by omega) (by omega)) 0)
      · rw [List.map_append, List.map_cons, List.map_nil, relsF_snoc]; exact hrA
      · intro g hg
        rcases hmv with h | h
        · exact HA.out g (h ▸ hg)
        · have := h g hg; omega
      · exact (hold _ (by omega) (by omega)).trans HBSC.out
      · have h := (hold (w.heap.size + 1) (by omega) (by omega)).trans HBCC.out
        rw [List.length_append, List.length_singleton]
        exact h
      · exact ((HBL.out.trans (h1.mono (by omega))).trans ⟨hg2.os, hg2.tape, hg2.output, hg2.size, fun k hk => hg2.block k (by omega) (by omega) (fun e => by have := HA.out k e.symm; omega)⟩)
      · have := hg2.size; omega
      · intro y hy
        rcases List.mem_append.1 hy with h | h
        · exact HOK.out y h
        · simp at h; subst h; exact hokx)
    clear hrdc hbsc hbcc hbl hko hkp hTc hPx
    refine wpIn_region_any (by kernel_rfl) ?_
    change wpAnyIn _ _ _ _ _ _ _ _ _ Wc.drew
    refine wpAnyIn_ready (rs := [0, 1, 2]) (by kernel_rfl) (by simp) ?_
    refine AllReadyIn.cons rfl (fun K hK => ?_) (AllReadyIn.cons rfl (fun K hK => ?_) (AllReadyIn.cons rfl (fun K hK => ?_) (AllReadyIn.nil)))
    · go_simp
      refine hK _ _ ?_
      clear hK K
      refine wpAnyIn_ready (rs := [1, 2]) (by kernel_rfl) (by simp) ?_
      refine AllReadyIn.cons rfl (fun K hK => ?_) (AllReadyIn.cons rfl (fun K hK => ?_) (AllReadyIn.nil))
      · go_simp
        refine hK _ _ ?_
        clear hK K
        refine wpAnyIn_ready (rs := [2]) (by kernel_rfl) (by simp) ?_
        refine AllReadyIn.cons rfl (fun K hK => ?_) (AllReadyIn.nil)
        · go_simp
          refine hK _ _ ?_
          clear hK K
          refine wpAnyIn_ready (rs := [3]) (by kernel_rfl) (by simp) ?_
          refine AllReadyIn.cons rfl (fun K hK => ?_) (AllReadyIn.nil)
          · go_simp
            gi_wp2_with fail
            refine ⟨trivial, ?_⟩
            gi_at_call 112
            refine (callsIn_wide.2 HREL.out).mono ?_
            rintro e wR ⟨hbR, hcase⟩
            rcases hcase.symm with ⟨rfl, hbad⟩ | ⟨rfl, hokx⟩
            · exact ⟨rfl, HBD.out wR hbR hbad⟩
            have c2R := HCR.out wR hbR
            have HBR := Lib.hid hbR
            have HOKX := Lib.hid hokx
            clear hbR hokx
            refine hK _ _ ?_
            clear hK K
            refine wpAnyIn_ready (rs := [4]) (by kernel_rfl) (by simp) ?_
            refine AllReadyIn.cons rfl (fun K hK => ?_) (AllReadyIn.nil)
            · go_simp
              gi_wp2_with fail
              refine ⟨trivial, ?_⟩
              gi_at_call 111
              refine (callsIn_wide.2 (HADD.out wR HBR.out)).mono ?_
              rintro e wA ⟨rfl, hadd⟩
              have HZ := Lib.hid (HFIN.out wR wA HBR.out HOKX.out hadd)
              clear hadd
              refine hK _ _ ?_
              clear hK K
              refine wpAnyIn_done (by kernel_rfl) ?_ _
              exact HZ.out
      · go_simp
        refine hK _ _ ?_
        clear hK K
        refine wpAnyIn_ready (rs := [1]) (by kernel_rfl) (by simp) ?_
        refine AllReadyIn.cons rfl (fun K hK => ?_) (AllReadyIn.nil)
        · go_simp
          refine hK _ _ ?_
          clear hK K
          refine wpAnyIn_ready (rs := [3]) (by kernel_rfl) (by simp) ?_
          refine AllReadyIn.cons rfl (fun K hK => ?_) (AllReadyIn.nil)
          · go_simp
            gi_wp2_with fail
            refine ⟨trivial, ?_⟩
            gi_at_call 112
            refine (callsIn_wide.2 HREL.out).mono ?_
            rintro e wR ⟨hbR, hcase⟩
            rcases hcase.symm with ⟨rfl, hbad⟩ | ⟨rfl, hokx⟩
            · exact ⟨rfl, HBD.out wR hbR hbad⟩
            have c2R := HCR.out wR hbR
            have HBR := Lib.hid hbR
            have HOKX := Lib.hid hokx
            clear hbR hokx
            refine hK _ _ ?_
            clear hK K
            refine wpAnyIn_ready (rs := [4]) (by kernel_rfl) (by simp) ?_
            refine AllReadyIn.cons rfl (fun K hK => ?_) (AllReadyIn.nil)
            · go_simp
              gi_wp2_with fail
              refine ⟨trivial, ?_⟩
              gi_at_call 111
              refine (callsIn_wide.2 (HADD.out wR HBR.out)).mono ?_
              rintro e wA ⟨rfl, hadd⟩
              have HZ := Lib.hid (HFIN.out wR wA HBR.out HOKX.out hadd)
              clear hadd
              refine hK _ _ ?_
              clear hK K
              refine wpAnyIn_done (by kernel_rfl) ?_ _
              exact HZ.out
    · go_simp
      refine hK _ _ ?_
      clear hK K
      refine wpAnyIn_ready (rs := [0, 2]) (by kernel_rfl) (by simp) ?_
      refine AllReadyIn.cons rfl (fun K hK => ?_) (AllReadyIn.cons rfl (fun K hK => ?_) (AllReadyIn.nil))
      · go_simp
        refine hK _ _ ?_
        clear hK K
        refine wpAnyIn_ready (rs := [2]) (by kernel_rfl) (by simp) ?_
        refine AllReadyIn.cons rfl (fun K hK => ?_) (AllReadyIn.nil)
        · go_simp
          refine hK _ _ ?_
          clear hK K
          refine wpAnyIn_ready (rs := [3]) (by kernel_rfl) (by simp) ?_
          refine AllReadyIn.cons rfl (fun K hK => ?_) (AllReadyIn.nil)
          · go_simp
            gi_wp2_with fail
            refine ⟨trivial, ?_⟩
            gi_at_call 112
            refine (callsIn_wide.2 HREL.out).mono ?_
            rintro e wR ⟨hbR, hcase⟩
            rcases hcase.symm with ⟨rfl, hbad⟩ | ⟨rfl, hokx⟩
            · exact ⟨rfl, HBD.out wR hbR hbad⟩
            have c2R := HCR.out wR hbR
            have HBR := Lib.hid hbR
            have HOKX := Lib.hid hokx
            clear hbR hokx
            refine hK _ _ ?_
            clear hK K
            refine wpAnyIn_ready (rs := [4]) (by kernel_rfl) (by simp) ?_
            refine AllReadyIn.cons rfl (fun K hK => ?_) (AllReadyIn.nil)
            · go_simp
              gi_wp2_with fail
              refine ⟨trivial, ?_⟩
              gi_at_call 111
              refine (callsIn_wide.2 (HADD.out wR HBR.out)).mono ?_
              rintro e wA ⟨rfl, hadd⟩
              have HZ := Lib.hid (HFIN.out wR wA HBR.out HOKX.out hadd)
              clear hadd
              refine hK _ _ ?_
              clear hK K
              refine wpAnyIn_done (by kernel_rfl) ?_ _
              exact HZ.out
      · go_simp
        refine hK _ _ ?_
        clear hK K
        refine wpAnyIn_ready (rs := [0, 3]) (by kernel_rfl) (by simp) ?_
        refine AllReadyIn.cons rfl (fun K hK => ?_) (AllReadyIn.cons rfl (fun K hK => ?_) (AllReadyIn.nil))
        · go_simp
          refine hK _ _ ?_
          clear hK K
          refine wpAnyIn_ready (rs := [3]) (by kernel_rfl) (by simp) ?_
          refine AllReadyIn.cons rfl (fun K hK => ?_) (AllReadyIn.nil)
          · go_simp
            gi_wp2_with fail
            refine ⟨trivial, ?_⟩
            gi_at_call 112
            refine (callsIn_wide.2 HREL.out).mono ?_
            rintro e wR ⟨hbR, hcase⟩
            rcases hcase.symm with ⟨rfl, hbad⟩ | ⟨rfl, hokx⟩
            · exact ⟨rfl, HBD.out wR hbR hbad⟩
            have c2R := HCR.out wR hbR
            have HBR := Lib.hid hbR
            have HOKX := Lib.hid hokx
            clear hbR hokx
            refine hK _ _ ?_
            clear hK K
            refine wpAnyIn_ready (rs := [4]) (by kernel_rfl) (by simp) ?_
            refine AllReadyIn.cons rfl (fun K hK => ?_) (AllReadyIn.nil)
            · go_simp
              gi_wp2_with fail
              refine ⟨trivial, ?_⟩
              gi_at_call 111
              refine (callsIn_wide.2 (HADD.out wR HBR.out)).mono ?_
              rintro e wA ⟨rfl, hadd⟩
              have HZ := Lib.hid (HFIN.out wR wA HBR.out HOKX.out hadd)
              clear hadd
              refine hK _ _ ?_
              clear hK K
              refine wpAnyIn_done (by kernel_rfl) ?_ _
              exact HZ.out
        · go_simp
          gi_wp2_with fail
          refine ⟨trivial, ?_⟩
          gi_at_call 112
          refine (callsIn_wide.2 HREL.out).mono ?_
          rintro e wR ⟨hbR, hcase⟩
          rcases hcase.symm with ⟨rfl, hbad⟩ | ⟨rfl, hokx⟩
          · exact ⟨rfl, HBD.out wR hbR hbad⟩
          have c2R := HCR.out wR hbR
          have HBR := Lib.hid hbR
          have HOKX := Lib.hid hokx
          clear hbR hokx
          refine hK _ _ ?_
          clear hK K
          refine wpAnyIn_ready (rs := [0]) (by kernel_rfl) (by simp) ?_
          refine AllReadyIn.cons rfl (fun K hK => ?_) (AllReadyIn.nil)
          · go_simp
            refine hK _ _ ?_
            clear hK K
            refine wpAnyIn_ready (rs := [4]) (by kernel_rfl) (by simp) ?_
            refine AllReadyIn.cons rfl (fun K hK => ?_) (AllReadyIn.nil)
            · go_simp
              gi_wp2_with fail
              refine ⟨trivial, ?_⟩
              gi_at_call 111
              refine (callsIn_wide.2 (HADD.out wR HBR.out)).mono ?_
              rintro e wA ⟨rfl, hadd⟩
              have HZ := Lib.hid (HFIN.out wR wA HBR.out HOKX.out hadd)
              clear hadd
              refine hK _ _ ?_
              clear hK K
              refine wpAnyIn_done (by kernel_rfl) ?_ _
              exact HZ.out
    · go_simp
      refine hK _ _ ?_
      clear hK K
      refine wpAnyIn_ready (rs := [0, 1]) (by kernel_rfl) (by simp) ?_
      refine AllReadyIn.cons rfl (fun K hK => ?_) (AllReadyIn.cons rfl (fun K hK => ?_) (AllReadyIn.nil))
      · go_simp
        refine hK _ _ ?_
        clear hK K
        refine wpAnyIn_ready (rs := [1]) (by kernel_rfl) (by simp) ?_
        refine AllReadyIn.cons rfl (fun K hK => ?_) (AllReadyIn.nil)
        · go_simp
          refine hK _ _ ?_
          clear hK K
          refine wpAnyIn_ready (rs := [3]) (by kernel_rfl) (by simp) ?_
          refine AllReadyIn.cons rfl (fun K hK => ?_) (AllReadyIn.nil)
          · go_simp
            gi_wp2_with fail
            refine ⟨trivial, ?_⟩
            gi_at_call 112
            refine (callsIn_wide.2 HREL.out).mono ?_
            rintro e wR ⟨hbR, hcase⟩
            rcases hcase.symm with ⟨rfl, hbad⟩ | ⟨rfl, hokx⟩
            · exact ⟨rfl, HBD.out wR hbR hbad⟩
            have c2R := HCR.out wR hbR
            have HBR := Lib.hid hbR
            have HOKX := Lib.hid hokx
            clear hbR hokx
            refine hK _ _ ?_
            clear hK K
            refine wpAnyIn_ready (rs := [4]) (by kernel_rfl) (by simp) ?_
            refine AllReadyIn.cons rfl (fun K hK => ?_) (AllReadyIn.nil)
            · go_simp
              gi_wp2_with fail
              refine ⟨trivial, ?_⟩
              gi_at_call 111
              refine (callsIn_wide.2 (HADD.out wR HBR.out)).mono ?_
              rintro e wA ⟨rfl, hadd⟩
              have HZ := Lib.hid (HFIN.out wR wA HBR.out HOKX.out hadd)
              clear hadd
              refine hK _ _ ?_
              clear hK K
              refine wpAnyIn_done (by kernel_rfl) ?_ _
              exact HZ.out
      · go_simp
        refine hK _ _ ?_
        clear hK K
        refine wpAnyIn_ready (rs := [0, 3]) (by kernel_rfl) (by simp) ?_
        refine AllReadyIn.cons rfl (fun K hK => ?_) (AllReadyIn.cons rfl (fun K hK => ?_) (AllReadyIn.nil))
        · go_simp
          refine hK _ _ ?_
          clear hK K
          refine wpAnyIn_ready (rs := [3]) (by kernel_rfl) (by simp) ?_
          refine AllReadyIn.cons rfl (fun K hK => ?_) (AllReadyIn.nil)
          · go_simp
            gi_wp2_with fail
            refine ⟨trivial, ?_⟩
            gi_at_call 112
            refine (callsIn_wide.2 HREL.out).mono ?_
            rintro e wR ⟨hbR, hcase⟩
            rcases hcase.symm with ⟨rfl, hbad⟩ | ⟨rfl, hokx⟩
            · exact ⟨rfl, HBD.out wR hbR hbad⟩
            have c2R := HCR.out wR hbR
            have HBR := Lib.hid hbR
            have HOKX := Lib.hid hokx
            clear hbR hokx
            refine hK _ _ ?_
            clear hK K
            refine wpAnyIn_ready (rs := [4]) (by kernel_rfl) (by simp) ?_
            refine AllReadyIn.cons rfl (fun K hK => ?_) (AllReadyIn.nil)
            · go_simp
              gi_wp2_with fail
              refine ⟨trivial, ?_⟩
              gi_at_call 111
              refine (callsIn_wide.2 (HADD.out wR HBR.out)).mono ?_
              rintro e wA ⟨rfl, hadd⟩
              have HZ := Lib.hid (HFIN.out wR wA HBR.out HOKX.out hadd)
              clear hadd
              refine hK _ _ ?_
              clear hK K
              refine wpAnyIn_done (by kernel_rfl) ?_ _
              exact HZ.out
        · go_simp
          gi_wp2_with fail
          refine ⟨trivial, ?_⟩
          gi_at_call 112
          refine (callsIn_wide.2 HREL.out).mono ?_
          rintro e wR ⟨hbR, hcase⟩
          rcases hcase.symm with ⟨rfl, hbad⟩ | ⟨rfl, hokx⟩
          · exact ⟨rfl, HBD.out wR hbR hbad⟩
          have c2R := HCR.out wR hbR
          have HBR := Lib.hid hbR
          have HOKX := Lib.hid hokx
          clear hbR hokx
          refine hK _ _ ?_
          clear hK K
          refine wpAnyIn_ready (rs := [0]) (by kernel_rfl) (by simp) ?_
          refine AllReadyIn.cons rfl (fun K hK => ?_) (AllReadyIn.nil)
          · go_simp
            refine hK _ _ ?_
            clear hK K
            refine wpAnyIn_ready (rs := [4]) (by kernel_rfl) (by simp) ?_
            refine AllReadyIn.cons rfl (fun K hK => ?_) (AllReadyIn.nil)
            · go_simp
              gi_wp2_with fail
              refine ⟨trivial, ?_⟩
              gi_at_call 111
              refine (callsIn_wide.2 (HADD.out wR HBR.out)).mono ?_
              rintro e wA ⟨rfl, hadd⟩
              have HZ := Lib.hid (HFIN.out wR wA HBR.out HOKX.out hadd)
              clear hadd
              refine hK _ _ ?_
              clear hK K
              refine wpAnyIn_done (by kernel_rfl) ?_ _
              exact HZ.out
  case hdone =>
    rintro D W hD ⟨⟨A, cap, hrd, hA⟩, hbs, hbc, hb, hsz, hok⟩ hK
    have c2 := hbs.cell
    have c3 := hbc.cell
    have hd : decide ((60 : Int) < ((sepL 44 l).length : Int)) = false := by have := HM.out; simp; omega
    have HNO := Lib.hid (note_no B W hrd.c2 hrd.f2)
    have HFI : Hid (RrPost names l V Q w B (.returned (.tuple #[])) (W.putObj D (.deferred none))) := Lib.hid (by
      have hgr := grownBy_putObj' W D (.deferred none)
      refine ⟨hb.trans (belowK_b (w := w) (by omega) W D _ _ (by omega) hK rfl rfl), .inl ⟨rfl, ⟨A, cap, hrd.grown hgr (fun e => ?_) (fun g hg e => ?_)⟩, hok⟩⟩
      · have h1 : D = B := by simpa using e
        subst h1
        have := cells_at hrd.c0 _ hK; cases this
      · have h1 : D = g := by simpa using e
        subst h1
        have := row_cells hrd.row hg _ hK; cases this)
    have HK := Lib.hid hK
    clear hrd hA hbs hbc hb hok hK
    change On 59 6 Tryz.prog _ _ _ _
    refine On.of ?_
    gi_wp2_with fail
    refine ⟨trivial, ?_⟩
    gi_at_call 113
    refine (callsIn_wide.2 HNO.out).mono ?_
    rintro e w' ⟨rfl, rfl⟩
    gi_wp2_with fail
    refine ⟨by simp, .inl ⟨_, _, rfl, run_takeDeferred HK.out, ?_⟩⟩
    exact ⟨_, results_none rfl _ _ _, HFI.out⟩
  case hpanic =>
    rintro D chain W hD ⟨hch, hbad, hb, hBW⟩ hK
    subst hch
    refine ⟨by simp, .inl ⟨_, _, rfl, run_takeDeferred hK, ?_⟩⟩
    refine ⟨hb.trans (belowK_b (w := w) (by omega) W D _ _ (by omega) hK rfl rfl), .inr ⟨rfl, hbad⟩⟩
end Go.Proofs.YteephomlnbbjeaaGreatDoor

namespace Go.Proofs.YteephomlnbbjeaaGreatDoor
open Go Go.RowKit Go.Shelf
attribute [local go_sem] Oper.semAt_some

/-- The names, one behind the other. -/
def nmF : List UInt8 → List (List UInt8) → Option (List UInt8)
  | ns, [] => some ns
  | ns, p :: t => match Lib.trimB p 32 with
    | [c] => if isSm c = true ∧ Lib.indexByte ns c < 0 ∧ ns.length < 8 then nmF (ns ++ [c]) t else none
    | _ => none
theorem nmF_app : ∀ (p q : List (List UInt8)) (ns : List UInt8), nmF ns (p ++ q) = (nmF ns p).bind (fun r => nmF r q)
  | [], q, ns => rfl
  | x :: p, q, ns => by
    rw [List.cons_append, nmF.eq_2, nmF.eq_2]
    split
    · split
      · exact nmF_app p q _
      · rfl
    · rfl
theorem nmF_one {ns r : List UInt8} {x : List UInt8} (h : nmF ns [x] = some r) : ∃ c, Lib.trimB x 32 = [c] ∧ isSm c = true ∧ Lib.indexByte ns c < 0 ∧ ns.length < 8 ∧ r = ns ++ [c] := by
  unfold nmF at h
  split at h
  · rename_i c hc
    split at h
    · rename_i hh
      exact ⟨c, hc, hh.1, hh.2.1, hh.2.2, by simpa [nmF] using h.symm⟩
    · cases h
  · cases h

/-- What the rounds of the names keep. -/
structure NmI (w : World) (n0 : Nat) (pre : List (List UInt8)) (W : World) : Prop where
  bx : ∃ ns, nmF [] pre = some ns ∧ Boxed W w.heap.size 9 (.string ⟨ns.toArray⟩)
  below : Below w.heap.size w W
  size : n0 ≤ W.heap.size
theorem NmI.own (w : World) (n0 B' : Nat) (hB : w.heap.size ≤ B') : OwnFrom B' (NmI w n0) := by
  rintro s X Y row ⟨⟨ns, h1, h2⟩, h4, h5⟩ hg hrow
  refine ⟨⟨ns, h1, h2.kept hg (fun e => ?_)⟩, h4.grown hg h4.size (fun k e => Nat.le_trans hB (hrow k e).1), Nat.le_trans h5 hg.size⟩
  obtain ⟨_, o, ho, hc⟩ := hrow _ e.symm
  rw [show X.heap[w.heap.size]? = _ from h2] at ho; cases ho; cases hc

set_option maxHeartbeats 8000000 in
set_option maxRecDepth 100000 in
theorem readNames_in (l r : List UInt8) (w : World) (hl : l.length ≤ 100000) (hr : nmF [] (sepL 44 l) = some r) :
    CallsIn Fence.wide 6 Tryz.prog 58 #[.string ⟨l.toArray⟩] w fun e w' => e = .returned (.string ⟨r.toArray⟩) ∧ Below w.heap.size w w' := by
  have HR := Lib.hid hr
  have HLL := Lib.hid (sepL_len 44 l)
  have HL := Lib.hid hl
  clear hr hl
  refine callsIn_of_on Tryz.func58 rfl ?_
  simp only [Tryz.ntmps58, List.size_toArray, List.length_cons, List.length_nil, Nat.reduceAdd, Nat.reduceSub, Array.replicate_succ, Array.replicate_zero, List.push_toArray, List.append_toArray, List.nil_append, List.cons_append]
  refine On.seq (On.of ?_)
  gi_wp2_with fail
  refine On.seq (On.of ?_)
  gi_wp2_with fail
  refine On.seq (On.seq (On.of ?_))
  gi_wp2_with fail
  refine ⟨trivial, ?_⟩
  gi_at_call 108
  refine (callsIn_wide.2 (separated_any ⟨l.toArray⟩ 44 _)).mono ?_
  rintro e1 w1 ⟨rfl, rfl⟩
  gi_wp2_with fail
  refine On.block ?_
  obtain ⟨W0, hW0⟩ : ∃ X, X = (((w.alloc (.cells #[.string ⟨#[]⟩] 9)).alloc (.cells #[.string ⟨l.toArray⟩] 9)).alloc (.cells #[.int .u8 44] 5)) := ⟨_, rfl⟩
  rw [← hW0]
  have hs0 : W0.heap.size = w.heap.size + 3 := by rw [hW0]; simp
  have hbx0 : Boxed W0 w.heap.size 9 (.string ⟨[].toArray⟩) := by rw [hW0]; exact ((Boxed.new w 9 _).alloc _).alloc _
  have k1 : W0.cell? ⟨w.heap.size + 1, 0, none⟩ = some (.string ⟨l.toArray⟩) := by
    rw [hW0]
    have h := Boxed.new (w.alloc (.cells #[.string ⟨#[]⟩] 9)) 9 (.string ⟨l.toArray⟩)
    rw [World.size_alloc] at h
    exact (h.alloc _).cell
  have k2 : W0.cell? ⟨w.heap.size + 1 + 1, 0, none⟩ = some (.int .u8 (44 : UInt8).toNat) := by
    rw [hW0]
    have h := Boxed.new ((w.alloc (.cells #[.string ⟨#[]⟩] 9)).alloc (.cells #[.string ⟨l.toArray⟩] 9)) 5 (.int .u8 44)
    rw [World.size_alloc, World.size_alloc] at h
    exact h.cell
  have hb0 : Below w.heap.size w W0 := by
    rw [hW0]
    exact (((Below.refl _ w).alloc (Nat.le_refl _) _).alloc (by simp) _).alloc (by simp; omega) _
  have HS0 := Lib.hid hs0
  have HI0 : Hid (NmI w (w.heap.size + 3) [] W0) := Lib.hid ⟨⟨[], rfl, hbx0⟩, hb0, by omega⟩
  clear hW0 hbx0 hb0
  have hl5 : l.length ≤ 1000000 := by have := HL.out; omega
  refine On.range_panics (P := Tryz.prog) Tryz.func58 (gf := 146) (lb := #[.pointer (some ⟨w.heap.size + 1, 0, none⟩), .pointer (some ⟨w.heap.size + 1 + 1, 0, none⟩)]) rfl (enters_of Tryz.func146 (by kernel_rfl) rfl)
    (sep_seq 5 (by decide) ⟨l.toArray⟩ (by rw [size_mk]; exact hl5) 44 (w.heap.size + 1) W0 k1 k2 (by omega))
    (fun h k => h.trans k) (fun W l o o' hl _ _ _ => KpB.putObj W l o o' (by omega)) (Below.refl _ _) (fun _ => rfl)
    (NmI w (w.heap.size + 3)) (fun _ _ => False) (NmI.own w _ _ (by omega)) HI0.out
    (fun x => { tmps := #[.string ⟨l.toArray⟩, undef, .string ⟨#[]⟩, .pointer (some ⟨w.heap.size, 0, none⟩), .string ⟨x.toArray⟩, undef, .string ⟨l.toArray⟩, .func (.func 146) #[] #[.pointer (some ⟨w.heap.size + 1, 0, none⟩), .pointer (some ⟨w.heap.size + 1 + 1, 0, none⟩)], .string ⟨x.toArray⟩, undef, undef, undef, undef, undef, undef, undef, undef, undef, undef, undef, undef, undef, undef, undef, undef, undef, undef, undef, undef, undef, undef, undef, undef, undef], defers := [] })
    ?hassign ?hbody ?hdone ?hpanic
  case hassign =>
    intro l' x W K hK
    have HK := Lib.hid hK
    clear hK
    unfold strA
    gi_wp2
    exact HK.out
  case hbody =>
    rintro l' pre x post W hx ⟨⟨ns, hns, hbx⟩, hb, hsz⟩
    have hxm : x ∈ sepL 44 l := by rw [hx]; simp
    have hxl := HLL.out x hxm
    have hr := HR.out
    rw [hx, nmF_app, hns] at hr
    simp only [Option.bind_some] at hr
    rw [show x :: post = [x] ++ post from rfl, nmF_app] at hr
    cases hone : nmF ns [x] with
    | none => rw [hone] at hr; cases hr
    | some r1 =>
    obtain ⟨c, hc, hsm, hix, hn8, rfl⟩ := nmF_one hone
    have hnew : nmF [] (pre ++ [x]) = some (ns ++ [c]) := by rw [nmF_app, hns]; exact hone
    have HNEW := Lib.hid hnew
    have HTR := Lib.hid (fun X => trim_any x X (by omega))
    rw [hc] at HTR
    have HSM := Lib.hid (fun X => isSmall_any c X)
    rw [hsm] at HSM
    have HCN : Hid (∀ X : World, Calls Tryz.prog 110 #[.string ⟨ns.toArray⟩, .string ⟨[c].toArray⟩] X (fun e w' => e = .returned (.bool false) ∧ X = w')) := Lib.hid (fun X =>
      (show Calls Tryz.prog 110 #[.string ⟨ns.toArray⟩, .string ⟨#[c]⟩] X (fun e w' => e = .returned (.bool (decide (0 ≤ Lib.indexByte ns c))) ∧ w' = X) from Any.strings_Contains_one Tryz.laysCon ⟨ns.toArray⟩ c X).mono (fun e w' h => ⟨by rw [h.1, decide_eq_false (by omega)], h.2.symm⟩))
    have c1 := hbx.cell
    have f1 := hbx.frozen
    have HBX := Lib.hid hbx
    have HB := Lib.hid hb
    have HSZ := Lib.hid hsz
    have hd8 : decide ((ns.length : Int) + 1 ≤ 8) = true := by simp; omega
    have HFIN : Hid (∀ m : Nat, KeepsOthers W ((W.drewN m).setCell ⟨w.heap.size, 0, none⟩ (.string ⟨(ns ++ [c]).toArray⟩)) ∧ KpB (w.heap.size + 1) W ((W.drewN m).setCell ⟨w.heap.size, 0, none⟩ (.string ⟨(ns ++ [c]).toArray⟩)) ∧ NmI w (w.heap.size + 3) (pre ++ [x]) ((W.drewN m).setCell ⟨w.heap.size, 0, none⟩ (.string ⟨(ns ++ [c]).toArray⟩))) := Lib.hid (fun m => by
      have h0 : KeepsOthers W (W.drewN m) := ⟨Nat.le_refl _, fun _ _ h _ => h⟩
      refine ⟨h0.trans (KeepsOthers.setCell _ _ _), ⟨World.cell?_setCell_other _ _ _ _ (by simp), World.cell?_setCell_other _ _ _ _ (by simp; try omega)⟩, ⟨⟨ns ++ [c], hnew, (show Boxed (W.drewN m) w.heap.size 9 (.string ⟨ns.toArray⟩) from HBX.out).set _⟩, (HB.out.drewN m).setCell (p := ⟨w.heap.size, 0, none⟩) (Nat.le_refl _) _, ?_⟩⟩
      have := HSZ.out
      simpa [World.setCell] using this)
    have hadd : (ByteArray.mk ns.toArray) ++ (ByteArray.mk [c].toArray) = ⟨(ns ++ [c]).toArray⟩ := ba_ext (by simp)
    clear hbx hb hsz hr hone hns hx hc hsm hix hnew
    gi_wp2_with fail
    refine ⟨trivial, ?_⟩
    gi_at_call 104
    refine (callsIn_wide.2 (HTR.out _)).mono ?_
    rintro e1 w1 ⟨rfl, m, rfl⟩
    have c2 : (W.drewN m).cell? ⟨w.heap.size, 0, none⟩ = some (.string ⟨ns.toArray⟩) := c1
    gi_wp2_with fail
    refine ⟨trivial, ?_⟩
    gi_at_call 109
    refine (callsIn_wide.2 (HSM.out _)).mono ?_
    rintro e1 w1 ⟨rfl, rfl⟩
    gi_wp2_with fail
    refine ⟨trivial, ?_⟩
    gi_at_call 110
    refine (callsIn_wide.2 (HCN.out _)).mono ?_
    rintro e1 w1 ⟨rfl, rfl⟩
    gi_wp2_with fail
    refine ⟨trivial, ?_⟩
    gi_at_call 107
    refine (callsIn_wide.2 (must_yes _)).mono ?_
    rintro e1 w1 ⟨rfl, rfl⟩
    gi_wp2_with fail
    refine ⟨trivial, ?_⟩
    gi_at_call 107
    refine (callsIn_wide.2 (must_yes _)).mono ?_
    rintro e1 w1 ⟨rfl, rfl⟩
    gi_wp2_with fail
    exact HFIN.out m
  case hdone =>
    rintro D W hD ⟨⟨ns, hns, hbx⟩, hb, hsz⟩ hK
    obtain rfl : r = ns := by have := HR.out; rw [hns] at this; exact (Option.some.inj this).symm
    have c1 := hbx.cell
    have HFI := Lib.hid (hb.trans (belowK_b (w := w) (Nat.le_refl _) W D (.deferred (some [])) (.deferred none) (by omega) hK rfl rfl))
    have HK := Lib.hid hK
    clear hbx hb hK hns
    change On 58 6 Tryz.prog _ _ _ _
    refine On.of ?_
    gi_wp2_with fail
    refine ⟨by simp, .inl ⟨_, _, rfl, run_takeDeferred HK.out, ?_⟩⟩
    exact ⟨_, results_tmp rfl _ _ _, rfl, HFI.out⟩
  case hpanic =>
    rintro D chain W hD h hK
    exact h.elim
end Go.Proofs.YteephomlnbbjeaaGreatDoor
