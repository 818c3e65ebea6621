/-
  Our own text, in the proofs of the laws of package pres (cayleylaw03). Proved here: a range over a function whose rounds neither stop nor panic, and may turn what lay ahead of the loop; rotations yields the rotations; Symmetrized of package pres; rows of words are compared word by word (Equal of package slices, SameWords). Conditions: the arguments lie in memory as the slices say; bounds; the listed tables lie as the program lays them.
-/
import Derived.Test.YteephomlnbbjeaaGreatDoorJr
import Derived.Test.YteephomlnbbjeaaGreatDoorJz
import Derived.LoopIn
import Derived.Test.YteephomlnbbjeaaGreatDoorJh
set_option linter.unusedVariables false
set_option linter.unusedSimpArgs false
set_option linter.unusedSectionVars false
namespace Go.Proofs.YteephomlnbbjeaaGreatDoor
open Go Go.RowKit
variable {F : Fence} {n : Nat} {P : Program}

/-- What a function that is ranged over owes: it hands over xs, one by one. -/
def SeqQ {α : Type} (F : Fence) (n : Nat) (P : Program) (g : Nat) (lb : Array Value) (encs : α → Array Value) (Kp : World → World → Prop) (xs : List α) (w : World) : Prop :=
  ∀ (l : Nat) (J : List α → World → Prop) (W : World), Below w.heap.size w W → AbidesFrom W.heap.size J →
    (∀ pre x post W1, xs = pre ++ x :: post → J pre W1 → YieldAt F (n - 1) P l (encs x) W1 fun e W' => e = .returned (.bool true) ∧ J (pre ++ [x]) W' ∧ Kp W1 W') →
    J [] W → CallsIn F n P g (#[.func (.yield l) #[] #[]] ++ lb) W fun e W' => (∃ v, e = .returned v) ∧ J xs W'

/-- How the body of a round is left. -/
def bodyFrom {α : Type} (B : Nat) (Kp : World → World → Prop) (I : List α → World → Prop) (xs : List α) (W : World) : Exit → Act → World → Prop
  | .normal, _, W' => KeepsFrom B W W' ∧ Kp W W' ∧ I xs W'
  | _, _, _ => False

theorem wpIn_range_q {α : Type} {g : Operand} {ps : Array Tmp} {assign body : Code} {Q : Exit → Act → World → Prop} {a : Act} {w : World}
    (hro : F.round = none) (h1 : 1 ≤ n)
    {gf : Nat} {lb : Array Value} (hg : a.eval g = .func (.func gf) #[] lb) (hFg : F.fn gf) (eg : ∀ args w, (callFunc gf args).run P w = .ok (.enter gf args) w)
    {encs : α → Array Value} {Kp : World → World → Prop} {xs : List α} {w0 : World} (hseq : SeqQ F (n - 1) P gf lb encs Kp xs w0)
    (hKt : ∀ {A B C : World}, Kp A B → Kp B C → Kp A C) (hKb : ∀ (W : World) (l : Nat) (o o' : Obj), w.heap.size ≤ l → W.heap[l]? = some o → o.isCells = false → o.isWalk = false → Kp W (W.putObj l o')) (hb0 : Below w0.heap.size w0 w) (hps : ∀ x, (encs x).size = ps.size)
    (I : List α → World → Prop) (hI : OwnFrom w.heap.size I) (h0 : I [] w) (a₁ : α → Act)
    (hassign : ∀ (l : Nat) (x : α) (W : World) (K : Act → World → Prop), K (a₁ x) W →
      assign.wpIn (F.inRound l) (n - 1 - 1) P (Exit.then K (fun _ _ _ => False)) { tmps := (ps.zip (encs x)).foldl (fun t (p, v) => t.setIfInBounds p v) a.tmps, defers := [] } W)
    (hbody : ∀ (l : Nat) (pre : List α) (x : α) (post : List α) (W : World), xs = pre ++ x :: post → I pre W → body.wpIn (F.inRound l) (n - 1 - 1) P (bodyFrom w.heap.size Kp I (pre ++ [x]) W) (a₁ x) W)
    (hdone : ∀ (D : Nat) (W : World), w.heap.size ≤ D → I xs W → W.heap[D]? = some (.deferred (some [])) → Q .normal { a with defers := { target := .collected D, args := #[] } :: a.defers } W) :
    (Code.rangeFunc g ps assign body).wpIn F n P Q a w := by
  refine wpIn_rangeFunc ?_
  intro fn hfn
  rw [hro]
  generalize hrec : (fun (st : LoopState) => ({ state := st, pending := none, fn, tmps := a.tmps, params := ps, assign, body, defers := w.heap.size } : Loop)) = rec
  have hst : ∀ s, (rec s).state = s := fun s => by rw [← hrec]
  have hset : ∀ s t, ({ rec s with state := t } : Loop) = rec t := fun s t => by rw [← hrec]
  have hpar : ∀ s, (rec s).params = ps := fun s => by rw [← hrec]
  have hpen : ∀ s, (rec s).pending = none := fun s => by rw [← hrec]
  have hpset : ∀ s t, ({ rec s with state := t, pending := none } : Loop) = rec t := fun s t => by rw [← hrec]
  generalize hW1 : (w.alloc (.deferred (some []))).alloc (.loop (rec .ready)) = W1
  have hL1 : W1.heap[w.heap.size + 1]? = some (.loop (rec .ready)) := by
    rw [← hW1]; have := World.alloc_heap_new (w.alloc (.deferred (some []))) (.loop (rec .ready)); rwa [World.size_alloc] at this
  have hK1 : W1.heap[w.heap.size]? = some (.deferred (some [])) := by
    rw [← hW1]; exact (Below.heap_alloc _ _ _ (by simp)).trans (World.alloc_heap_new w _)
  have hI1 : I [] W1 := by rw [← hW1]; exact hI.alloc _ (hI.alloc _ h0)
  have hb1 : Below w0.heap.size w0 W1 := by
    rw [← hW1]; exact hb0.trans ((((Below.refl _ w).alloc (Nat.le_refl _) _).alloc (by simp) _).mono hb0.size)
  have hsz : w.heap.size ≤ W1.heap.size := by rw [← hW1]; simp; omega
  refine ⟨w.heap.size + 1, [{ target := .collected w.heap.size, args := #[] }], W1, { target := .fn (.func gf) lb, args := #[.func (.yield (w.heap.size + 1)) #[] #[]] }, W1, gf,
    #[.func (.yield (w.heap.size + 1)) #[] #[]] ++ lb, W1, ?_, ?_, ?_, ?_, fun _ => h1, ?_⟩
  · rw [← hW1, ← hrec]; exact run_enterLoop_outer _ _ _ _ _
  · simp only [resolve, hg]
    simp [go_sem]
  · intro f' hf'; simp [Target.leads] at hf'; subst hf'; exact hFg
  · simp [invoke, go_sem, eg]
  · refine (hseq (w.heap.size + 1)
      (fun pre W => I pre W ∧ W.heap[w.heap.size + 1]? = some (.loop (rec .ready)) ∧ W.heap[w.heap.size]? = some (.deferred (some [])))
      W1 hb1 ?_ ?_ ⟨hI1, hL1, hK1⟩).mono ?_
    · intro s A B row hs hg' hr
      refine ⟨hI s A B row hs.1 hg' (fun r e => ?_), (grownBy_keeps hg' (fun r e => (hr r e).2) hs.2.1 rfl).trans hs.2.1, (grownBy_keeps hg' (fun r e => (hr r e).2) hs.2.2 rfl).trans hs.2.2⟩
      obtain ⟨hB, o, ho, hw⟩ := hr r e
      exact ⟨by omega, o, ho, Obj.not_cells_of_walk hw⟩
    · rintro pre x post W hx ⟨hi, hl, hk⟩
      have hlt : w.heap.size + 1 < W.heap.size := (Array.getElem?_eq_some_iff.1 hl).1
      have hy := run_yield (P := P) (args := encs x) hl (by rw [hpar]; exact hps x)
      have hfn' : (rec .ready).fn = fn := by rw [← hrec]
      have htm : (rec .ready).tmps = a.tmps := by rw [← hrec]
      have has : (rec .ready).assign = assign := by rw [← hrec]
      have hbo : (rec .ready).body = body := by rw [← hrec]
      rw [hfn', htm, has, hbo, hpar] at hy
      refine ⟨fn, _, assign, body, hy, roundIn_of_wpIn hfn (hassign _ x W _ ⟨_, run_beginRound hl (hst _), ?_⟩)⟩
      rw [hset]
      have hl2 : (W.putObj (w.heap.size + 1) (.loop (rec .busy))).heap[w.heap.size + 1]? = some (.loop (rec .busy)) := World.putObj_heap_same hlt
      have hk2 : (W.putObj (w.heap.size + 1) (.loop (rec .busy))).heap[w.heap.size]? = some (.deferred (some [])) := (World.putObj_heap_other (by omega)).trans hk
      have hw2 : Kp W (W.putObj (w.heap.size + 1) (.loop (rec .busy))) := hKb W _ _ _ (by omega) hl rfl rfl
      refine wpIn_mono (hbody _ pre x post _ hx (hI.putObj _ hi (by omega) hl rfl)) ?_
      rintro e a3 W3 hp
      cases e with
      | normal =>
        obtain ⟨hk3, hb3, hi3⟩ := hp
        have hl3 := hk3.same _ _ (by omega) hl2 rfl
        have hend := run_endRound (P := P) none hl3
        have hlt3 : w.heap.size + 1 < W3.heap.size := (Array.getElem?_eq_some_iff.1 hl3).1
        refine ⟨_, _, hend, ⟨rfl, ⟨hI.putObj _ hi3 (by omega) hl3 rfl, ?_, (World.putObj_heap_other (by omega)).trans (hk3.same _ _ (Nat.le_refl _) hk2 rfl)⟩, hKt (hKt hw2 hb3) (hKb W3 _ _ _ (by omega) hl3 rfl rfl)⟩⟩
        rw [World.putObj_heap_same hlt3]
        simp only [Option.isNone_none, if_true, hpset]
      | panic chain => exact hp.elim
      | ret => exact hp.elim
      | exit id => exact hp.elim
      | goto t => exact hp.elim
      | outgrown => exact hp.elim
    · rintro e W2 ⟨⟨v, rfl⟩, hi, hl, hk⟩
      have hend := run_endLoop (P := P) hl (by rw [hst]; simp)
      rw [hpen] at hend
      exact ⟨none, _, hend, hdone _ _ (Nat.le_refl _) (hI.putObj _ hi (by omega) hl rfl) ((World.putObj_heap_other (by omega)).trans hk)⟩
end Go.Proofs.YteephomlnbbjeaaGreatDoor

namespace Go.Proofs.YteephomlnbbjeaaGreatDoor
open Go Go.RowKit Go.Maps Go.Sort Go.Shelf
attribute [local go_sem] Oper.semAt_some

def rotsL (l : List UInt8) : List (List UInt8) := (List.range l.length).map (rotA l)
theorem rots_split (l : List UInt8) {k : Nat} (h : k < l.length) : rotsL l = (List.range k).map (rotA l) ++ rotA l k :: (rotsL l).drop (k + 1) := by
  have hl : (rotsL l).length = l.length := by simp [rotsL]
  have h1 := List.take_append_drop k (rotsL l)
  rw [List.drop_eq_getElem_cons (by omega)] at h1
  have h2 : (rotsL l)[k]'(by omega) = rotA l k := by simp [rotsL]
  have h3 : (rotsL l).take k = (List.range k).map (rotA l) := by
    unfold rotsL
    rw [← List.map_take, List.take_range, Nat.min_eq_left (by omega)]
  rw [h2, h3] at h1
  exact h1.symm

def KpO (B : Nat) (A W : World) : Prop := W.cell? ⟨B, 0, none⟩ = A.cell? ⟨B, 0, none⟩

set_option maxRecDepth 100000 in
set_option maxHeartbeats 2000000 in
theorem rot_q (n : Nat) (hn : 1 ≤ n) (s : ByteArray) (hs : s.size ≤ 1000000) (Bn : Nat) (w : World) (hB : w.cell? ⟨Bn, 0, none⟩ = some (.string s)) :
    SeqQ Fence.wide n Tryz.prog 126 #[.pointer (some ⟨Bn, 0, none⟩)] strA (KpO Bn) (rotsL s.data.toList) w := by
  intro l J W hW hJ hY h0
  have HJ : Hid (∀ pre W1, J pre W1 → J pre W1.drew) := Lib.hid (fun pre W1 h => hJ pre W1 W1.drew none h ⟨rfl, rfl, rfl, Nat.le_refl _, fun _ _ _ => rfl⟩ (fun r hr => by cases hr))
  have HY := Lib.hid hY
  have hc0 : W.cell? ⟨Bn, 0, none⟩ = some (.string s) := (hW.cell (p := ⟨Bn, 0, none⟩) (lt_of_cell hB)).trans hB
  clear hY hJ hB hW
  refine callsIn_of_wp Tryz.func126 rfl trivial ?_ rfl
  simp only [Tryz.ntmps126, List.size_toArray, List.length_cons, List.length_nil, Nat.reduceAdd, Nat.reduceSub, Array.replicate_succ, Array.replicate_zero, List.push_toArray, List.append_toArray, List.nil_append, List.cons_append]
  gi_wp2
  gi_loopw [3, 6] (fun _ p wr => ∃ k : Nat, p = .int .i64 k ∧ k ≤ s.size ∧ wr.cell? ⟨Bn, 0, none⟩ = some (.string s) ∧ J ((List.range k).map (rotA s.data.toList)) wr)
    (fun _ p wr => s.size - (intOf p).toNat)
  case atStart => exact ⟨0, rfl, by omega, hc0, h0⟩
  case round =>
    obtain ⟨k, rfl, hk, hc, hJs⟩ := hrel
    by_cases hlt : k < s.size
    · have hll : k < s.data.toList.length := by simpa using hlt
      have hy0 := HY.out _ _ _ wr.drew (rots_split _ hll) (HJ.out _ _ hJs)
      unfold strA at hy0
      obtain ⟨fn, tmps, assign, body, hy, hR⟩ := hy0
      have hd : wr.drew.cell? ⟨Bn, 0, none⟩ = some (.string s) := hc
      have HC := Lib.hid hc
      have hsl : ((k : Nat) : Int) ≤ (s.size : Int) := by omega
      have fadd : ∀ w, (Op.stringOp .add (s.extract k s.size) (s.extract 0 k)).run Tryz.prog w = .ok (.string ⟨(rotA s.data.toList k).toArray⟩) w := fun w => by
        rw [run_string_add_sum w _ _ (by simp; omega)]
        congr 2
        refine ba_ext ?_
        simp [rotA]
        exact List.take_of_length_le (by simp)
      have hmi : Tryz.prog.follows .mixedOrders = true := by kernel_rfl
      have HNX : Hid ((List.range (k + 1)).map (rotA s.data.toList) = (List.range k).map (rotA s.data.toList) ++ [rotA s.data.toList k]) := Lib.hid (by rw [List.range_succ, List.map_append]; rfl)
      clear hJs hll h0 hc0
      gi_wp2
      gi_region_with_o (refine hR.mono ?_; rintro e W3 ⟨rfl, hJ3, hk3⟩)
      all_goals (
        have hc3 : W3.cell? ⟨Bn, 0, none⟩ = some (.string s) := (show W3.cell? ⟨Bn, 0, none⟩ = wr.cell? ⟨Bn, 0, none⟩ from hk3).trans HC.out
        gi_wp2
        go_roundw
        case rel => exact ⟨k + 1, by go_num, by omega, hc3, by rw [HNX.out]; exact hJ3⟩
        case measure => simp [intOf]; omega)
    · have he : k = s.size := by omega
      subst he
      have HJS := Lib.hid hJs
      have hle : (List.range s.size).map (rotA s.data.toList) = rotsL s.data.toList := by unfold rotsL; simp
      rw [hle] at HJS
      clear hJs
      gi_wp2
      go_end0
      exact ⟨⟨_, rfl⟩, HJS.out⟩

/-- The rotations of a relator's core, and their inverses. -/
def symW (r : List UInt8) : List (List UInt8) := (rotsL (coreW (red r))).flatMap (fun x => [x, invW x])
def mks (Ds : List Nat) : List Deferred := Ds.map (fun D => { target := .collected D, args := #[] })
/-- What the loop over the relators keeps. -/
structure SyL (w1 : World) (acc : List (List UInt8)) (Ds : List Nat) (W : World) : Prop where
  map : W.ownsMap Tryz.prog 9 plainB w1.heap.size acc.length (setD acc)
  box : Boxed W (w1.heap.size + 1) 107 (.map (some w1.heap.size))
  below : Below w1.heap.size w1 W
  size : w1.heap.size + 2 ≤ W.heap.size
  nd : Ds.Nodup
  marks : ∀ D ∈ Ds, w1.heap.size + 2 ≤ D ∧ W.heap[D]? = some (.deferred (some []))

theorem SyL.on {w1 W W' : World} {acc : List (List UInt8)} {Ds : List Nat} (h : SyL w1 acc Ds W) (hb : Below W.heap.size W W') : SyL w1 acc Ds W' :=
  ⟨map_on h.map hb, (hb.block _ h.box.lt).trans h.box, h.below.trans (hb.mono h.below.size), Nat.le_trans h.size hb.size, h.nd, fun D hD => ⟨(h.marks D hD).1, (hb.block D (Array.getElem?_eq_some_iff.1 (h.marks D hD).2).1).trans (h.marks D hD).2⟩⟩
theorem SyL.put {w1 W : World} {acc : List (List UInt8)} {Ds : List Nat} (h : SyL w1 acc Ds W) (x : List UInt8) (hx : x.length ≤ 100000) (hn : acc.length ≤ 1000000) :
    ∃ W', (Instr.mapUpdate 107 (.map (some w1.heap.size)) (.string ⟨x.toArray⟩) (.bool true)).run Tryz.prog W = .ok () W' ∧ SyL w1 (acc ++ [x]) Ds W' ∧ W.grownBy W' (some w1.heap.size) := by
  obtain ⟨W', h1, h2, h3⟩ := h.map.update (string_keyed Tryz.underlying9) Tryz.underlying107 (by unfold maxLen; omega) (key_str (s := ⟨x.toArray⟩) (by rw [size_mk]; unfold maxLen; omega)) (plainElem_bool Tryz.underlying4 true)
  refine ⟨W', h1, ⟨?_, h.box.kept h3 (by simp), h.below.grown h3 h.below.size (fun j e => by cases e; exact Nat.le_refl _), Nat.le_trans h.size h3.size, h.nd, fun D hD => ⟨(h.marks D hD).1, ?_⟩⟩, h3⟩
  · rw [List.length_append, List.length_singleton, setD_snoc]; exact h2
  · have := (h.marks D hD).1
    exact (h3.block D (Array.getElem?_eq_some_iff.1 (h.marks D hD).2).1 (fun e => by have := Option.some.inj e; omega)).trans (h.marks D hD).2
theorem SyL.own {w1 : World} {Ds : List Nat} (acc : List (List UInt8)) (B' : Nat) (hB : w1.heap.size + 2 ≤ B') (hD : ∀ D ∈ Ds, D < B') : OwnFrom B' (fun (pre : List (List UInt8)) W => SyL w1 (acc ++ pre.flatMap (fun x => [x, invW x])) Ds W) := by
  intro s X Y row h hg hrow
  refine ⟨h.map.kept hg (fun e => by have := (hrow _ e.symm).1; omega), h.box.kept hg (fun e => by have := (hrow _ e.symm).1; omega), h.below.grown hg h.below.size (fun k e => by have := (hrow k e).1; omega), Nat.le_trans h.size hg.size, h.nd, fun D hD' => ⟨(h.marks D hD').1, ?_⟩⟩
  exact (hg.block D (Array.getElem?_eq_some_iff.1 (h.marks D hD').2).1 (fun e => by have := (hrow D e.symm).1; have := hD D hD'; omega)).trans (h.marks D hD').2
theorem SyL.own2 {w1 : World} {Ds : List Nat} (acc : List (List UInt8)) (B' : Nat) (hB : w1.heap.size + 2 ≤ B') (hD : ∀ D ∈ Ds, D < B') : OwnFrom B' (fun (pre : List (List UInt8)) W => SyL w1 (acc ++ pre.flatMap (fun x => [x, invW x])) Ds W ∧ B' ≤ W.heap.size) := by
  intro s X Y row h hg hrow
  exact ⟨SyL.own acc B' hB hD s X Y row h.1 hg hrow, Nat.le_trans h.2 hg.size⟩
theorem flat2_len (l : List (List UInt8)) : (l.flatMap (fun x => [x, invW x])).length = 2 * l.length := by
  induction l with
  | nil => rfl
  | cons a t ih => rw [List.flatMap_cons, List.length_append, ih]; simp; omega
theorem leaves_marks {F : Fence} {n : Nat} {P : Program} {fn : Func} {tmps : Array Value} {R : Ending → World → Prop} (I : World → Prop) (B : Nat) (hI : ∀ X D, B ≤ D → I X → X.heap[D]? = some (.deferred (some [])) → I (X.putObj D (.deferred none)))
    (hend : ∀ X, I X → LeavesIn F n P fn tmps R [] .returning X) : ∀ (Ds : List Nat) (W : World), Ds.Nodup → (∀ D ∈ Ds, B ≤ D ∧ W.heap[D]? = some (.deferred (some []))) → I W → LeavesInM F n P fn tmps R (mks Ds) .returning W
  | [], W, _, _, h => hend W h
  | D :: Ds, W, hnd, hD, h => by
    have ⟨hB0, h0⟩ := hD D (by simp)
    refine ⟨by simp, .inl ⟨D, _, rfl, run_takeDeferred h0, ?_⟩⟩
    refine leaves_marks I B hI hend Ds _ (List.nodup_cons.1 hnd).2 (fun D' hD' => ?_) (hI W D hB0 h h0)
    rw [World.putObj_heap_other (fun e => by subst e; exact (List.nodup_cons.1 hnd).1 hD')]
    exact hD D' (by simp [hD'])
theorem StrsAt.putD {w : World} {A : Option Addr} {l : List (List UInt8)} {D : Nat} {ds : Option (List Deferred)} (h : StrsAt w A l) (hd : w.heap[D]? = some (.deferred ds)) (o : Obj) : StrsAt (w.putObj D o) A l := by
  intro i hi
  obtain ⟨b, k, rfl, hc, hl⟩ := h i hi
  refine ⟨b, k, rfl, (cell_putObj_other _ _ _ _ (fun e => ?_)).trans hc, hl⟩
  have e' : b = D := e
  subst e'
  simp [World.cell?, hd] at hc
theorem rotsL_len (l : List UInt8) : (rotsL l).length = l.length := by simp [rotsL]
theorem rotsL_word {l : List UInt8} (h : isW l = true) : ∀ x ∈ rotsL l, isW x = true := fun x hx => by
  obtain ⟨k, _, rfl⟩ := List.mem_map.1 hx
  exact isW_rot h k
theorem symW_len (r : List UInt8) : (symW r).length ≤ 2 * r.length := by
  have h1 : ∀ l : List (List UInt8), (l.flatMap (fun x => [x, invW x])).length = 2 * l.length := fun l => by
    induction l with
    | nil => rfl
    | cons a t ih => rw [List.flatMap_cons, List.length_append, ih]; simp; omega
  unfold symW
  rw [h1, rotsL_len]
  have := coreW_len (red r)
  have := red_len r
  omega
theorem acc_len : ∀ l : List (List UInt8), (∀ r ∈ l, r.length ≤ 200) → (l.flatMap symW).length ≤ 400 * l.length
  | [], _ => by simp
  | r :: t, h => by
    have h1 := symW_len r
    have h2 := h r (by simp)
    have h3 := acc_len t (fun x hx => h x (by simp [hx]))
    rw [List.flatMap_cons, List.length_append, List.length_cons]
    omega
theorem symW_word {r : List UInt8} (h : isW r = true) : ∀ x ∈ symW r, isW x = true := fun x hx => by
  obtain ⟨y, hy, hx⟩ := List.mem_flatMap.1 hx
  have h1 := rotsL_word (isW_core (isW_red h)) y hy
  simp only [List.mem_cons, List.not_mem_nil, or_false] at hx
  rcases hx with rfl | rfl
  · exact h1
  · exact isW_invW h1

set_option maxHeartbeats 4000000 in
set_option maxRecDepth 100000 in
theorem Symmetrized_in (p : Pr) (R : Option Addr) (rc : Nat) (w : World) (ht : Tabs w) (hr : StrsAt w R p.rels) (hm : p.rels.length ≤ maxLen) (hck : chkP p = 0) :
    CallsIn Fence.wide 8 Tryz.prog 26 #[prV p.k R p.rels.length rc] w fun e w' => ∃ A cap, e = .returned (.tuple #[.slice A (ascA (p.rels.flatMap symW)).length cap, .int .i64 0]) ∧ StrsAt w' A (ascA (p.rels.flatMap symW)) ∧ Below w.heap.size w w' := by
  have hmk := @run_makeMap Tryz.prog
  have hb0 : Below w.heap.size w (w.alloc (.cells (prC p.k R p.rels.length rc) 24)) := (Below.refl _ w).alloc (Nat.le_refl _) _
  have h1 : (w.alloc (.cells (prC p.k R p.rels.length rc) 24)).heap[w.heap.size]? = some (.cells (prC p.k R p.rels.length rc) 24 (0, 0)) := heap_alloc_new w _
  have HC := Lib.hid (Check_any p R rc _ (ht.on hb0) (hr.below hb0) hm)
  rw [hck] at HC
  have HT := Lib.hid ht
  have HR := Lib.hid hr
  obtain ⟨g0, g1, _, _⟩ := blk2 h1
  have HB0 := Lib.hid hb0
  have HH1 := Lib.hid h1
  clear ht hr hb0 h1
  refine callsIn_of_wp_marks Tryz.func26 rfl trivial ?_ rfl
  simp only [Tryz.ntmps26, List.size_toArray, List.length_cons, List.length_nil, Nat.reduceAdd, Nat.reduceSub, Array.replicate_succ, Array.replicate_zero, List.push_toArray, List.append_toArray, List.nil_append, List.cons_append]
  gi_wp2_with fail
  refine ⟨trivial, ?_⟩
  gi_at_call 18
  refine (callsIn_wide.2 HC.out).mono ?_
  rintro e w1 ⟨rfl, hb1⟩
  have y0 : w1.cell? ⟨w.heap.size, 0, none⟩ = some (.int .i64 p.k) := (hb1.cell (p := ⟨w.heap.size, 0, none⟩) (by simp)).trans g0
  have y1 : w1.cell? ⟨w.heap.size, 1, none⟩ = some (.slice R p.rels.length rc) := (hb1.cell (p := ⟨w.heap.size, 1, none⟩) (by simp)).trans g1
  have hba : Below w1.heap.size w1 ((w1.alloc (.map #[] 0)).alloc (.cells #[.map (some w1.heap.size)] 107)) := ((Below.refl _ w1).alloc (Nat.le_refl _) _).alloc (by simp) _
  have hw01 : w.heap.size < w1.heap.size := by have := hb1.size; simp at this; omega
  have y2 : ((w1.alloc (.map #[] 0)).alloc (.cells #[.map (some w1.heap.size)] 107)).cell? ⟨w.heap.size, 1, none⟩ = some (.slice R p.rels.length rc) := (hba.cell (p := ⟨w.heap.size, 1, none⟩) hw01).trans y1
  have hL0 : SyL w1 [] [] ((w1.alloc (.map #[] 0)).alloc (.cells #[.map (some w1.heap.size)] 107)) := by
    refine ⟨(World.ownsMap_made w1 Tryz.prog 9 plainB).alloc _, ?_, hba, by simp, List.nodup_nil, fun D hD => by cases hD⟩
    have h := Boxed.new (w1.alloc (.map #[] 0)) 107 (.map (some w1.heap.size))
    rwa [World.size_alloc] at h
  have HL0 := Lib.hid hL0
  have HB1 := Lib.hid (HB0.out.trans (hb1.mono (by simp)))
  have HW := Lib.hid (chkP_words hck)
  have hn60 := (chkP_rels hck).2.2.1
  have HW01 := Lib.hid hw01
  have HR2 : Hid (∀ r ∈ p.rels, r.length ≤ 200) := Lib.hid (fun r hr => by have h := List.any_eq_false.1 (chkP_rels hck).2.2.2.1 r hr; simpa [longB] using h)
  clear hba hb1 hL0 y0 y1 g0 g1
  gi_wp2_with fail
  refine wpIn_loop (fun a W => ∃ (k : Nat) (Ds : List Nat) (u7 u8 u9 u21 u22 u23 u24 u25 u26 u27 u28 u29 u30 u37 : Value), a = { tmps := #[prV p.k R p.rels.length rc, .pointer (some ⟨w.heap.size, 0, none⟩), .slice none 0 0, .int .i64 0, .int .i64 0, .pointer (some ⟨w1.heap.size + 1, 0, none⟩), undef, u7, u8, u9, undef, .agg #[.int .i64 p.k, .slice R p.rels.length rc], .int .i64 0, .int .i64 0, .bool false, undef, .map (some w1.heap.size), .pointer (some ⟨w.heap.size, 1, none⟩), .slice R p.rels.length rc, .int .i64 p.rels.length, .int .i64 (k : Nat), u21, u22, u23, u24, u25, u26, u27, u28, u29, u30, undef, undef, undef, undef, undef, undef, u37, undef, undef], defers := mks Ds } ∧ k ≤ p.rels.length ∧ SyL w1 ((p.rels.take k).flatMap symW) Ds W)
    (fun a _ => p.rels.length - (intOf (a.tmps.getD 20 undef)).toNat) ⟨0, [], _, _, _, _, _, _, _, _, _, _, _, _, _, _, rfl, by omega, HL0.out⟩ ?_
  rintro a W ⟨k, Ds, u7, u8, u9, u21, u22, u23, u24, u25, u26, u27, u28, u29, u30, u37, rfl, hk, hL⟩
  by_cases hlt : k < p.rels.length
  · have hb1w : Below w.heap.size w W := HB1.out.trans (hL.below.mono (by have := HW01.out; omega))
    obtain ⟨b, o, rfl, hc, hlr⟩ := (HR.out.below hb1w) k hlt
    have hrw := HW.out _ (List.getElem_mem hlt)
    have hr200 := HR2.out _ (List.getElem_mem hlt)
    have hCY := Cyclic_yes ⟨(p.rels[k]).toArray⟩ W (HT.out.on hb1w) hrw (by rw [size_mk]; omega)
    have hcw : isW (coreW (red p.rels[k])) = true := isW_core (isW_red hrw)
    have hcl : (coreW (red p.rels[k])).length ≤ 200 := by have := coreW_len (red p.rels[k]); have := red_len p.rels[k]; omega
    have hacc : ((p.rels.take k).flatMap symW).length ≤ 24000 := by
      have h := acc_len (p.rels.take k) (fun r hr => HR2.out r (List.mem_of_mem_take hr))
      rw [List.length_take] at h
      omega
    have HACC1 : Hid ((p.rels.take (k + 1)).flatMap symW = (p.rels.take k).flatMap symW ++ (rotsL (coreW (red p.rels[k]))).flatMap (fun x => [x, invW x])) := Lib.hid (by
      rw [List.take_add_one, List.getElem?_eq_getElem hlt, List.flatMap_append]
      simp [symW])
    generalize (p.rels.take k).flatMap symW = acc at *
    rw [data_mk] at hCY
    generalize coreW (red p.rels[k]) = core at *
    generalize conjW (red p.rels[k]) = conj at *
    have HCY := Lib.hid hCY
    have HL := Lib.hid hL
    have HBW := Lib.hid hb1w
    clear hCY hL hb1w hlr
    gi_wp2_with fail
    refine ⟨trivial, ?_⟩
    gi_at_call 73
    refine (callsIn_wide.2 HCY.out).mono ?_
    rintro e w2 ⟨rfl, hb2⟩
    have hL2 := HL.out.on hb2
    have HB2 := Lib.hid (HBW.out.trans (hb2.mono HBW.out.size))
    clear hb2
    gi_wp2_with fail
    refine ⟨trivial, ?_⟩
    gi_at_call 74
    refine (callsIn_wide.2 (rotations_any ⟨core.toArray⟩ w2)).mono ?_
    rintro e w3 ⟨rfl, rfl⟩
    have hba := (Below.refl _ w2).alloc (Nat.le_refl _) (.cells #[.string ⟨core.toArray⟩] 9)
    have hcell := (Boxed.new w2 9 (.string ⟨core.toArray⟩)).cell
    have hL3 := hL2.on hba
    have hs3 : (w2.alloc (.cells #[.string ⟨core.toArray⟩] 9)).heap.size = w2.heap.size + 1 := by simp
    have hs2 := hL2.size
    have HDL : Hid (∀ D ∈ Ds, D < w2.heap.size) := Lib.hid (fun D hD => (Array.getElem?_eq_some_iff.1 (hL2.marks D hD).2).1)
    have HB3 := Lib.hid (HB2.out.trans (hba.mono HB2.out.size))
    have HL3 := Lib.hid hL3
    clear hba hL2 hL3
    gi_wp2_with fail
    generalize hW0 : w2.alloc (.cells #[.string ⟨core.toArray⟩] 9) = W0 at *
    clear hW0
    refine wpIn_range_q (P := Tryz.prog) rfl (by decide) (gf := 126) (lb := #[.pointer (some ⟨w2.heap.size, 0, none⟩)]) rfl trivial (enters_of Tryz.func126 (by kernel_rfl) rfl)
      (rot_q 7 (by decide) ⟨core.toArray⟩ (by rw [size_mk]; omega) w2.heap.size W0 hcell)
      (fun h k => Eq.trans k h) (fun X l o o' hl _ _ _ => cell_putObj_other X l o' _ (by simp; omega)) (Below.refl _ _) (fun _ => rfl)
      (fun pre X => SyL w1 (acc ++ pre.flatMap (fun x => [x, invW x])) Ds X ∧ W0.heap.size ≤ X.heap.size) (SyL.own2 acc _ (by omega) (fun D hD => by have := HDL.out D hD; omega)) ⟨by simpa using HL3.out, Nat.le_refl _⟩
      (fun x => { tmps := #[prV p.k (some ⟨b, o, none⟩) p.rels.length rc, .pointer (some ⟨w.heap.size, 0, none⟩), .slice none 0 0, .int .i64 0, .int .i64 0, .pointer (some ⟨w1.heap.size + 1, 0, none⟩), undef, .string ⟨(p.rels[k]).toArray⟩, .string ⟨core.toArray⟩, .string ⟨conj.toArray⟩, .string ⟨x.toArray⟩, .agg #[.int .i64 p.k, .slice (some ⟨b, o, none⟩) p.rels.length rc], .int .i64 0, .int .i64 0, .bool false, undef, .map (some w1.heap.size), .pointer (some ⟨w.heap.size, 1, none⟩), .slice (some ⟨b, o, none⟩) p.rels.length rc, .int .i64 p.rels.length, .int .i64 (k : Nat), .bool true, .pointer (some ⟨b, o + k, none⟩), .string ⟨(p.rels[k]).toArray⟩, .tuple #[.string ⟨core.toArray⟩, .string ⟨conj.toArray⟩], .string ⟨(p.rels[k]).toArray⟩, .tuple #[.string ⟨core.toArray⟩, .string ⟨conj.toArray⟩], .string ⟨core.toArray⟩, .string ⟨conj.toArray⟩, .string ⟨core.toArray⟩, .func (.func 126) #[] #[.pointer (some ⟨w2.heap.size, 0, none⟩)], .string ⟨x.toArray⟩, undef, undef, undef, undef, undef, u37, undef, undef], defers := [] })
      ?hassign ?hbody ?hdone
    case hassign =>
      intro l' x W K hK
      have HK := Lib.hid hK
      clear hK
      unfold strA
      gi_wp2
      exact HK.out
    case hbody =>
      rintro l' pre x post X hx ⟨hI, hXs⟩
      have hI' : SyL w1 (acc ++ pre.flatMap (fun x => [x, invW x])) Ds X := hI
      rw [data_mk] at hx
      have hmem : x ∈ rotsL core := by rw [hx]; simp
      have hxw := rotsL_word hcw x hmem
      have hxl : x.length = core.length := by obtain ⟨k, _, rfl⟩ := List.mem_map.1 hmem; exact rot_len _ _
      have hpl : pre.length ≤ 200 := by have h := congrArg List.length hx; rw [rotsL_len] at h; simp at h; omega
      have hfl := flat2_len pre
      obtain ⟨X1, hrun1, hS1, hg1⟩ := hI'.put x (by omega) (by rw [List.length_append]; omega)
      have hS1 : SyL w1 (acc ++ pre.flatMap (fun x => [x, invW x]) ++ [x]) Ds X1.drew := hS1.on ((Below.refl _ X1).drewN 1)
      have hb1 : Below w.heap.size w X1.drew := HB1.out.trans (hS1.below.mono (by have := HW01.out; omega))
      have HINV := Lib.hid (Inverse_yes ⟨x.toArray⟩ X1.drew (HT.out.on hb1) hxw (by rw [size_mk]; omega))
      have HFIN : Hid (∀ wI, Below X1.drew.heap.size X1.drew wI → wI.cell? ⟨w1.heap.size + 1, 0, none⟩ = some (.map (some w1.heap.size)) ∧ ∃ wZ, (Instr.mapUpdate 107 (.map (some w1.heap.size)) (.string ⟨(invW x).toArray⟩) (.bool true)).run Tryz.prog wI = .ok () wZ ∧ (KeepsFrom W0.heap.size X wZ ∧ KpO w2.heap.size X wZ ∧ SyL w1 (acc ++ (pre ++ [x]).flatMap (fun x => [x, invW x])) Ds wZ ∧ W0.heap.size ≤ wZ.heap.size)) := Lib.hid (fun wI hbI => by
        have hSI := hS1.on hbI
        obtain ⟨wZ, hrun2, hS2, hg2⟩ := hSI.put (invW x) (by rw [invW_len]; omega) (by simp [hfl]; omega)
        have hz1 : X.heap.size ≤ X1.drew.heap.size := hg1.size
        have hz2 := hbI.size
        have hz3 := hg2.size
        refine ⟨hSI.box.cell, wZ, hrun2, ⟨by omega, fun k o hk ho hc => ?_⟩, ?_, ?_, by omega⟩
        · have hlt := (Array.getElem?_eq_some_iff.1 ho).1
          exact (((hg2.block k (by omega) (fun e => by have := Option.some.inj e; omega)).trans (hbI.block k (by omega))).trans (hg1.block k hlt (fun e => by have := Option.some.inj e; omega))).trans ho
        · exact cell_blk (((hg2.block w2.heap.size (by omega) (fun e => by have := Option.some.inj e; omega)).trans (hbI.block _ (by omega))).trans (hg1.block _ (by omega) (fun e => by have := Option.some.inj e; omega))) 0
        · have e : acc ++ (pre ++ [x]).flatMap (fun x => [x, invW x]) = (acc ++ pre.flatMap (fun x => [x, invW x])) ++ [x] ++ [invW x] := by simp [List.flatMap_append]
          rw [e]; exact hS2)
      have cV := hI'.box.cell
      have c1 := hS1.box.cell
      have HB1X := Lib.hid hS1
      clear hI hI' hb1 hS1 hg1
      gi_wp2
      refine wpIn_region_any (by kernel_rfl) ?_
      change wpAnyIn _ _ _ _ _ _ _ _ _ X1.drew
      refine wpAnyIn_ready (rs := [0, 1]) (by kernel_rfl) (by simp) ?_
      refine AllReadyIn.cons rfl (fun K hK => ?_) (AllReadyIn.cons rfl (fun K hK => ?_) (AllReadyIn.nil))
      · go_simp
        refine hK _ _ ?_
        clear hK K
        refine wpAnyIn_ready (rs := [1]) (by kernel_rfl) (by simp) ?_
        refine AllReadyIn.cons rfl (fun K hK => ?_) (AllReadyIn.nil)
        · go_simp
          refine hK _ _ ?_
          clear hK K
          refine wpAnyIn_ready (rs := [2]) (by kernel_rfl) (by simp) ?_
          refine AllReadyIn.cons rfl (fun K hK => ?_) (AllReadyIn.nil)
          · go_simp
            gi_wp2_with fail
            refine ⟨trivial, ?_⟩
            gi_at_call 75
            refine (CallsIn.inRound _ (callsIn_wide.2 HINV.out)).mono ?_
            rintro e wI ⟨rfl, hbI⟩
            obtain ⟨c2I, wZ, hrunZ, hz⟩ := HFIN.out wI hbI
            have HZ := Lib.hid hz
            clear hbI hz
            refine hK _ _ ?_
            clear hK K
            refine wpAnyIn_ready (rs := [3]) (by kernel_rfl) (by simp) ?_
            refine AllReadyIn.cons rfl (fun K hK => ?_) (AllReadyIn.nil)
            · go_simp
              refine hK _ _ ?_
              clear hK K
              refine wpAnyIn_done (by kernel_rfl) ?_ _
              exact HZ.out
      · go_simp
        refine hK _ _ ?_
        clear hK K
        refine wpAnyIn_ready (rs := [0, 2]) (by kernel_rfl) (by simp) ?_
        refine AllReadyIn.cons rfl (fun K hK => ?_) (AllReadyIn.cons rfl (fun K hK => ?_) (AllReadyIn.nil))
        · go_simp
          refine hK _ _ ?_
          clear hK K
          refine wpAnyIn_ready (rs := [2]) (by kernel_rfl) (by simp) ?_
          refine AllReadyIn.cons rfl (fun K hK => ?_) (AllReadyIn.nil)
          · go_simp
            gi_wp2_with fail
            refine ⟨trivial, ?_⟩
            gi_at_call 75
            refine (CallsIn.inRound _ (callsIn_wide.2 HINV.out)).mono ?_
            rintro e wI ⟨rfl, hbI⟩
            obtain ⟨c2I, wZ, hrunZ, hz⟩ := HFIN.out wI hbI
            have HZ := Lib.hid hz
            clear hbI hz
            refine hK _ _ ?_
            clear hK K
            refine wpAnyIn_ready (rs := [3]) (by kernel_rfl) (by simp) ?_
            refine AllReadyIn.cons rfl (fun K hK => ?_) (AllReadyIn.nil)
            · go_simp
              refine hK _ _ ?_
              clear hK K
              refine wpAnyIn_done (by kernel_rfl) ?_ _
              exact HZ.out
        · go_simp
          gi_wp2_with fail
          refine ⟨trivial, ?_⟩
          gi_at_call 75
          refine (CallsIn.inRound _ (callsIn_wide.2 HINV.out)).mono ?_
          rintro e wI ⟨rfl, hbI⟩
          obtain ⟨c2I, wZ, hrunZ, hz⟩ := HFIN.out wI hbI
          have HZ := Lib.hid hz
          clear hbI hz
          refine hK _ _ ?_
          clear hK K
          refine wpAnyIn_ready (rs := [0]) (by kernel_rfl) (by simp) ?_
          refine AllReadyIn.cons rfl (fun K hK => ?_) (AllReadyIn.nil)
          · go_simp
            refine hK _ _ ?_
            clear hK K
            refine wpAnyIn_ready (rs := [3]) (by kernel_rfl) (by simp) ?_
            refine AllReadyIn.cons rfl (fun K hK => ?_) (AllReadyIn.nil)
            · go_simp
              refine hK _ _ ?_
              clear hK K
              refine wpAnyIn_done (by kernel_rfl) ?_ _
              exact HZ.out
    case hdone =>
      rintro D X hD ⟨hI, hXs⟩ hK
      have hnew : ∀ D' ∈ Ds, D' ≠ D := fun D' hD' => by have := HDL.out D' hD'; omega
      have hS : SyL w1 ((p.rels.take (k + 1)).flatMap symW) (D :: Ds) X := by
        rw [HACC1.out]
        rw [data_mk] at hI
        exact ⟨hI.map, hI.box, hI.below, hI.size, List.nodup_cons.2 ⟨fun h => hnew D h rfl, hI.nd⟩, fun D' hD' => (List.mem_cons.1 hD').elim (fun e => by subst e; exact ⟨by omega, hK⟩) (fun h => hI.marks D' h)⟩
      have HS := Lib.hid hS
      clear hS hI hK
      gi_wp2_with fail
      exact ⟨⟨k + 1, D :: Ds, _, _, _, _, _, _, _, _, _, _, _, _, _, _, rfl, by omega, HS.out⟩, by simp [intOf]; omega⟩
  · have he : k = p.rels.length := by omega
    subst he
    rw [List.take_length] at hL
    have hacc : (p.rels.flatMap symW).length ≤ 24000 := by
      have h := acc_len p.rels HR2.out
      omega
    have hbw : Below w.heap.size w W := HB1.out.trans (hL.below.mono (by have := HW01.out; omega))
    have HAS := Lib.hid (ascending_any w1.heap.size _ (setD (p.rels.flatMap symW)) (p.rels.flatMap symW) W (HT.out.on hbw) hL.map (by omega) (setD_has _) (fun x hx => by
      obtain ⟨r, hr, hx⟩ := List.mem_flatMap.1 hx
      exact symW_word (HW.out r hr) x hx))
    have cV := hL.box.cell
    have HL := Lib.hid hL
    have HBW := Lib.hid hbw
    clear hL hbw
    gi_wp2_with fail
    refine ⟨trivial, ?_⟩
    gi_at_call 72
    refine (callsIn_wide.2 HAS.out).mono ?_
    rintro e w4 ⟨A, cap, rfl, hst, _, hb4⟩
    have hmk : ∀ D ∈ Ds, w4.heap[D]? = some (.deferred (some [])) := fun D hD => (hb4.block D (Array.getElem?_eq_some_iff.1 (HL.out.marks D hD).2).1).trans (HL.out.marks D hD).2
    have hge : ∀ D ∈ Ds, w.heap.size ≤ D := fun D hD => by have := (HL.out.marks D hD).1; have := HW01.out; omega
    have HST := Lib.hid hst
    have HMK := Lib.hid hmk
    have HB4 := Lib.hid (HBW.out.trans (hb4.mono HBW.out.size))
    clear hst hmk hb4
    gi_wp2_with fail
    refine leaves_marks (fun X => StrsAt X A (ascA (p.rels.flatMap symW)) ∧ Below w.heap.size w X) w.heap.size (fun X D hD h hd => ⟨h.1.putD hd _, h.2.trans (belowK_b (w := w) (Nat.le_refl _) X D _ _ hD hd rfl rfl)⟩) (fun X h => ⟨_, results_tmp2 rfl _ _ _, A, cap, rfl, h.1, h.2⟩) Ds _ HL.out.nd (fun D hD => ⟨hge D hD, HMK.out D hD⟩) ⟨HST.out, HB4.out⟩

set_option maxHeartbeats 4000000 in
set_option maxRecDepth 100000 in
theorem Symmetrized_bad (p : Pr) (R : Option Addr) (rc : Nat) (w : World) (ht : Tabs w) (hr : StrsAt w R p.rels) (hm : p.rels.length ≤ maxLen) (hck : chkP p ≠ 0) :
    CallsIn Fence.wide 8 Tryz.prog 26 #[prV p.k R p.rels.length rc] w fun e w' => e = .returned (.tuple #[.slice none 0 0, .int .i64 (chkP p)]) ∧ Below w.heap.size w w' := by
  have hb0 : Below w.heap.size w (w.alloc (.cells (prC p.k R p.rels.length rc) 24)) := (Below.refl _ w).alloc (Nat.le_refl _) _
  have h1 : (w.alloc (.cells (prC p.k R p.rels.length rc) 24)).heap[w.heap.size]? = some (.cells (prC p.k R p.rels.length rc) 24 (0, 0)) := heap_alloc_new w _
  have HC := Lib.hid (Check_any p R rc _ (ht.on hb0) (hr.below hb0) hm)
  obtain ⟨g0, g1, _, _⟩ := blk2 h1
  have HB0 := Lib.hid hb0
  clear ht hr hb0 h1
  generalize chkP p = e0 at *
  refine callsIn_of_wp_marks Tryz.func26 rfl trivial ?_ rfl
  simp only [Tryz.ntmps26, List.size_toArray, List.length_cons, List.length_nil, Nat.reduceAdd, Nat.reduceSub, Array.replicate_succ, Array.replicate_zero, List.push_toArray, List.append_toArray, List.nil_append, List.cons_append]
  gi_wp2_with fail
  refine ⟨trivial, ?_⟩
  gi_at_call 18
  refine (callsIn_wide.2 HC.out).mono ?_
  rintro e w1 ⟨rfl, hb1⟩
  have HB1 := Lib.hid hb1
  clear hb1
  gi_wp2_with fail
  exact ⟨_, results_tmp2 rfl _ _ _, rfl, HB0.out.trans (HB1.out.mono (by simp))⟩
end Go.Proofs.YteephomlnbbjeaaGreatDoor

namespace Go.Proofs.YteephomlnbbjeaaGreatDoor
open Go Go.RowKit Go.Maps Go.Sort Go.Shelf

theorem eq_step {α : Type} {l v : List α} {k : Nat} (hk : k < l.length) (hk2 : k < v.length) (h : l.take k = v.take k) (he : l[k] = v[k]) : l.take (k + 1) = v.take (k + 1) := by
  rw [List.take_succ_eq_append_getElem hk, List.take_succ_eq_append_getElem hk2, h, he]
theorem ba_ne {l m : List UInt8} (h : l ≠ m) : (⟨l.toArray⟩ : ByteArray) ≠ ⟨m.toArray⟩ := fun e => h (by
  have := congrArg (fun b : ByteArray => b.data.toList) e
  simpa using this)

set_option maxHeartbeats 2000000 in
set_option maxRecDepth 100000 in
theorem EqS_any (A B : Option Addr) (ca cb : Nat) (l v : List (List UInt8)) (w : World) (hA : StrsAt w A l) (hB : StrsAt w B v) (hl : l.length ≤ 1000000) (hv : v.length ≤ 1000000) :
    Calls Tryz.prog 28 #[.slice A l.length ca, .slice B v.length cb] w fun e w' => e = .returned (.bool (decide (l = v))) ∧ Below w.heap.size w w' := by
  by_cases hlen : l.length = v.length
  · have HA := Lib.hid hA
    have HB := Lib.hid hB
    have HV : Hid (l.length = v.length) := Lib.hid hlen
    clear hA hB
    rw [← hlen]
    clear hlen hv
    go_enter Tryz.func28, Tryz.ntmps28
    go_wp2
    go_loopw [5, 13] (fun _ i wr => ∃ k : Nat, k ≤ l.length ∧ i = .int .i64 (k : Int) ∧ l.take k = v.take k ∧ Below w.heap.size w wr)
      (fun _ i _ => l.length - (intOf i).toNat)
    case atStart => exact ⟨0, Nat.zero_le _, rfl, rfl, Below.refl _ _⟩
    case round =>
      obtain ⟨k, hk, rfl, ht, hb⟩ := hrel
      by_cases hlt : k < l.length
      · have hlt2 : k < v.length := by have := HV.out; omega
        obtain ⟨b, o, rfl, hc, _⟩ := (HA.out.below hb) k hlt
        obtain ⟨b2, o2, rfl, hc2, _⟩ := (HB.out.below hb) k hlt2
        have HT := Lib.hid ht
        have HBW := Lib.hid hb
        clear ht hb
        by_cases he : l[k] = v[k]
        · have HE := Lib.hid (eq_step hlt hlt2 HT.out he)
          rw [← he] at hc2
          clear he
          generalize l[k] = x at *
          go_wp2
          go_region
          all_goals go_wp2
          all_goals exact ⟨⟨k + 1, by omega, by go_num, HE.out, HBW.out.drew⟩, by simp [intOf]; omega⟩
        · have HN : Hid (decide (l = v) = false) := Lib.hid (by simp; intro e; subst e; exact he rfl)
          have hne : (l[k] == v[k]) = false := by simpa using he
          clear he
          generalize l[k] = x at *
          generalize v[k] = y at *
          go_wp2
          go_region
          all_goals (
            go_wp2
            go_ret
            exact ⟨by rw [HN.out]; rfl, HBW.out.drew⟩)
      · obtain rfl : k = l.length := by omega
        have HE : Hid (decide (l = v) = true) := Lib.hid (by
          rw [List.take_length, HV.out, List.take_length] at ht
          simpa using ht)
        go_wp2
        go_ret
        exact ⟨by rw [HE.out]; rfl, hb⟩
  · have HN : Hid (decide (l = v) = false) := Lib.hid (by simp; intro e; exact hlen (by rw [e]))
    have hlen2 : (l.length : Int) ≠ (v.length : Int) := by omega
    clear hA hB hlen
    go_enter Tryz.func28, Tryz.ntmps28
    go_wp2
    go_ret
    exact ⟨by rw [HN.out]; rfl, Below.refl _ _⟩
set_option maxHeartbeats 2000000 in
set_option maxRecDepth 100000 in
theorem EqW_any (A B : Option Addr) (ca cb : Nat) (l v : List (List UInt8)) (w : World) (hA : StrsAt w A l) (hB : StrsAt w B v) (hl : l.length ≤ 1000000) (hv : v.length ≤ 1000000) :
    Calls Tryz.prog 63 #[.slice A l.length ca, .slice B v.length cb] w fun e w' => e = .returned (.bool (decide (l = v))) ∧ Below w.heap.size w w' := by
  by_cases hlen : l.length = v.length
  · have HA := Lib.hid hA
    have HB := Lib.hid hB
    have HV : Hid (l.length = v.length) := Lib.hid hlen
    clear hA hB
    rw [← hlen]
    clear hlen hv
    go_enter Tryz.func63, Tryz.ntmps63
    go_wp2
    go_loopw [5] (fun i wr => ∃ k : Nat, k ≤ l.length ∧ i = .int .i64 (k : Int) ∧ l.take k = v.take k ∧ Below w.heap.size w wr)
      (fun i _ => l.length - (intOf i).toNat)
    case atStart => exact ⟨0, Nat.zero_le _, rfl, rfl, Below.refl _ _⟩
    case round =>
      obtain ⟨k, hk, rfl, ht, hb⟩ := hrel
      by_cases hlt : k < l.length
      · have hlt2 : k < v.length := by have := HV.out; omega
        obtain ⟨b, o, rfl, hc, _⟩ := (HA.out.below hb) k hlt
        obtain ⟨b2, o2, rfl, hc2, _⟩ := (HB.out.below hb) k hlt2
        have HT := Lib.hid ht
        have HBW := Lib.hid hb
        clear ht hb
        by_cases he : l[k] = v[k]
        · have HE := Lib.hid (eq_step hlt hlt2 HT.out he)
          rw [← he] at hc2
          clear he
          generalize l[k] = x at *
          go_wp2
          go_region
          all_goals go_wp2
          all_goals exact ⟨⟨k + 1, by omega, by go_num, HE.out, HBW.out.drew⟩, by simp [intOf]; omega⟩
        · have HN : Hid (decide (l = v) = false) := Lib.hid (by simp; intro e; subst e; exact he rfl)
          have hne : (l[k] == v[k]) = false := by simpa using he
          clear he
          generalize l[k] = x at *
          generalize v[k] = y at *
          go_wp2
          go_region
          all_goals (
            go_wp2
            go_ret
            exact ⟨by rw [HN.out]; rfl, HBW.out.drew⟩)
      · obtain rfl : k = l.length := by omega
        have HE : Hid (decide (l = v) = true) := Lib.hid (by
          rw [List.take_length, HV.out, List.take_length] at ht
          simpa using ht)
        go_wp2
        go_ret
        exact ⟨by rw [HE.out]; rfl, hb⟩
  · have HN : Hid (decide (l = v) = false) := Lib.hid (by simp; intro e; exact hlen (by rw [e]))
    have hlen2 : (l.length : Int) ≠ (v.length : Int) := by omega
    clear hA hB hlen
    go_enter Tryz.func63, Tryz.ntmps63
    go_wp2
    go_ret
    exact ⟨by rw [HN.out]; rfl, Below.refl _ _⟩
end Go.Proofs.YteephomlnbbjeaaGreatDoor
