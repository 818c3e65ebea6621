/-
  Our own text, in the proofs of the laws of package pres (cayleylaw03). Proved here: slices.Clone of strings; letters and withRelator of package pres; letters of package pres; newAddRel of package pres; slices.Delete of strings; newDropRel of package pres. Conditions: the arguments lie in memory as the slices say; bounds; the listed tables lie as the program lays them.
-/
import Derived.Test.YteephomlnbbjeaaGreatDoorJg
import Derived.Laws.Runes
import Derived.Deep.RegionHeld3
import Derived.Deep.DeepCutAuto
set_option linter.unusedVariables false
set_option linter.unusedSimpArgs false
set_option linter.unusedSectionVars false
namespace Go.Proofs.YteephomlnbbjeaaGreatDoor
open Go Go.RowKit

theorem strs_cells {w : World} {ad : Addr} {l : List (List UInt8)} (h : StrsAt w (some ad) l) : ∀ j u, (ss l)[j]? = some u → w.cell? (ad.add j) = some u := by
  intro j u hu
  have hj : j < l.length := by
    rcases Nat.lt_or_ge j (ss l).length with h | h
    · simpa [ss_len] using h
    · rw [List.getElem?_eq_none h] at hu; cases hu
  obtain ⟨b, o, he, hc, _⟩ := h j hj
  simp only [Option.some.injEq] at he
  subst he
  rw [add_lit, hc, ← hu, ss_get _ _ hj]
theorem ss_one (l : List (List UInt8)) : ∀ u ∈ ss l, u.oneCell' = true := by
  intro u hu; simp [ss] at hu; obtain ⟨x, _, rfl⟩ := hu; rfl

/-- append(x, y...), strings. -/
theorem append_strs {ops : Array Oper} {rest : List Oper} {o : Oper} {a : Act} {Q : Exit → Act → World → Prop} (w : World) (hgd : o.guard = none) (s x : Operand)
    (ho : o.op = .call { callee := .builtin .append, args := #[s, x], argTypes := #[22, 22] })
    (B : Nat) (A : Option Addr) (n cap : Nat) (l m : List (List UInt8)) (hs : a.eval s = .slice A n cap) (hown : w.ownsRow B 9 1 (.slice A n cap) n (ss l))
    (ad : Addr) (mm c : Nat) (hmm : mm = m.length) (hx : a.eval x = .slice (some ad) mm c) (hm : StrsAt w (some ad) m) (hn : n + mm ≤ 1000000000) (hB : B ≤ w.heap.size)
    (h : ∀ A' cap' w', w'.ownsRow B 9 1 (.slice A' (n + mm) cap') (n + mm) (ss (l ++ m)) → w.grownBy w' (blk A) → Moved w A A' → wpList Tryz.prog ops Q rest (a.put o.dst (.slice A' (n + mm) cap')) w') :
    wpList Tryz.prog ops Q (o :: rest) a w := by
  subst hmm
  obtain ⟨i0, hi, hz0, hz1, hz2⟩ := info_parts Tryz.info9
  refine append_gen _ hgd s x 22 ho 9 i0 (.string ⟨#[]⟩) 1 16 Tryz.underlying22 hi hz0 hz1 hz2 rfl (by decide) B A n cap (ss l) hs hown ad m.length c (ss m) hx (by simp [ss_len]) (strs_cells hm) (ss_one m) (by unfold maxLen; omega) (by omega) hB ?_
  intro A' cap' w' hown' hgrow hm
  exact h A' cap' w' (by rw [ss_append]; exact hown') hgrow hm

theorem strsOne (w : World) (u : List UInt8) (h : u.length ≤ 140737488351232) : StrsAt (w.alloc (.cells #[.string ⟨u.toArray⟩] 9)) (some ⟨w.heap.size, 0, none⟩) [u] := by
  intro j hj
  obtain rfl : j = 0 := by simpa using hj
  refine ⟨w.heap.size, 0, rfl, ?_, h⟩
  rw [Nat.zero_add]
  exact (HasCells.new w #[.string ⟨u.toArray⟩] 9).cell 0

set_option maxHeartbeats 1000000 in
set_option maxRecDepth 100000 in
theorem CloneS_any (A : Option Addr) (cap : Nat) (l : List (List UInt8)) (w : World) (hl : StrsAt w A l) (hA : A = none → l = []) (hn : l.length ≤ 1000000) :
    Calls Tryz.prog 41 #[.slice A l.length cap] w (StrsP w.heap.size w l) := by
  have he : ∀ wx, (binOp .eql 22 (.slice A l.length cap) (.slice none 0 0)).run Tryz.prog wx = .ok (.bool A.isNone) wx := fun wx => Lib.run_eql_slice_nil wx 22 9 A _ _ _ _ Tryz.underlying22
  cases A with
  | none =>
    obtain rfl := hA rfl
    have he2 : ∀ wx, (binOp .eql 22 (.slice none 0 cap) (.slice none 0 0)).run Tryz.prog wx = .ok (.bool true) wx := fun wx => Lib.run_eql_slice_nil wx 22 9 none _ _ _ _ Tryz.underlying22
    show Calls Tryz.prog 41 #[.slice none 0 cap] w (StrsP w.heap.size w [])
    clear hl hA he hn
    go_enter Tryz.func41, Tryz.ntmps41
    go_wp2
    go_ret
    exact ⟨none, 0, rfl, World.ownsRow_nil _ _ _ _, Below.refl _ _⟩
  | some ad =>
    have HL := Lib.hid hl
    have HO := Lib.hid (own_empty w w.heap.size 9 1 (Nat.le_refl _))
    have HB : Hid (Below w.heap.size w (w.alloc (.cells #[] 9))) := Lib.hid ((Below.refl _ _).alloc (Nat.le_refl _) _)
    clear hl hA
    go_enter Tryz.func41, Tryz.ntmps41
    go_wp2_with (at_builtin; refine append_strs (w.alloc (.cells #[] 9)) rfl (.tmp 5) (.tmp 6) rfl w.heap.size (some ⟨w.heap.size, 0, none⟩) 0 0 [] l rfl HO.out ad l.length cap rfl rfl (HL.out.below HB.out) (by omega) (by simp) ?_; intro A' cap' w1 hown1 hg1 hm1)
    have H1 := Lib.hid hown1
    have B1 := Lib.hid (below_of_grown HB.out hg1 (by simp) (fun a ha => by cases ha; exact Nat.le_refl _))
    clear hown1 hg1 hm1
    go_wp2
    go_ret
    have h1 := H1.out
    simp only [Nat.zero_add, List.nil_append] at h1
    exact ⟨A', cap', by simp, h1, B1.out⟩

/-- A presentation that a call hands back. -/
def PresQ (w : World) (k : Int) (l : List (List UInt8)) (e : Ending) (w' : World) : Prop :=
  ∃ A cap, e = .returned (prV k A l.length cap) ∧ StrsAt w' A l ∧ (A = none → l = []) ∧ Below w.heap.size w w'

theorem own_none {w : World} {B e s n cap : Nat} {xs : List Value} (h : w.ownsRow B e s (.slice none n cap) n xs) : n = 0 := by
  rcases own_shape h with ⟨_, h, _⟩ | ⟨g, h, _⟩
  · exact h
  · cases h

theorem blk2 {w : World} {g : Nat} {v0 v1 : Value} {t : TypeId} (h : w.heap[g]? = some (.cells #[v0, v1] t (0, 0))) :
    w.cell? ⟨g, 0, none⟩ = some v0 ∧ w.cell? ⟨g, 1, none⟩ = some v1 ∧ w.frozen? ⟨g, 0, none⟩ = false ∧ w.frozen? ⟨g, 1, none⟩ = false := by
  refine ⟨?_, ?_, ?_, ?_⟩
  · rw [cell_of_row w g 0 _ t (0, 0) h]; rfl
  · rw [cell_of_row w g 1 _ t (0, 0) h]; rfl
  · simp [World.frozen?, h]
  · simp [World.frozen?, h]
theorem blk_ne {w : World} {B e s n cap g : Nat} {A : Option Addr} {xs : List Value} (h : w.ownsRow B e s (.slice A n cap) n xs) (hg : g < B) : blk A ≠ some g := fun e => by
  cases A with
  | none => cases e
  | some a => have := own_ge h a rfl; simp only [blk, Option.map_some, Option.some.injEq] at e; omega
theorem grown_setCell (W : World) (a : Addr) (v : Value) : W.grownBy (W.setCell a v) (some a.block) := by
  refine ⟨rfl, rfl, rfl, ?_, fun k hk hne => ?_⟩
  · simp [World.setCell]
  · simp only [World.setCell, Array.getElem?_modify]
    rw [if_neg (fun e => hne (by rw [e]))]
theorem own_set {w : World} {B e s n cap : Nat} {A : Option Addr} {xs : List Value} (h : w.ownsRow B e s (.slice A n cap) n xs) (a : Addr) (v : Value) (ha : a.block < B) : (w.setCell a v).ownsRow B e s (.slice A n cap) n xs :=
  h.kept (grown_setCell w a v) (.inr (by rw [ownBlock_slice]; exact blk_ne h ha))
theorem heap_on {w w' : World} {g : Nat} {o : Obj} (h : w.heap[g]? = some o) (hb : Below w.heap.size w w') : w'.heap[g]? = some o :=
  (hb.block g (Array.getElem?_eq_some_iff.1 h).1).trans h
theorem heap_grown {w w' : World} {g : Nat} {o : Obj} {row : Option Nat} (h : w.heap[g]? = some o) (hg : w.grownBy w' row) (hne : row ≠ some g) : w'.heap[g]? = some o :=
  (hg.block g (Array.getElem?_eq_some_iff.1 h).1 (fun e => hne e.symm)).trans h
set_option maxHeartbeats 1000000 in
set_option maxRecDepth 100000 in
theorem withRelator_any (k : Int) (A : Option Addr) (cap : Nat) (l : List (List UInt8)) (u : List UInt8) (w : World) (hl : StrsAt w A l) (hA : A = none → l = []) (hn : l.length ≤ 1000) (hu : u.length ≤ 140737488351232) :
    Calls Tryz.prog 163 #[.int .i64 k, .slice A l.length cap, .string ⟨u.toArray⟩] w (PresQ w k (l ++ [u])) := by
  have HBX := Lib.hid ((Below.refl w.heap.size w).alloc (Nat.le_refl _) (.cells #[.int .i64 0, .slice none 0 0] 24))
  have hC := CloneS_any A cap l _ (hl.below HBX.out) hA (by omega)
  have HSH : Hid (Short (l ++ [u])) := Lib.hid (hl.short.app (fun x hx => by simp at hx; subst hx; exact hu))
  clear hl hA
  go_enter Tryz.func163, Tryz.ntmps163
  go_wp2_with fail
  refine hC.mono ?_
  rintro e w1 ⟨A', cap', rfl, hown, hb⟩
  have HO := Lib.hid hown
  have HB := Lib.hid (HBX.out.trans (hb.mono (by simp)))
  have hsz : w.heap.size + 1 ≤ w1.heap.size := by have := hb.size; simpa using this
  have HH := Lib.hid (heap_on (heap_alloc_new w (.cells #[.int .i64 0, .slice none 0 0] 24)) hb)
  clear hown hb hC
  go_wp2_with (at_builtin; refine append_strs (w1.alloc (.cells #[.string ⟨u.toArray⟩] 9)) rfl (.tmp 9) (.tmp 11) rfl (w.heap.size + 1) A' l.length cap' l [u] rfl ((own_base HO.out (by simp)).alloc _) ⟨w1.heap.size, 0, none⟩ 1 1 rfl rfl (strsOne w1 u hu) (by omega) (by simp; omega) ?_; intro A2 cap2 w2 hown2 hg2 hm2; have HO2 := Lib.hid hown2; have HG2 := Lib.hid hg2; have HH2 := Lib.hid (heap_grown (heap_on HH.out ((Below.refl _ w1).alloc (Nat.le_refl _) _)) hg2 (blk_ne (own_base HO.out (by simp) : w1.ownsRow (w.heap.size + 1) 9 1 _ _ _) (by omega))); obtain ⟨j0, j1, f0, f1⟩ := blk2 HH2.out; clear hown2 hg2 hm2)
  have HB2 : Hid (Below w.heap.size w w2) := Lib.hid (below_of_grown (HB.out.trans (((Below.refl _ w1).alloc (Nat.le_refl _) _).mono (by omega))) HG2.out (by simp; omega) (fun a ha => by have := own_ge HO.out a ha; simp at this; omega))
  have hlt : w.heap.size < w2.heap.size := lt_of_cell j0
  have HB3 := Lib.hid ((HB2.out.setCell (p := ⟨w.heap.size, 0, none⟩) (Nat.le_refl _) (.int .i64 k)).setCell (p := ⟨w.heap.size, 1, none⟩) (Nat.le_refl _) (.slice A2 (l.length + 1) cap2))
  have e1 : ((w2.setCell ⟨w.heap.size, 0, none⟩ (.int .i64 k)).setCell ⟨w.heap.size, 1, none⟩ (.slice A2 (l.length + 1) cap2)).cell? ⟨w.heap.size, 1, none⟩ = some (.slice A2 (l.length + 1) cap2) :=
    World.cell?_setCell_same' _ _ _ (by rw [World.cell?_setCell_other _ _ _ _ (by simp), j1]; rfl)
  have e0 : ((w2.setCell ⟨w.heap.size, 0, none⟩ (.int .i64 k)).setCell ⟨w.heap.size, 1, none⟩ (.slice A2 (l.length + 1) cap2)).cell? ⟨w.heap.size, 0, none⟩ = some (.int .i64 k) := by
    rw [World.cell?_setCell_other _ _ _ _ (by simp)]; exact World.cell?_setCell_same' _ _ _ (by rw [j0]; rfl)
  have HS : Hid (StrsAt ((w2.setCell ⟨w.heap.size, 0, none⟩ (.int .i64 k)).setCell ⟨w.heap.size, 1, none⟩ (.slice A2 (l.length + 1) cap2)) A2 (l ++ [u])) := Lib.hid
    (strsAt_own (own_set (own_set HO2.out _ _ (by simp)) _ _ (by simp)) HSH.out)
  have HN : Hid (A2 = none → l ++ [u] = []) := Lib.hid (fun h => by subst h; have := own_none HO2.out; omega)
  clear j0 j1 f0 f1
  exact bodyPost_ret (v := prV k A2 (l.length + 1) cap2) (by simp [results, Tryz.results163, go_sem, e0, e1]) rfl ⟨A2, cap2, by simp, HS.out, HN.out, HB3.out⟩
end Go.Proofs.YteephomlnbbjeaaGreatDoor

namespace Go.Proofs.YteephomlnbbjeaaGreatDoor
open Go Go.RowKit

theorem letS_get (k i : Nat) (h : i < k) : (letS k)[i]'(by rw [letS_len]; exact h) = [let_ (2 * (i : Int))] := by simp [letS]
theorem ss_set (l : List (List UInt8)) (n : Nat) (u : List UInt8) : ss (l.set n u) = (ss l).set n (.string ⟨u.toArray⟩) := by simp [ss, List.map_set]
/-- The first i letters, then empty strings. -/
def letP (k i : Nat) : List (List UInt8) := (letS k).take i ++ List.replicate (k - i) []
theorem letP_len (k i : Nat) (h : i ≤ k) : (letP k i).length = k := by simp [letP, letS_len]; omega
theorem letP_set (k i : Nat) (h : i < k) : (letP k i).set i [let_ (2 * (i : Int))] = letP k (i + 1) := by
  unfold letP
  have h1 : ((letS k).take i).length = i := by simp [letS_len]; omega
  rw [List.set_append, if_neg (by omega), h1, Nat.sub_self, show k - i = (k - (i + 1)) + 1 by omega, List.replicate_succ, List.set_cons_zero, List.take_succ_eq_append_getElem (by rw [letS_len]; exact h), letS_get k i h, List.append_assoc]
  rfl
theorem letP_end (k : Nat) : letP k k = letS k := by unfold letP; rw [Nat.sub_self, List.take_of_length_le (by rw [letS_len]; exact Nat.le_refl _)]; simp
theorem letP_start (k : Nat) : letP k 0 = List.replicate k [] := by simp [letP]

theorem encode_byteP (c : UInt8) (h : c.toNat < 128) : Utf8.encode (c.toNat : Int) = ⟨#[c]⟩ := by
  have hv : Utf8.valid (c.toNat : Int) = true := by
    have : ∀ n : Nat, n < 128 → Utf8.valid (n : Int) = true := by decide
    exact this _ h
  unfold Utf8.encode
  simp [hv, h]
theorem let_small : ∀ n : Nat, n < 8 → (let_ (2 * (n : Int))).toNat < 128 := by decide +kernel
theorem conv_let (c : UInt8) (h : c.toNat < 128) (w : World) : (convert 5 9 (.int .u8 (c.toNat : Int))).run Tryz.prog w = .ok (.string ⟨#[c]⟩) w := by
  rw [run_convert_int_string w 5 9 .u8 _ (by rw [Tryz.underlying5]; rfl) Tryz.underlying9, encode_byteP c h]

set_option maxHeartbeats 1000000 in
set_option maxRecDepth 100000 in
theorem letters_any (k : Nat) (w : World) (ht : Tabs w) (hk : k ≤ 8) :
    Calls Tryz.prog 62 #[.int .i64 k] w (StrsP w.heap.size w (letS k)) := by
  obtain ⟨i0, hi, hz0, hz1, hz2⟩ := info_parts Tryz.info9
  have HT := Lib.hid ht
  clear ht
  have hpos : (0 : Int) ≤ (k : Int) := by omega
  go_enter Tryz.func62, Tryz.ntmps62
  go_wp2_with (at_make; refine wpList_make_full _ rfl _ _ 22 rfl w.heap.size 9 i0 (.string ⟨#[]⟩) 1 Tryz.underlying22 hi hz0 hz1 _ _ _ _ k rfl rfl rfl rfl ?b2 ?b3 (Nat.le_refl _) ?_)
  case b2 => rw [hz2]; omega
  case b3 => unfold maxLen; omega
  intro w0 hown0 hgrow0
  have HO0 : Hid (w0.ownsRow w.heap.size 9 1 (.slice (some ⟨w.heap.size, 0, none⟩) k k) k (ss (letP k 0))) := Lib.hid (by
    have : (madeCells #[Value.string ⟨#[]⟩] k).toList = ss (letP k 0) := by
      rw [toList_madeCells_one, letP_start]
      simp [ss]
    rw [← this]; exact hown0)
  have HB0 := Lib.hid ((Below.refl w.heap.size w).grown hgrow0 (Nat.le_refl _) (fun k h => by cases h))
  clear hown0 hgrow0 hi hz0 hz1 hz2
  go_wp2
  go_loopw [4, 9] (fun _ i wr => ∃ n : Nat, n ≤ k ∧ i = .int .i64 (n : Int) ∧ Hid (wr.ownsRow w.heap.size 9 1 (.slice (some ⟨w.heap.size, 0, none⟩) k k) k (ss (letP k n))) ∧ Hid (Below w.heap.size w wr))
    (fun _ i _ => k - (intOf i).toNat)
  case atStart => exact ⟨0, Nat.zero_le _, rfl, HO0, HB0⟩
  case round =>
    obtain ⟨n, hn, rfl, HO, HB⟩ := hrel
    by_cases hlt : n < k
    · have hc := HO.out.cellAt n (by omega)
      have hf := HO.out.frozenAt n
      have hst := HO.out.stored n (.string ⟨#[let_ (2 * (n : Int))]⟩)
      have hlen : (ss (letP k n)).length = k := by rw [ss_len, letP_len k n hn]
      rw [List.getElem?_eq_getElem (by omega)] at hc
      have HSET := Lib.hid (letP_set k n hlt)
      have hL := letter_any n wr (HT.out.on HB.out) (by omega)
      generalize (ss (letP k n))[n]'(by omega) = v0 at hc
      have HST := Lib.hid hst
      clear hst hlen
      have hcv := conv_let _ (let_small n (by omega))
      generalize let_ (2 * (n : Int)) = c at *
      go_wp2_with fail
      refine hL.mono ?_
      rintro e w1 ⟨rfl, rfl⟩
      go_wp2
      go_roundw
      case rel => exact ⟨n + 1, by omega, by go_num, Lib.hid (by rw [← HSET.out, ss_set]; exact (HST.out).1), Lib.hid (HB.out.trans (below_set (HST.out).2 w.heap.size (Nat.le_refl _) HB.out.size))⟩
      case measure => simp [intOf]; omega
    · obtain rfl : n = k := by omega
      have HO2 : Hid (wr.ownsRow w.heap.size 9 1 (.slice (some ⟨w.heap.size, 0, none⟩) n n) n (ss (letS n))) := Lib.hid (by rw [← letP_end]; exact HO.out)
      have HLL : Hid ((letS n).length = n) := Lib.hid (letS_len n)
      go_wp2
      go_ret
      exact ⟨_, n, by rw [HLL.out]; rfl, by rw [HLL.out]; exact HO2.out, HB.out⟩
end Go.Proofs.YteephomlnbbjeaaGreatDoor

namespace Go.Proofs.YteephomlnbbjeaaGreatDoor
open Go Go.RowKit

structure Tz where
  kind : Int
  rel : Int
  word : List UInt8
  proof : List Cel
abbrev tzV (t : Tz) (D : Option Addr) (dc : Nat) : Value := .agg #[.int .i64 t.kind, .int .i64 t.rel, .string ⟨t.word.toArray⟩, .slice D t.proof.length dc]
abbrev tzC (t : Tz) (D : Option Addr) (dc : Nat) : Array Value := #[.int .i64 t.kind, .int .i64 t.rel, .string ⟨t.word.toArray⟩, .slice D t.proof.length dc]

/-- A presentation and a move, boxed. -/
structure Bx2 (w : World) (cs ds : Array Value) (wr : World) : Prop where
  p : HasCells wr w.heap.size cs
  m : HasCells wr (w.heap.size + 1) ds
  below : Below w.heap.size w wr
theorem Bx2.start (w : World) (cs ds : Array Value) : Bx2 w cs ds ((w.alloc (.cells cs 24)).alloc (.cells ds 58)) :=
  ⟨(HasCells.new w cs 24).below ((Below.refl _ _).alloc (Nat.le_refl _) _), by have := HasCells.new (w.alloc (.cells cs 24)) ds 58; simpa using this, ((Below.refl _ w).alloc (Nat.le_refl _) _).alloc (by simp) _⟩
theorem Bx2.on {w : World} {cs ds : Array Value} {wr w' : World} (h : Bx2 w cs ds wr) (hb : Below wr.heap.size wr w') : Bx2 w cs ds w' :=
  ⟨h.p.below hb, h.m.below hb, h.below.trans (hb.mono h.below.size)⟩
theorem Bx2.size {w : World} {cs ds : Array Value} {wr : World} (h : Bx2 w cs ds wr) : w.heap.size + 1 < wr.heap.size := h.m.lt

/-- What stands behind an interface value of type change. -/
inductive Chg where
  | addRel (q : Pr)
  | dropRel (q : Pr) (rel : Int) (proof : List Cel)
  | addGen (q : Pr) (word : List UInt8)
  | dropGen (q : Pr) (fwd : List (List UInt8)) (places : List Int)
def PresAt (w : World) (q : Pr) (A : Option Addr) : Prop := StrsAt w A q.rels ∧ (A = none → q.rels = [])
def IntsAt (w : World) (A : Option Addr) (l : List Int) : Prop :=
  ∀ i (h : i < l.length), ∃ b o, A = some ⟨b, o, none⟩ ∧ w.cell? ⟨b, o + i, none⟩ = some (.int .i64 l[i])
def ChgAt (w : World) : Chg → Value → Prop
  | .addRel q, v => ∃ A cap, PresAt w q A ∧ v = .iface 177 (.agg #[.int .i64 q.k, .slice A q.rels.length cap])
  | .dropRel q r d, v => ∃ A cap D dc, PresAt w q A ∧ CellsAt w D d ∧ (D = none → d = []) ∧ v = .iface 130 (.agg #[.int .i64 q.k, .slice A q.rels.length cap, .int .i64 r, .slice D d.length dc])
  | .addGen q x, v => ∃ A cap, PresAt w q A ∧ x.length ≤ 140737488351232 ∧ v = .iface 180 (.agg #[.int .i64 q.k, .slice A q.rels.length cap, .string ⟨x.toArray⟩])
  | .dropGen q f pl, v => ∃ A cap F fc L lc, PresAt w q A ∧ StrsAt w F f ∧ (F = none → f = []) ∧ IntsAt w L pl ∧ v = .iface 133 (.agg #[.int .i64 q.k, .slice A q.rels.length cap, .slice F f.length fc, .slice L pl.length lc])
/-- What newChange and its kin hand back. -/
def ChgP (w : World) (E : Int) (C : Option Chg) (e : Ending) (w' : World) : Prop :=
  ∃ v, e = .returned (.tuple #[v, .int .i64 E]) ∧ (match C with | none => v = .nilIface | some c => ChgAt w' c v) ∧ Below w.heap.size w w'
theorem ChgP.no {w w' : World} {E : Int} (hb : Below w.heap.size w w') : ChgP w E none (.returned (.tuple #[.nilIface, .int .i64 E])) w' := ⟨_, rfl, rfl, hb⟩

theorem chkP_rels {p : Pr} (h : chkP p = 0) : 1 ≤ p.k ∧ p.k ≤ 8 ∧ p.rels.length ≤ 60 ∧ p.rels.any longB = false ∧ p.rels.all (relB p.k) = true := by
  unfold chkP at h
  split at h
  · simp at h
  · split at h
    · simp at h
    · rename_i h1 h2
      split at h
      · rename_i h3
        refine ⟨by omega, by omega, by omega, ?_, h3⟩
        cases hc : p.rels.any longB
        · rfl
        · exact absurd (.inr hc) h2
      · simp at h
theorem relB_ok {k : Int} {l : List UInt8} (h : relB k l = true) : okB k l = true ∧ l ≠ [] ∧ red l = l := by
  simp only [relB, Bool.and_eq_true, decide_eq_true_eq, beq_iff_eq] at h
  exact ⟨by simp [okB, h.2.1], h.1, h.2.2⟩
theorem chkP_words {p : Pr} (h : chkP p = 0) : ∀ r ∈ p.rels, isW r = true := fun r hr => okB_isW (relB_ok (List.all_eq_true.1 (chkP_rels h).2.2.2.2 r hr)).1

def addRE (p : Pr) (t : Tz) : Int := if 60 ≤ p.rels.length ∨ longB t.word = true then 2 else if relB p.k t.word = false then 4 else if dskB p t.proof t.word = false then 5 else 0
def addRC (p : Pr) (t : Tz) : Option Chg := if addRE p t = 0 then some (.addRel ⟨p.k, p.rels ++ [t.word]⟩) else none

set_option maxHeartbeats 2000000 in
set_option maxRecDepth 100000 in
theorem newAddRel_any (p : Pr) (R : Option Addr) (rc : Nat) (t : Tz) (D : Option Addr) (dc : Nat) (w : World) (ht : Tabs w) (hr : StrsAt w R p.rels) (hR : R = none → p.rels = []) (hd : CellsAt w D t.proof) (hp : chkP p = 0) (hdm : t.proof.length ≤ maxLen) (hu : t.word.length ≤ 140737488351232) :
    Calls Tryz.prog 133 #[prV p.k R p.rels.length rc, tzV t D dc] w (ChgP w (addRE p t) (addRC p t)) := by
  have HBX := Lib.hid (Bx2.start w (prC p.k R p.rels.length rc) (tzC t D dc))
  have HT := Lib.hid ht
  have HR := Lib.hid hr
  have HRN := Lib.hid hR
  have HD := Lib.hid hd
  have HW := Lib.hid (chkP_words hp)
  have HM := Lib.hid hdm
  have h60 := (chkP_rels hp).2.2.1
  clear ht hr hR hd hp hdm
  obtain ⟨kind, rel, word, proof⟩ := t
  simp only at *
  by_cases h1 : 60 ≤ p.rels.length
  · have HZ : Hid (addRE p ⟨kind, rel, word, proof⟩ = 2) := Lib.hid (by unfold addRE; rw [if_pos (.inl h1)])
    have HZ2 : Hid (addRC p ⟨kind, rel, word, proof⟩ = none) := Lib.hid (by unfold addRC; rw [HZ.out, if_neg (by decide)])
    have hd1 : decide ((60 : Int) ≤ (p.rels.length : Int)) = true := by simp; omega
    have hd2 : decide (60 ≤ p.rels.length) = true := by simpa using h1
    go_enter Tryz.func133, Tryz.ntmps133
    go_wp2
    go_ret2
    rw [HZ.out, HZ2.out]
    exact ChgP.no HBX.out.below
  have hd1 : decide ((60 : Int) ≤ (p.rels.length : Int)) = false := by simp; omega
  have hd2 : decide (60 ≤ p.rels.length) = false := by simpa using h1
  have hL := isTooLong_any word ((w.alloc (.cells (prC p.k R p.rels.length rc) 24)).alloc (.cells #[.int .i64 kind, .int .i64 rel, .string ⟨word.toArray⟩, .slice D proof.length dc] 58)) hu
  cases hlong : longB word with
  | true =>
    have HZ : Hid (addRE p ⟨kind, rel, word, proof⟩ = 2) := Lib.hid (by unfold addRE; rw [if_pos (.inr hlong)])
    have HZ2 : Hid (addRC p ⟨kind, rel, word, proof⟩ = none) := Lib.hid (by unfold addRC; rw [HZ.out, if_neg (by decide)])
    rw [hlong] at hL
    clear hlong
    go_enter Tryz.func133, Tryz.ntmps133
    go_wp2_with fail
    refine hL.mono ?_
    rintro e w1 ⟨rfl, rfl⟩
    go_wp2
    go_ret2
    rw [HZ.out, HZ2.out]
    exact ChgP.no HBX.out.below
  | false =>
    have HZ0 : Hid (addRE p ⟨kind, rel, word, proof⟩ = if relB p.k word = false then 4 else if dskB p proof word = false then 5 else 0) := Lib.hid (by unfold addRE; rw [if_neg (by rw [hlong]; simp; omega)])
    rw [hlong] at hL
    clear hlong
    have hI := isRelator_any p.k word _ (HT.out.on HBX.out.below) hu
    cases hrb : relB p.k word with
    | false =>
      have HZ : Hid (addRE p ⟨kind, rel, word, proof⟩ = 4) := Lib.hid (by rw [HZ0.out, if_pos hrb])
      have HZ2 : Hid (addRC p ⟨kind, rel, word, proof⟩ = none) := Lib.hid (by unfold addRC; rw [HZ.out, if_neg (by decide)])
      rw [hrb] at hI
      clear hrb
      go_enter Tryz.func133, Tryz.ntmps133
      go_wp2_with fail
      refine hL.mono ?_
      rintro e w1 ⟨rfl, rfl⟩
      go_wp2_with fail
      refine hI.mono ?_
      rintro e w1 ⟨rfl, hb⟩
      have HB := Lib.hid (HBX.out.on hb).below
      clear hb
      go_wp2
      go_ret2
      rw [HZ.out, HZ2.out]
      exact ChgP.no HB.out
    | true =>
      have HZ1 : Hid (addRE p ⟨kind, rel, word, proof⟩ = if dskB p proof word = false then 5 else 0) := Lib.hid (by rw [HZ0.out, if_neg (by rw [hrb]; decide)])
      rw [hrb] at hI
      clear hrb
      go_enter Tryz.func133, Tryz.ntmps133
      go_wp2_with fail
      refine hL.mono ?_
      rintro e w1 ⟨rfl, rfl⟩
      go_wp2_with fail
      refine hI.mono ?_
      rintro e w1 ⟨rfl, hb⟩
      have HB := Lib.hid (HBX.out.on hb)
      have hK := isDisk_any p R rc D dc proof word w1 (HT.out.on HB.out.below) (HR.out.below HB.out.below) (HD.out.below HB.out.below) HW.out (by unfold maxLen; omega) HM.out
      have p0 := HB.out.p.cell 0
      have p1 := HB.out.p.cell 1
      have m0 := HB.out.m.cell 0
      have m1 := HB.out.m.cell 1
      have m2 := HB.out.m.cell 2
      have m3 := HB.out.m.cell 3
      simp only [List.getElem?_toArray, List.getElem?_cons_zero, List.getElem?_cons_succ] at p0 p1 m0 m1 m2 m3
      clear hb hI hL
      cases hdk : dskB p proof word with
      | false =>
        have HZ : Hid (addRE p ⟨kind, rel, word, proof⟩ = 5) := Lib.hid (by rw [HZ1.out, if_pos hdk])
        have HZ2 : Hid (addRC p ⟨kind, rel, word, proof⟩ = none) := Lib.hid (by unfold addRC; rw [HZ.out, if_neg (by decide)])
        rw [hdk] at hK
        clear hdk
        go_wp2_with fail
        refine hK.mono ?_
        rintro e w2 ⟨rfl, hb⟩
        have HB2 := Lib.hid (HB.out.on hb).below
        clear hb
        go_wp2
        go_ret2
        rw [HZ.out, HZ2.out]
        exact ChgP.no HB2.out
      | true =>
        have HZ : Hid (addRE p ⟨kind, rel, word, proof⟩ = 0) := Lib.hid (by rw [HZ1.out, if_neg (by rw [hdk]; decide)])
        have HZ2 : Hid (addRC p ⟨kind, rel, word, proof⟩ = some (.addRel ⟨p.k, p.rels ++ [word]⟩)) := Lib.hid (by unfold addRC; rw [HZ.out, if_pos rfl])
        rw [hdk] at hK
        clear hdk
        go_wp2_with fail
        refine hK.mono ?_
        rintro e w2 ⟨rfl, hb⟩
        have HB2 := Lib.hid (HB.out.on hb)
        have q0 := HB2.out.p.cell 0
        have q1 := HB2.out.p.cell 1
        have n2 := HB2.out.m.cell 2
        simp only [List.getElem?_toArray, List.getElem?_cons_zero, List.getElem?_cons_succ] at q0 q1 n2
        have hWR := withRelator_any p.k R rc p.rels word w2 (HR.out.below HB2.out.below) HRN.out (by omega) hu
        clear hb p0 p1 m0 m1 m2 m3 hK
        go_wp2_with fail
        refine hWR.mono ?_
        rintro e w3 ⟨A, cap, rfl, hS, hN, hb3⟩
        have HS := Lib.hid hS
        have HN := Lib.hid hN
        have HB3 := Lib.hid (HB2.out.on hb3).below
        clear hb3 hS hN hWR
        go_wp2
        go_ret2
        rw [HZ.out, HZ2.out]
        exact ⟨_, rfl, ⟨A, cap, ⟨HS.out, HN.out⟩, by simp only [List.length_append, List.length_cons, List.length_nil, Nat.zero_add]; rfl⟩, HB3.out⟩
end Go.Proofs.YteephomlnbbjeaaGreatDoor

namespace Go.Proofs.YteephomlnbbjeaaGreatDoor
open Go Go.RowKit

abbrev encL (x : List UInt8) : Value := Value.string ⟨x.toArray⟩
theorem holds_own {w : World} {B g n cap : Nat} {l : List (List UInt8)} (h : w.ownsRow B 9 1 (.slice (some ⟨g, 0, none⟩) n cap) n (ss l)) : Go.Sort.Holds encL w g 0 l.toArray := by
  have hn : l.length = n := by have := h.1; simpa [ss_len] using this
  intro j hj
  have hj' : j < l.length := by simpa using hj
  refine ⟨?_, ?_⟩
  · rw [Nat.zero_add, h.cellAt j (by omega), ss_get l j hj']; simp [hj']
  · rw [Nat.zero_add]; exact h.frozenAt j
theorem strs_holds {w : World} {g n : Nat} {l : List (List UInt8)} (h : Go.Sort.Holds encL w g 0 l.toArray) (hn : n ≤ l.length) (hs : Short l) : StrsAt w (some ⟨g, 0, none⟩) (l.take n) := by
  intro i hi
  have hi' : i < l.length := by simp at hi; omega
  refine ⟨g, 0, rfl, ?_, ?_⟩
  · rw [(h i (by simpa using hi')).1]; simp [hi']
  · rw [List.getElem_take]; exact hs _ (List.getElem_mem _)
theorem grown_putRow (w : World) (g q : Nat) (d : Array (List UInt8)) : w.grownBy (Go.Sort.putRow encL (Go.Sort.ahead w q) g 0 d) (some g) := by
  refine ⟨rfl, rfl, rfl, by rw [Go.Sort.size_putRow]; exact Nat.le_refl _, fun k hk hne => ?_⟩
  simp only [Go.Sort.putRow, Go.Sort.mapBlock, Go.Sort.ahead, Array.getElem?_modify]
  rw [if_neg (fun e => hne (by rw [e]))]

theorem Short.sub {l m : List (List UInt8)} (h : Short l) (hs : ∀ x ∈ m, x ∈ l) : Short m := fun x hx => h x (hs x hx)
theorem own_cap0 {w : World} {B g n cap : Nat} {l : List (List UInt8)} (h : w.ownsRow B 9 1 (.slice (some ⟨g, 0, none⟩) n cap) n (ss l)) : n ≤ cap ∧ cap ≤ maxLen := by
  rcases h.2 with ⟨h2, _⟩ | ⟨g', c', cur, hv, hg, hh, hnc, hcm, hcs, ht⟩
  · cases h2
  · simp only [Value.slice.injEq, true_and] at hv; obtain ⟨_, rfl⟩ := hv; exact ⟨hnc, hcm⟩
/-- slices.Delete at strings: one string goes, in place. -/
theorem DelS_any (B g cap i : Nat) (l : List (List UInt8)) (w : World) (h : w.ownsRow B 9 1 (.slice (some ⟨g, 0, none⟩) l.length cap) l.length (ss l)) (hs : Short l) (hi : i < l.length) :
    Calls Tryz.prog 164 #[.slice (some ⟨g, 0, none⟩) l.length cap, .int .i64 i, .int .i64 (i + 1 : Nat)] w fun e w' => e = .returned (.slice (some ⟨g, 0, none⟩) (l.eraseIdx i).length cap) ∧
      StrsAt w' (some ⟨g, 0, none⟩) (l.eraseIdx i) ∧ w.grownBy w' (some g) := by
  obtain ⟨i0, hi0, hz0, hz1, hz2⟩ := info_parts Tryz.info9
  obtain ⟨hc1, hc2⟩ := own_cap0 h
  have hc := Tryz.slices_Delete encL (fun _ => rfl) [] (fun w => by kernel_rfl) i0 hi0 hz1 g 0 cap i (i + 1) l.toArray w (holds_own h) (by simpa using hc1) (by unfold maxLen at hc2; omega) (by omega) (by simp; omega)
  simp only [List.size_toArray] at hc
  have he : (l.eraseIdx i).length = l.length - (i + 1 - i) := by rw [List.length_eraseIdx, if_pos hi]; omega
  rw [he]
  refine hc.mono ?_
  rintro e w' ⟨rfl, q, rfl⟩
  refine ⟨rfl, ?_, grown_putRow w g q _⟩
  have hh : Go.Sort.Holds encL (Go.Sort.ahead w q) g 0 l.toArray := holds_own (w := Go.Sort.ahead w q) (own_on h (Below.drewN (Below.refl _ w) q))
  have h2 := Go.Sort.holds_putRow encL (Go.Sort.ahead w q) g 0 l.toArray (l.take i ++ l.drop (i + 1) ++ List.replicate (i + 1 - i) []).toArray hh (by simp; omega)
  have h3 := strs_holds (n := l.length - 1) h2 (by simp; omega) (((hs.sub (fun x hx => List.mem_of_mem_take hx)).app (hs.sub (fun x hx => List.mem_of_mem_drop hx))).app (fun x hx => by rw [List.mem_replicate] at hx; simp [hx.2]))
  rw [List.take_left' (by simp; omega)] at h3
  rw [List.eraseIdx_eq_take_drop_succ]
  exact h3

def dropQ (p : Pr) (t : Tz) : Pr := ⟨p.k, p.rels.eraseIdx t.rel.toNat⟩
def dropRE (p : Pr) (t : Tz) : Int := if relIn p t.rel = false then 1 else if dskB (dropQ p t) t.proof (p.rels.getD t.rel.toNat []) = false then 5 else 0
def dropRC (p : Pr) (t : Tz) : Option Chg := if dropRE p t = 0 then some (.dropRel (dropQ p t) t.rel t.proof) else none

/-- The state behind the building of the target of newDropRel. -/
def DropQ (w : World) (wr : World) (p : Pr) (i : Nat) (k : Int) (s6 : Value) (wx : World) : Prop :=
  ∃ g A cap, s6 = .pointer (some ⟨g, 0, none⟩) ∧ wx.cell? ⟨g, 0, none⟩ = some (.int .i64 k) ∧ wx.cell? ⟨g, 1, none⟩ = some (.slice (some A) (p.rels.eraseIdx i).length cap) ∧ StrsAt wx (some A) (p.rels.eraseIdx i) ∧ Below wr.heap.size wr wx
theorem DropQ.one {w wr wn : World} {p : Pr} {i : Nat} {k : Int} {gq gr cap : Nat} (hc : Below wr.heap.size wr wn) (hg : wr.heap.size ≤ gq) (hne : gq ≠ gr) (h2 : wn.heap[gq]? = some (.cells #[.int .i64 0, .slice none 0 0] 24 (0, 0))) (hs : StrsAt wn (some ⟨gr, 0, none⟩) (p.rels.eraseIdx i)) :
    DropQ w wr p i k (.pointer (some ⟨gq, 0, none⟩)) ((wn.setCell ⟨gq, 0, none⟩ (.int .i64 k)).setCell ⟨gq, 1, none⟩ (.slice (some ⟨gr, 0, none⟩) (p.rels.eraseIdx i).length cap)) := by
  obtain ⟨c0, c1, _, _⟩ := blk2 h2
  refine ⟨gq, ⟨gr, 0, none⟩, cap, rfl, ?_, ?_, ?_, ?_⟩
  · rw [World.cell?_setCell_other _ _ _ _ (by simp)]; exact World.cell?_setCell_same' _ _ _ (by rw [c0]; rfl)
  · exact World.cell?_setCell_same' _ _ _ (by rw [World.cell?_setCell_other _ _ _ _ (by simp), c1]; rfl)
  · intro j hj
    obtain ⟨b, o, hA, hcl, hl⟩ := hs j hj
    cases hA
    refine ⟨gr, 0, rfl, ?_, hl⟩
    rw [World.cell?_setCell_other _ _ _ _ (by simp [hne]), World.cell?_setCell_other _ _ _ _ (by simp [hne])]
    exact hcl
  · exact (hc.setCell hg _).setCell hg _
theorem DropQ.two {w wr wn : World} {p : Pr} {i : Nat} {k : Int} {gr cap : Nat} (hc : Below wr.heap.size wr wn) (hs : StrsAt wn (some ⟨gr, 0, none⟩) (p.rels.eraseIdx i)) :
    DropQ w wr p i k (.pointer (some ⟨wn.heap.size, 0, none⟩)) (wn.alloc (.cells #[.int .i64 k, .slice (some ⟨gr, 0, none⟩) (p.rels.eraseIdx i).length cap] 24)) := by
  obtain ⟨c0, c1, _, _⟩ := blk2 (heap_alloc_new wn (.cells #[.int .i64 k, .slice (some ⟨gr, 0, none⟩) (p.rels.eraseIdx i).length cap] 24))
  exact ⟨wn.heap.size, ⟨gr, 0, none⟩, cap, rfl, c0, c1, hs.below ((Below.refl _ wn).alloc (Nat.le_refl _) _), hc.alloc hc.size _⟩

end Go.Proofs.YteephomlnbbjeaaGreatDoor
