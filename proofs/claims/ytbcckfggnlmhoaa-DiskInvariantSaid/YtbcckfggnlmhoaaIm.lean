/-
  Our own text, in the proofs of the laws of package disk (cayleylaw04). Proved here: newWalk, examineMoves; Apply of the program; isRelMove of the program, Relators of the reference. Conditions: the arguments lie in memory as the slices say; bounds; where a presentation is named valid, it is.
-/
import Derived.Test.YtbcckfggnlmhoaaIj
import Derived.Test.YtbcckfggnlmhoaaBa
import Derived.Recover
namespace Go.Proofs.Ytbcckfggnlmhoaa
open Go Go.RowKit

theorem wpList_insert_memo (w : World) {ops : Array Oper} {rest : List Oper} {o : Oper} {a : Act} {Q : Exit → Act → World → Prop}
    (hg : o.guard = none) (m x v : Operand) (T : TypeId) (hop : o.op = Op.insert T m x v) (e : TypeId) (ht : Try.prog.underlying T = some (.map 3 e)) (mb n : Nat) (f : Int → Option Value)
    (hm : a.eval m = .map (some mb)) (h : MemoAt w mb n f) (hn : n < maxLen) (k : Int) (hx : a.eval x = .int .i64 k) (hk : (Lit.int .i64 k).wf = true) (val : Value) (hv : a.eval v = val)
    (hK : ∀ w', MemoAt w' mb (n + 1) (putF f k val) → w.grownBy w' (some mb) → wpList Try.prog ops Q rest (a.put o.dst undef) w') :
    wpList Try.prog ops Q (o :: rest) a w := by
  refine wpList_plain hg fun K' hK' => ?_
  obtain ⟨w', hrun, r1, r2⟩ := h.put ht hn k hk val
  unfold Oper.wp
  simp [execOp, hop, hm, hx, hv, hrun, Result.andThen]
  exact hK' _ _ (hK w' r1 r2)

set_option maxHeartbeats 4000000 in
set_option maxRecDepth 100000 in
theorem newWalk_any (w : World) (p : Pr) (R : Option Addr) (rc : Nat) (l : List UInt8) (W : World) (hb : Below w.heap.size w W) (hl : l.length ≤ 100000) :
    Calls Try.prog 60 #[prV p.k R p.rels.length rc, .string ⟨l.toArray⟩] W fun e w' => ∃ kb mb g cap, e = .returned (.pointer (some ⟨kb, 0, none⟩)) ∧ WkAt ⟨W, fun _ => False⟩ w p R rc kb mb g cap l w' := by
  have HB := Lib.hid hb
  have hconv := run_bw l (W.alloc (.cells (prC p.k R p.rels.length rc) 24))
  have HW := Lib.hid (bw_wrow (W.alloc (.cells (prC p.k R p.rels.length rc) 24)) l (by omega))
  have HB1 : Hid (Below W.heap.size W (bw (W.alloc (.cells (prC p.k R p.rels.length rc) 24)) l)) := Lib.hid (((Below.refl _ _).alloc (Nat.le_refl _) _).trans ((bw_below _ l).mono (by simp)))
  simp only [World.size_alloc] at HW hconv
  generalize bcap (W.alloc (.cells (prC p.k R p.rels.length rc) 24)) l = cap at *
  generalize bw (W.alloc (.cells (prC p.k R p.rels.length rc) 24)) l = w1 at *
  have HM0 := Lib.hid (memo_made w1)
  have HB2 : Hid (Below w1.heap.size w1 (w1.alloc (.map #[] 0))) := Lib.hid ((Below.refl _ _).alloc (Nat.le_refl _) _)
  have hmk : (Instr.makeMap 81 none).run Try.prog w1 = .ok (.map (some w1.heap.size)) (w1.alloc (.map #[] 0)) := rfl
  go_enter Try.func60, Try.ntmps60
  go_wp2_with (first
    | (refine wpList_insert_memo (w1.alloc (.map #[] 0)) rfl (.tmp 8) _ _ 81 rfl 90 Try.underlying81 w1.heap.size 0 _ rfl HM0.out (by unfold maxLen; omega) 1 rfl (by decide) (.func (.func 84) #[] #[]) rfl ?_; intro wa hma hga; have HMA := Lib.hid hma; have HGA := Lib.hid hga; clear hma hga)
    | (refine wpList_insert_memo wa rfl (.tmp 8) _ _ 81 rfl 90 Try.underlying81 w1.heap.size 1 _ rfl HMA.out (by unfold maxLen; omega) 2 rfl (by decide) (.func (.func 85) #[] #[]) rfl ?_; intro wb hmb hgb; have HMB := Lib.hid hmb; have HGB := Lib.hid hgb; clear hmb hgb)
    | (refine wpList_insert_memo wb rfl (.tmp 8) _ _ 81 rfl 90 Try.underlying81 w1.heap.size 2 _ rfl HMB.out (by unfold maxLen; omega) 3 rfl (by decide) (.func (.func 86) #[] #[]) rfl ?_; intro wc hmc hgc; have HMC := Lib.hid hmc; have HGC := Lib.hid hgc; clear hmc hgc)
    | (refine wpList_insert_memo wc rfl (.tmp 8) _ _ 81 rfl 90 Try.underlying81 w1.heap.size 3 _ rfl HMC.out (by unfold maxLen; omega) 4 rfl (by decide) (.func (.func 87) #[] #[]) rfl ?_; intro wd hmd hgd; have HMD := Lib.hid hmd; have HGD := Lib.hid hgd; clear hmd hgd))
  go_ret
  have s1 : w1.heap.size ≤ (w1.alloc (.map #[] 0)).heap.size := HB2.out.size
  have B0 := HB2.out.grown HGA.out s1 (fun k hk => by cases hk; exact Nat.le_refl _)
  have B1 := B0.grown HGB.out B0.size (fun k hk => by cases hk; exact Nat.le_refl _)
  have B2 := B1.grown HGC.out B1.size (fun k hk => by cases hk; exact Nat.le_refl _)
  have B3 := B2.grown HGD.out B2.size (fun k hk => by cases hk; exact Nat.le_refl _)
  have BZ := B3.alloc B3.size (.cells #[.int .i64 p.k, .slice R p.rels.length rc, .slice (some ⟨W.heap.size + 1, 0, none⟩) l.length cap, .map (some w1.heap.size)] 83)
  have hg := HW.out.lt
  have hm := HMD.out.lt
  have hs := HB.out.size
  have hs1 := HB1.out.size
  have hs2 := B3.size
  exact ⟨wd.heap.size, w1.heap.size, W.heap.size + 1, cap, rfl, HB.out.trans ((HB1.out.trans (BZ.mono hs1)).mono hs), by omega, by simp, by omega, by omega, by omega, by omega,
    by rw [alloc_cell]; rfl, by rw [alloc_cell]; rfl, by rw [alloc_cell]; rfl, by rw [alloc_cell]; rfl, frozen_new _ _ _ _, HW.out.below BZ, HMD.out.kept (World.grownBy_alloc wd _ none) (by simp), by simp; omega, fun k hk => hk.elim, id, id⟩

/-- What examineMoves returns. -/
def appI (p : Pr) (l : List UInt8) (n : Nat) : Int := if chk p [l] [] = 0 then (if n ≤ 100000 then 0 else 2) else chk p [l] []

set_option maxHeartbeats 4000000 in
set_option maxRecDepth 100000 in
theorem examineMoves_any (p : Pr) (R : Option Addr) (rc : Nat) (l : List UInt8) (M : Option Addr) (n mc : Nat) (w : World) (hr : RelsAt w R p.rels) (hm : p.rels.length ≤ maxLen) (hl : l.length ≤ maxLen) (hn : n ≤ 5000000000000) :
    Calls Try.prog 58 #[prV p.k R p.rels.length rc, .string ⟨l.toArray⟩, .slice M n mc] w fun e w' => e = .returned (.int .i64 (appI p l n)) ∧ Below w.heap.size w w' := by
  have HBX := Lib.hid (Boxd.start w (prC p.k R p.rels.length rc) 24)
  have HB1 := Lib.hid (HBX.out.on (Boxd.start (w.alloc (.cells (prC p.k R p.rels.length rc) 24)) #[.string ⟨l.toArray⟩] 9).old)
  have hX := examine_any p R rc (some ⟨(w.alloc (.cells (prC p.k R p.rels.length rc) 24)).heap.size, 0, none⟩) 1 [l] none 0 [] ((w.alloc (.cells (prC p.k R p.rels.length rc) 24)).alloc (.cells #[.string ⟨l.toArray⟩] 9)) (hr.below HB1.out.old) hm (rels_one hl 9) (fun i hi => absurd hi (Nat.not_lt_zero i)) (by simp) (by simp)
  simp only [World.size_alloc, List.map_cons, List.map_nil, List.length_cons, List.length_nil] at hX
  by_cases hk : chk p [l] [] = 0
  · have HA : Hid (appI p l n = if n ≤ 100000 then 0 else 2) := Lib.hid (if_pos hk)
    rw [hk] at hX
    clear hr hm hl hk
    go_enter Try.func58, Try.ntmps58
    go_wp2_with fail
    refine hX.mono ?_
    rintro e1 w1 ⟨rfl, hb1⟩
    have HX := Lib.hid (HB1.out.on' (hb1.mono (by omega)))
    clear hb1 hX
    by_cases hq : n ≤ 100000
    · have HA2 : Hid (appI p l n = 0) := Lib.hid (by rw [HA.out, if_pos hq])
      have e1 : decide ((100000 : Int) < (n : Int)) = false := by simp; omega
      have e2 : decide (100000 < n) = false := by simpa using hq
      go_wp2
      go_ret
      exact ⟨ret_int HA2.out.symm, HX.out.old⟩
    · have HA2 : Hid (appI p l n = 2) := Lib.hid (by rw [HA.out, if_neg hq])
      have e1 : decide ((100000 : Int) < (n : Int)) = true := by simp; omega
      have e2 : decide (100000 < n) = true := by simpa using hq
      go_wp2
      go_ret
      exact ⟨ret_int HA2.out.symm, HX.out.old⟩
  · have HA : Hid (appI p l n = chk p [l] []) := Lib.hid (if_neg hk)
    have hne : (chk p [l] [] != 0) = true := by simpa using hk
    clear hr hm hl hk
    generalize chk p [l] [] = q at *
    go_enter Try.func58, Try.ntmps58
    go_wp2_with fail
    refine hX.mono ?_
    rintro e1 w1 ⟨rfl, hb1⟩
    have HX := Lib.hid (HB1.out.on' (hb1.mono (by omega)))
    clear hb1 hX
    go_wp2
    go_ret
    exact ⟨ret_int HA.out.symm, HX.out.old⟩
end Go.Proofs.Ytbcckfggnlmhoaa

namespace Go.Proofs.Ytbcckfggnlmhoaa
open Go Go.RowKit

theorem catchA_yes (b1 b2 : Nat) (s e0 : Value) (older : List PanicEntry) (w : World) (hc : w.cell? ⟨b1, 0, none⟩ = some s) (hz : w.frozen? ⟨b1, 0, none⟩ = false) (hc2 : w.cell? ⟨b2, 0, none⟩ = some e0) (hz2 : w.frozen? ⟨b2, 0, none⟩ = false) (hne : b1 ≠ b2) :
    CallsD Try.prog 59 #[.pointer (some ⟨b1, 0, none⟩), .pointer (some ⟨b2, 0, none⟩)] (.panicking ({ v := .iface 26 (.int .i64 43), recovered := false } :: older)) w fun e u' w' =>
      e = .returned (.tuple #[]) ∧ u' = .panicking ({ v := .iface 26 (.int .i64 43), recovered := true } :: older) ∧ w' = (w.setCell ⟨b1, 0, none⟩ (.string ⟨#[]⟩)).setCell ⟨b2, 0, none⟩ (.int .i64 43) := by
  have hc2' : (w.setCell ⟨b1, 0, none⟩ (.string ⟨#[]⟩)).cell? ⟨b2, 0, none⟩ = some e0 := (World.cell?_setCell_other w ⟨b1, 0, none⟩ ⟨b2, 0, none⟩ _ (by intro e; cases e; exact hne rfl)).trans hc2
  have hz2' : (w.setCell ⟨b1, 0, none⟩ (.string ⟨#[]⟩)).frozen? ⟨b2, 0, none⟩ = false := by rw [World.frozen?_setCell]; exact hz2
  refine callsD_of_wpS Try.func59 rfl fun c₀ cs hu => ?_
  apply wpS_seq
  apply wpS_region
  simp [wpOpsS, go_sem, recoverD, hu, Try.ntmps59, Exit.thenS]
  refine wpS_cond (t := true) (by simp [Act.eval, Array.replicate]) ?_
  simp only [if_true]
  apply wpS_region
  simp [wpOpsS, go_sem, hc, hz, hc2', hz2', bodyPostS, results, Try.results59]

theorem catchA_no (b1 b2 : Nat) (w : World) :
    CallsD Try.prog 59 #[.pointer (some ⟨b1, 0, none⟩), .pointer (some ⟨b2, 0, none⟩)] .returning w fun e u' w' => e = .returned (.tuple #[]) ∧ u' = .returning ∧ w' = w := by
  refine callsD_of_wpS Try.func59 rfl fun c₀ cs hu => ?_
  apply wpS_seq
  apply wpS_region
  simp [wpOpsS, go_sem, recoverD, hu, Try.ntmps59, Exit.thenS]
  refine wpS_cond (t := false) (by simp [Act.eval, Array.replicate]) ?_
  simp only [Bool.false_eq_true, if_false]
  refine wpS_of_wp (wp_skip ?_)
  cases c₀
  simp_all [bodyPostS, results, Try.results59]

/-- The moves lie in memory. -/
def MovesAt (w : World) (M : Option Addr) (ms : List Mv) : Prop :=
  ∀ i (h : i < ms.length), ∃ b o, M = some ⟨b, o, none⟩ ∧ (∀ j v, (mvC ms[i])[j]? = some v → w.cell? ⟨b, o + i * 6 + j, none⟩ = some v) ∧ (Lit.int .i64 (ms[i]).kind).wf = true
theorem MovesAt.below {w w' : World} {M : Option Addr} {ms : List Mv} (h : MovesAt w M ms) (hb : Below w.heap.size w w') : MovesAt w' M ms := by
  intro i hi
  obtain ⟨b, o, hM, hc, hk⟩ := h i hi
  exact ⟨b, o, hM, fun j v hj => (hb.cell (p := ⟨b, o + i * 6 + j, none⟩) (lt_of_cell (hc j v hj))).trans (hc j v hj), hk⟩

/-- What moves make of a word. -/
def runM (p : Pr) (l : List UInt8) (ms : List Mv) : Option (List UInt8) := ms.foldl (fun o m => o.bind fun x => stepM p x m) (some l)
theorem runM_snoc (p : Pr) (l : List UInt8) (ms : List Mv) (m : Mv) : runM p l (ms ++ [m]) = (runM p l ms).bind fun x => stepM p x m := by simp [runM]
theorem foldl_none (p : Pr) : ∀ ms : List Mv, ms.foldl (fun o m => o.bind fun x => stepM p x m) none = none
  | [] => rfl
  | _ :: r => foldl_none p r
theorem runM_none (p : Pr) (l : List UInt8) (ms : List Mv) (k : Nat) (h : runM p l (ms.take k) = none) : runM p l ms = none := by
  have e : ms = ms.take k ++ ms.drop k := (List.take_append_drop k ms).symm
  rw [e]
  unfold runM at h ⊢
  rw [List.foldl_append, h]
  exact foldl_none p _
theorem insAt_len {l v x : List UInt8} {i : Int} (h : insAt l i v = some x) : x.length ≤ 100000 := by
  unfold insAt at h
  split at h
  case isTrue hh => cases h; simp; omega
  case isFalse => cases h
theorem stepM_len {p : Pr} {l x : List UInt8} {m : Mv} (hl : l.length ≤ 100000) (h : stepM p l m = some x) : x.length ≤ 100000 := by
  unfold stepM at h
  split at h
  · unfold insPair at h; split at h; exact insAt_len h; cases h
  split at h
  · unfold delPair at h; split at h; cases h; simp; omega; cases h
  split at h
  · unfold insRel at h; split at h; exact insAt_len h; cases h
  split at h
  · unfold delRel at h; split at h
    · unfold cutAt at h; split at h; cases h; simp; omega; cases h
    · cases h
  · cases h

/-- The results' cells, and the presentation's box, lie where they lay. -/
structure VE (w : World) (p : Pr) (R : Option Addr) (rc : Nat) (X : World) : Prop where
  old : Below w.heap.size w X
  lt : w.heap.size + 2 < X.heap.size
  b0 : X.cell? ⟨w.heap.size, 0, none⟩ = some (.int .i64 p.k)
  b1 : X.cell? ⟨w.heap.size, 1, none⟩ = some (.slice R p.rels.length rc)
  v : X.cell? ⟨w.heap.size + 1, 0, none⟩ = some (.string ⟨#[]⟩)
  e : X.cell? ⟨w.heap.size + 2, 0, none⟩ = some (.int .i64 0)
  fv : X.frozen? ⟨w.heap.size + 1, 0, none⟩ = false
  fe : X.frozen? ⟨w.heap.size + 2, 0, none⟩ = false
theorem VE.below {w : World} {p : Pr} {R : Option Addr} {rc : Nat} {X Y : World} (h : VE w p R rc X) (hb : Below X.heap.size X Y) : VE w p R rc Y := by
  have hl := h.lt
  exact ⟨h.old.trans (hb.mono h.old.size), Nat.lt_of_lt_of_le h.lt hb.size, (hb.cell (p := ⟨w.heap.size, 0, none⟩) (by simp only; omega)).trans h.b0, (hb.cell (p := ⟨w.heap.size, 1, none⟩) (by simp only; omega)).trans h.b1,
    (hb.cell (p := ⟨w.heap.size + 1, 0, none⟩) (by simp only; omega)).trans h.v, (hb.cell (p := ⟨w.heap.size + 2, 0, none⟩) (by simp only; omega)).trans h.e,
    (hb.frozen (p := ⟨w.heap.size + 1, 0, none⟩) (by simp only; omega)).trans h.fv, (hb.frozen (p := ⟨w.heap.size + 2, 0, none⟩) (by simp only; omega)).trans h.fe⟩
theorem VE.start (w : World) (p : Pr) (R : Option Addr) (rc : Nat) : VE w p R rc (((w.alloc (.cells (prC p.k R p.rels.length rc) 24)).alloc (.cells #[.string ⟨#[]⟩] 9)).alloc (.cells #[.int .i64 0] 26)) := by
  have s1 := World.size_alloc w (.cells (prC p.k R p.rels.length rc) 24)
  have s2 := World.size_alloc (w.alloc (.cells (prC p.k R p.rels.length rc) 24)) (.cells #[.string ⟨#[]⟩] 9)
  have c1 : ∀ i, (w.alloc (.cells (prC p.k R p.rels.length rc) 24)).cell? ⟨w.heap.size, i, none⟩ = (prC p.k R p.rels.length rc)[i]? := fun i => alloc_cell _ _ _ _
  have c2 : ((w.alloc (.cells (prC p.k R p.rels.length rc) 24)).alloc (.cells #[.string ⟨#[]⟩] 9)).cell? ⟨w.heap.size + 1, 0, none⟩ = some (.string ⟨#[]⟩) := by rw [← s1, alloc_cell]; rfl
  have f2 : ((w.alloc (.cells (prC p.k R p.rels.length rc) 24)).alloc (.cells #[.string ⟨#[]⟩] 9)).frozen? ⟨w.heap.size + 1, 0, none⟩ = false := by rw [← s1]; exact frozen_new _ _ _ _
  generalize hA : w.alloc (.cells (prC p.k R p.rels.length rc) 24) = A at *
  have bA : Below A.heap.size A (A.alloc (.cells #[.string ⟨#[]⟩] 9)) := (Below.refl _ _).alloc (Nat.le_refl _) _
  generalize hB : A.alloc (.cells #[.string ⟨#[]⟩] 9) = B at *
  have bB : Below B.heap.size B (B.alloc (.cells #[.int .i64 0] 26)) := (Below.refl _ _).alloc (Nat.le_refl _) _
  have bw0 : Below w.heap.size w A := by rw [← hA]; exact (Below.refl _ _).alloc (Nat.le_refl _) _
  have s3 := World.size_alloc B (.cells #[.int .i64 0] 26)
  have bAB := bA.trans (bB.mono bA.size)
  exact ⟨bw0.trans (bAB.mono bw0.size), by omega, (bAB.cell (p := ⟨w.heap.size, 0, none⟩) (by simp only; omega)).trans (c1 0), (bAB.cell (p := ⟨w.heap.size, 1, none⟩) (by simp only; omega)).trans (c1 1),
    (bB.cell (p := ⟨w.heap.size + 1, 0, none⟩) (by simp only; omega)).trans c2, by rw [show w.heap.size + 2 = B.heap.size by omega, alloc_cell]; rfl,
    (bB.frozen (p := ⟨w.heap.size + 1, 0, none⟩) (by simp only; omega)).trans f2, by rw [show w.heap.size + 2 = B.heap.size by omega]; exact frozen_new _ _ _ _⟩
theorem VE.set {w : World} {p : Pr} {R : Option Addr} {rc : Nat} {X : World} (h : VE w p R rc X) (a b : Value) : Below w.heap.size w ((X.setCell ⟨w.heap.size + 1, 0, none⟩ a).setCell ⟨w.heap.size + 2, 0, none⟩ b) :=
  (h.old.setCell (p := ⟨w.heap.size + 1, 0, none⟩) (by simp only; omega) a).setCell (p := ⟨w.heap.size + 2, 0, none⟩) (by simp only; omega) b

theorem res29 (a b : Nat) (tmps : Array Value) (X : World) (v e : Value) (h6 : tmps.getD 6 undef = .pointer (some ⟨a, 0, none⟩)) (h7 : tmps.getD 7 undef = .pointer (some ⟨b, 0, none⟩)) (hv : X.cell? ⟨a, 0, none⟩ = some v) (he : X.cell? ⟨b, 0, none⟩ = some e) (s : ByteArray) (q : Int) (hs : v = .string s) (hq : e = .int .i64 q) :
    (results Try.f29 tmps).run Try.prog X = .ok (.tuple #[v, e]) X := by
  subst hs hq
  have h6' : tmps[6]?.getD undef = .pointer (some ⟨a, 0, none⟩) := by simpa using h6
  have h7' : tmps[7]?.getD undef = .pointer (some ⟨b, 0, none⟩) := by simpa using h7
  simp [results, Try.results29, go_sem, h6', h7', hv, he]
theorem VE.set1 {w : World} {p : Pr} {R : Option Addr} {rc : Nat} {X : World} (h : VE w p R rc X) (a b : Value) :
    ((X.setCell ⟨w.heap.size + 1, 0, none⟩ a).setCell ⟨w.heap.size + 2, 0, none⟩ b).cell? ⟨w.heap.size + 1, 0, none⟩ = some a ∧ ((X.setCell ⟨w.heap.size + 1, 0, none⟩ a).setCell ⟨w.heap.size + 2, 0, none⟩ b).cell? ⟨w.heap.size + 2, 0, none⟩ = some b := by
  have e0 : (X.setCell ⟨w.heap.size + 1, 0, none⟩ a).cell? ⟨w.heap.size + 1, 0, none⟩ = some a := World.cell?_setCell_same _ _ _ h.v
  have e1 : (X.setCell ⟨w.heap.size + 1, 0, none⟩ a).cell? ⟨w.heap.size + 2, 0, none⟩ = some (.int .i64 0) := by rw [World.cell?_setCell_other (h := by simp)]; exact h.e
  exact ⟨by rw [World.cell?_setCell_other (h := by simp)]; exact e0, World.cell?_setCell_same _ _ _ e1⟩

/-- What Apply returns. -/
def apV (p : Pr) (l : List UInt8) (ms : List Mv) : List UInt8 := if appI p l ms.length = 0 then (runM p l ms).getD [] else []
def apE (p : Pr) (l : List UInt8) (ms : List Mv) : Int := if appI p l ms.length = 0 then (if (runM p l ms).isSome then 0 else 43) else appI p l ms.length

set_option maxHeartbeats 4000000 in
set_option maxRecDepth 100000 in
theorem Apply_any (p : Pr) (R : Option Addr) (rc : Nat) (l : List UInt8) (M : Option Addr) (mc : Nat) (ms : List Mv) (w : World) (hr : RelsAt w R p.rels) (hm : p.rels.length ≤ maxLen) (hl : l.length ≤ maxLen) (hM : MovesAt w M ms) (hn : ms.length ≤ 5000000000000) :
    Calls Try.prog 29 #[prV p.k R p.rels.length rc, .string ⟨l.toArray⟩, .slice M ms.length mc] w fun e w' => e = .returned (.tuple #[.string ⟨(apV p l ms).toArray⟩, .int .i64 (apE p l ms)]) ∧ Below w.heap.size w w' := by
  have hmf : ∀ (fn : Fn) (first cap : Array Value) (w : World), (Instr.makeFunc fn first cap).run Try.prog w = .ok (.func fn first cap) w := fun _ _ _ _ => rfl
  have HBX := Lib.hid (Boxd.start w (prC p.k R p.rels.length rc) 24)
  have HB2 : Hid (Below w.heap.size w (((w.alloc (.cells (prC p.k R p.rels.length rc) 24)).alloc (.cells #[.string ⟨#[]⟩] 9)).alloc (.cells #[.int .i64 0] 26))) := Lib.hid ((((Below.refl _ _).alloc (Nat.le_refl _) _).alloc (by simp) _).alloc (by simp; omega) _)
  have hE := examineMoves_any p R rc l M ms.length mc _ (hr.below HB2.out) hm hl hn
  by_cases hk : appI p l ms.length = 0
  case neg =>
    have HV : Hid (apV p l ms = []) := Lib.hid (if_neg hk)
    have HEE : Hid (apE p l ms = appI p l ms.length) := Lib.hid (if_neg hk)
    have hne : (appI p l ms.length != 0) = true := by simpa using hk
    clear hk hr hm hl hM
    generalize appI p l ms.length = q at *
    go_enter_defers Try.func29, Try.ntmps29
    go_wp2_with fail
    refine hE.mono ?_
    rintro e1 w1 ⟨rfl, hb1⟩
    have HVE := Lib.hid ((VE.start w p R rc).below hb1)
    have z1 := HVE.out.v
    have z2 : w1.cell? ⟨w.heap.size + 1 + 1, 0, none⟩ = some (.int .i64 0) := HVE.out.e
    have y1 := HVE.out.fv
    have y2 : w1.frozen? ⟨w.heap.size + 1 + 1, 0, none⟩ = false := HVE.out.fe
    clear hb1 hE
    go_wp2
    have hs1 := HVE.out.set1 (.string ⟨#[]⟩) (.int .i64 q)
    refine ⟨_, res29 (w.heap.size + 1) (w.heap.size + 2) _ _ _ _ rfl rfl hs1.1 hs1.2 _ _ rfl rfl, ?_, HVE.out.set _ _⟩
    rw [HV.out, HEE.out]
  case pos =>
    have HA : Hid (apV p l ms = (runM p l ms).getD []) := Lib.hid (if_pos hk)
    have HAE : Hid (apE p l ms = if (runM p l ms).isSome then 0 else 43) := Lib.hid (if_pos hk)
    have hchk : chk p [l] [] = 0 := by
      unfold appI at hk; split at hk; assumption; exact absurd hk ‹_›
    have hms : ms.length ≤ 100000 := by
      unfold appI at hk; rw [if_pos hchk] at hk; split at hk; assumption; cases hk
    obtain ⟨hp, hw, _⟩ := chk_ok hchk
    simp only [List.all_cons, List.all_nil, Bool.and_true] at hw
    have hl5 := isWd_len hw
    have HP := Lib.hid hp
    have HR := Lib.hid hr
    have HMV := Lib.hid hM
    rw [hk] at hE
    clear hk hr hm hl hM hp hw hchk
    go_enter_defers Try.func29, Try.ntmps29
    go_wp2_with fail
    refine hE.mono ?_
    rintro e1 w1 ⟨rfl, hb1⟩
    have HVE := Lib.hid ((VE.start w p R rc).below hb1)
    have b0 := HVE.out.b0
    have b1 := HVE.out.b1
    have hN := newWalk_any w1 p R rc l w1 (Below.refl _ _) hl5
    clear hb1 hE
    go_wp2_with fail
    refine hN.mono ?_
    rintro e2 w2 ⟨kb, mb, g, cap, rfl, hwk⟩
    have HWK := Lib.hid hwk
    clear hwk hN b0 b1
    go_wp2
    go_loopw [11, 25] (fun _ i wr => ∃ (k : Nat) (x : List UInt8) (g cap : Nat), k ≤ ms.length ∧ i = .int .i64 (k : Int) ∧ runM p l (ms.take k) = some x ∧ x.length ≤ 100000 ∧ WkAt ⟨w1, fun _ => False⟩ w1 p R rc kb mb g cap x wr)
      (fun _ i _ => ms.length - (intOf i).toNat)
    case atStart => exact ⟨0, l, g, cap, Nat.zero_le _, rfl, rfl, hl5, HWK.out⟩
    case round =>
      obtain ⟨k, x, g', cap', hk, rfl, hrun, hx5, hwk⟩ := hrel
      have HW := Lib.hid hwk
      have HRUN := Lib.hid hrun
      have HV2 := Lib.hid (HVE.out.below (hwk.old))
      clear hwk hrun
      by_cases hlt : k < ms.length
      · obtain ⟨b, o, hM, hc, hkw⟩ := (HMV.out.below HV2.out.old) k hlt
        subst hM
        have HSN : Hid (runM p l (ms.take (k + 1)) = stepM p x ms[k]) := Lib.hid (by rw [List.take_succ_eq_append_getElem hlt, runM_snoc, HRUN.out]; rfl)
        have HLN := Lib.hid (fun y (hy : stepM p x ms[k] = some y) => stepM_len hx5 hy)
        have HD := Lib.hid (fun X hX => do_any (F := ⟨w1, fun _ => False⟩) w1 p R rc kb mb g' cap' x X hX HP.out (HR.out.below HVE.out.old) hx5 ms[k] hkw)
        generalize ms[k] = m at *
        generalize stepM p x m = r at *
        obtain ⟨mk, mp, ml, mr, ms', mi⟩ := m
        have c0 : wr.cell? ⟨b, o + k * 6, none⟩ = some (.int .i64 mk) := hc 0 _ rfl
        have c1 : wr.cell? ⟨b, o + k * 6 + 1, none⟩ = some (.int .i64 mp) := hc 1 _ rfl
        have c2 : wr.cell? ⟨b, o + k * 6 + 2, none⟩ = some (.int .i64 ml) := hc 2 _ rfl
        have c3 : wr.cell? ⟨b, o + k * 6 + 3, none⟩ = some (.int .i64 mr) := hc 3 _ rfl
        have c4 : wr.cell? ⟨b, o + k * 6 + 4, none⟩ = some (.int .i64 ms') := hc 4 _ rfl
        have c5 : wr.cell? ⟨b, o + k * 6 + 5, none⟩ = some (.bool mi) := hc 5 _ rfl
        clear hc hkw
        have hD := HD.out _ (HW.out.below ((Below.refl _ wr).alloc (Nat.le_refl _) (.cells #[.int .i64 mk, .int .i64 mp, .int .i64 ml, .int .i64 mr, .int .i64 ms', .bool mi] 52)))
        go_wp2_with fail
        refine hD.mono ?_
        intro e3 w3 hh
        clear hD c0 c1 c2 c3 c4 c5
        cases r with
        | none =>
          obtain ⟨rfl, hb3⟩ := hh
          have HV3 := Lib.hid (HVE.out.below hb3)
          have HRN := Lib.hid (runM_none p l ms (k + 1) HSN.out)
          clear hb3
          refine leaves_cons (f := 59) (args := #[.pointer (some ⟨w.heap.size + 1, 0, none⟩), .pointer (some ⟨w.heap.size + 2, 0, none⟩)]) (by simp) (by simp [go_sem]) ?_
          refine (catchA_yes (w.heap.size + 1) (w.heap.size + 2) _ _ [] w3 HV3.out.v HV3.out.fv HV3.out.e HV3.out.fe (by omega)).mono ?_
          rintro e4 u4 w4 ⟨rfl, rfl, rfl⟩
          have hs1 := HV3.out.set1 (.string ⟨#[]⟩) (.int .i64 43)
          refine ⟨_, res29 (w.heap.size + 1) (w.heap.size + 2) _ _ _ _ rfl rfl hs1.1 hs1.2 _ _ rfl rfl, ?_, HV3.out.set _ _⟩
          rw [HA.out, HAE.out, HRN.out]
          rfl
        | some y =>
          obtain ⟨rfl, g3, cap3, hk3⟩ := hh
          have HK3 := Lib.hid hk3
          have hy5 := HLN.out y rfl
          clear hk3
          go_wp2
          go_roundw
          case rel => exact ⟨k + 1, y, g3, cap3, by omega, by go_num, HSN.out, hy5, HK3.out⟩
          case measure => simp [intOf]; omega
      · obtain rfl : k = ms.length := by omega
        have HRN : Hid (runM p l ms = some x) := Lib.hid (by have := HRUN.out; rwa [List.take_length] at this)
        have d2 := HW.out.c2
        have hrs := run_string_row wr (some ⟨g', 0, none⟩) cap' x HW.out.word.row
        have z1 := HV2.out.v
        have z2 : wr.cell? ⟨w.heap.size + 1 + 1, 0, none⟩ = some (.int .i64 0) := HV2.out.e
        have y1 := HV2.out.fv
        have y2 : wr.frozen? ⟨w.heap.size + 1 + 1, 0, none⟩ = false := HV2.out.fe
        go_wp2
        refine leaves_cons (f := 59) (args := #[.pointer (some ⟨w.heap.size + 1, 0, none⟩), .pointer (some ⟨w.heap.size + 2, 0, none⟩)]) (by simp) (by simp [go_sem]) ?_
        refine (catchA_no (w.heap.size + 1) (w.heap.size + 2) _).mono ?_
        rintro e4 u4 w4 ⟨rfl, rfl, rfl⟩
        have hs1 := HV2.out.set1 (.string ⟨x.toArray⟩) (.int .i64 0)
        refine ⟨_, res29 (w.heap.size + 1) (w.heap.size + 2) _ _ _ _ rfl rfl hs1.1 hs1.2 _ _ rfl rfl, ?_, HV2.out.set _ _⟩
        rw [HA.out, HAE.out, HRN.out]
        rfl
end Go.Proofs.Ytbcckfggnlmhoaa

namespace Go.Proofs.Ytbcckfggnlmhoaa
open Go Go.RowKit

def isRM (m : Mv) : Bool := decide (m.kind = 3) || decide (m.kind = 4)
def cntM (ms : List Mv) : Nat := (ms.filter isRM).length
theorem cntM_snoc (ms : List Mv) (k : Nat) (h : k < ms.length) : cntM (ms.take (k + 1)) = cntM (ms.take k) + (if isRM ms[k] = true then 1 else 0) := by
  rw [List.take_succ_eq_append_getElem h]
  unfold cntM
  rw [List.filter_append, List.length_append]
  cases h2 : isRM ms[k] <;> simp [h2]
theorem cntM_le (ms : List Mv) : cntM ms ≤ ms.length := List.length_filter_le _ _

set_option maxHeartbeats 2000000 in
set_option maxRecDepth 100000 in
theorem isRelMove_any (m : Mv) (w : World) : Calls Try.prog 64 #[mvV m] w fun e w' => e = .returned (.bool (isRM m)) ∧ Below w.heap.size w w' := by
  obtain ⟨mk, mp, ml, mr, ms, mi⟩ := m
  show Calls Try.prog 64 #[.agg #[.int .i64 mk, .int .i64 mp, .int .i64 ml, .int .i64 mr, .int .i64 ms, .bool mi]] w _
  have HB : Hid (Below w.heap.size w (w.alloc (.cells #[.int .i64 mk, .int .i64 mp, .int .i64 ml, .int .i64 mr, .int .i64 ms, .bool mi] 52))) := Lib.hid ((Below.refl _ _).alloc (Nat.le_refl _) _)
  by_cases h3 : mk = 3
  · subst h3
    go_enter Try.func64, Try.ntmps64
    go_wp2
    go_ret
    exact ⟨rfl, HB.out⟩
  · have e3 : (mk == 3) = false := by simpa using h3
    have e3' : decide (mk = 3) = false := by simpa using h3
    by_cases h4 : mk = 4
    · subst h4
      go_enter Try.func64, Try.ntmps64
      go_wp2
      go_ret
      exact ⟨rfl, HB.out⟩
    · have e4 : (mk == 4) = false := by simpa using h4
      have e4' : decide (mk = 4) = false := by simpa using h4
      have HE : Hid (isRM ⟨mk, mp, ml, mr, ms, mi⟩ = false) := Lib.hid (by simp [isRM, h3, h4])
      clear h3 h4
      go_enter Try.func64, Try.ntmps64
      go_wp2
      go_ret
      exact ⟨ret_bool HE.out.symm, HB.out⟩

set_option maxHeartbeats 2000000 in
set_option maxRecDepth 100000 in
theorem Relators_any (M : Option Addr) (mc : Nat) (ms : List Mv) (w : World) (hM : MovesAt w M ms) (hn : ms.length ≤ 5000000000000) :
    Calls Try.prog 31 #[.slice M ms.length mc] w fun e w' => e = .returned (.int .i64 (cntM ms : Nat)) ∧ Below w.heap.size w w' := by
  have HMV := Lib.hid hM
  clear hM
  go_enter Try.func31, Try.ntmps31
  go_wp2
  go_loopw [3, 5, 8] (fun s _ i wr => ∃ k : Nat, k ≤ ms.length ∧ i = .int .i64 (k : Int) ∧ s = .int .i64 ((cntM (ms.take k) : Nat) : Int) ∧ Below w.heap.size w wr) (fun _ _ i _ => ms.length - (intOf i).toNat)
  case atStart => exact ⟨0, Nat.zero_le _, rfl, rfl, Below.refl _ _⟩
  case round =>
    obtain ⟨k, hk, rfl, rfl, hb⟩ := hrel
    have HB := Lib.hid hb
    clear hb
    by_cases hlt : k < ms.length
    · have HS := Lib.hid (cntM_snoc ms k hlt)
      have hle := cntM_le (ms.take k)
      rw [List.length_take] at hle
      obtain ⟨b, o, hA, hc, _⟩ := (HMV.out.below HB.out) k hlt
      subst hA
      generalize hg : cntM (ms.take k) = n at *
      generalize ms[k] = m at *
      obtain ⟨mk, mp, ml, mr, ms', mi⟩ := m
      have c0 : wr.cell? ⟨b, o + k * 6, none⟩ = some (.int .i64 mk) := hc 0 _ rfl
      have c1 : wr.cell? ⟨b, o + k * 6 + 1, none⟩ = some (.int .i64 mp) := hc 1 _ rfl
      have c2 : wr.cell? ⟨b, o + k * 6 + 2, none⟩ = some (.int .i64 ml) := hc 2 _ rfl
      have c3 : wr.cell? ⟨b, o + k * 6 + 3, none⟩ = some (.int .i64 mr) := hc 3 _ rfl
      have c4 : wr.cell? ⟨b, o + k * 6 + 4, none⟩ = some (.int .i64 ms') := hc 4 _ rfl
      have c5 : wr.cell? ⟨b, o + k * 6 + 5, none⟩ = some (.bool mi) := hc 5 _ rfl
      have HBA : Hid (Below w.heap.size w (wr.alloc (.cells #[.int .i64 mk, .int .i64 mp, .int .i64 ml, .int .i64 mr, .int .i64 ms', .bool mi] 52))) := Lib.hid (HB.out.alloc HB.out.size _)
      have hnn : n ≤ 5000000000000 := by omega
      have hd1 : decide ((k : Int) < (ms.length : Int)) = true := by simp; omega
      have hd2 : decide (k < ms.length) = true := by simpa using hlt
      clear hc hle hg
      by_cases h3 : mk = 3
      · subst h3
        go_wp2
        go_roundw
        case rel => exact ⟨k + 1, by omega, by go_num, by rw [HS.out]; rfl, HBA.out⟩
        case measure => simp [intOf]; omega
      · have e3 : (mk == 3) = false := by simpa using h3
        have e3' : decide (mk = 3) = false := by simpa using h3
        by_cases h4 : mk = 4
        · subst h4
          go_wp2
          go_roundw
          case rel => exact ⟨k + 1, by omega, by go_num, by rw [HS.out]; rfl, HBA.out⟩
          case measure => simp [intOf]; omega
        · have e4 : (mk == 4) = false := by simpa using h4
          have e4' : decide (mk = 4) = false := by simpa using h4
          have HE : Hid (isRM ⟨mk, mp, ml, mr, ms', mi⟩ = false) := Lib.hid (by simp [isRM, h3, h4])
          clear h3 h4
          go_wp2
          go_roundw
          case rel => exact ⟨k + 1, by omega, by go_num, by rw [HS.out, HE.out]; rfl, HBA.out⟩
          case measure => simp [intOf]; omega
    · obtain rfl : k = ms.length := by omega
      have HE : Hid (cntM (ms.take ms.length) = cntM ms) := Lib.hid (by rw [List.take_length])
      have hd1 : decide ((ms.length : Int) < (ms.length : Int)) = false := by simp
      go_wp2
      go_ret
      exact ⟨by rw [← HE.out]; rfl, HB.out⟩
end Go.Proofs.Ytbcckfggnlmhoaa
