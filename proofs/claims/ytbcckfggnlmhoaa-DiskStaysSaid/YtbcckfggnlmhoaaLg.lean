/-
  Our own text, in the proofs of the laws of package disk (cayleylaw04). Proved here: what FromMoves' loop carries; add once there are too many letters; the recovering closure of FromMoves; FromMoves of the program. Conditions: the arguments lie in memory as the slices say; bounds; where a presentation is named valid, it is.
-/
import Derived.Test.YtbcckfggnlmhoaaLf
namespace Go.Proofs.Ytbcckfggnlmhoaa
open Go Go.RowKit

theorem catchB_yes (b1 b2 : Nat) (s e0 : Value) (older : List PanicEntry) (w : World) (hc : w.cell? ⟨b1, 0, none⟩ = some s) (hz : w.frozen? ⟨b1, 0, none⟩ = false) (hc2 : w.cell? ⟨b2, 0, none⟩ = some e0) (hz2 : w.frozen? ⟨b2, 0, none⟩ = false) (hne : b1 ≠ b2) :
    CallsD Try.prog 62 #[.pointer (some ⟨b1, 0, none⟩), .pointer (some ⟨b2, 0, none⟩)] (.panicking ({ v := .iface 26 (.int .i64 43), recovered := false } :: older)) w fun e u' w' =>
      e = .returned (.tuple #[]) ∧ u' = .panicking ({ v := .iface 26 (.int .i64 43), recovered := true } :: older) ∧ w' = (w.setCell ⟨b1, 0, none⟩ (.slice none 0 0)).setCell ⟨b2, 0, none⟩ (.int .i64 43) := by
  have hc2' : (w.setCell ⟨b1, 0, none⟩ (.slice none 0 0)).cell? ⟨b2, 0, none⟩ = some e0 := (World.cell?_setCell_other w ⟨b1, 0, none⟩ ⟨b2, 0, none⟩ _ (by intro e; cases e; exact hne rfl)).trans hc2
  have hz2' : (w.setCell ⟨b1, 0, none⟩ (.slice none 0 0)).frozen? ⟨b2, 0, none⟩ = false := by rw [World.frozen?_setCell]; exact hz2
  refine callsD_of_wpS Try.func62 rfl fun c₀ cs hu => ?_
  apply wpS_seq
  apply wpS_region
  simp [wpOpsS, go_sem, recoverD, hu, Try.ntmps62, Exit.thenS]
  refine wpS_cond (t := true) (by simp [Act.eval, Array.replicate]) ?_
  simp only [if_true]
  apply wpS_region
  simp [wpOpsS, go_sem, hc, hz, hc2', hz2', bodyPostS, results, Try.results62]

theorem catchB_no (b1 b2 : Nat) (w : World) :
    CallsD Try.prog 62 #[.pointer (some ⟨b1, 0, none⟩), .pointer (some ⟨b2, 0, none⟩)] .returning w fun e u' w' => e = .returned (.tuple #[]) ∧ u' = .returning ∧ w' = w := by
  refine callsD_of_wpS Try.func62 rfl fun c₀ cs hu => ?_
  apply wpS_seq
  apply wpS_region
  simp [wpOpsS, go_sem, recoverD, hu, Try.ntmps62, Exit.thenS]
  refine wpS_cond (t := false) (by simp [Act.eval, Array.replicate]) ?_
  simp only [Bool.false_eq_true, if_false]
  refine wpS_of_wp (wp_skip ?_)
  cases c₀
  simp_all [bodyPostS, results, Try.results62]

/-- The results' cells, and the presentation's box, lie where they lay. -/
structure VF (w : World) (p : Pr) (R : Option Addr) (rc : Nat) (X : World) : Prop where
  old : Below w.heap.size w X
  lt : w.heap.size + 2 < X.heap.size
  b0 : X.cell? ⟨w.heap.size, 0, none⟩ = some (.int .i64 p.k)
  b1 : X.cell? ⟨w.heap.size, 1, none⟩ = some (.slice R p.rels.length rc)
  v : X.cell? ⟨w.heap.size + 1, 0, none⟩ = some (.slice none 0 0)
  e : X.cell? ⟨w.heap.size + 2, 0, none⟩ = some (.int .i64 0)
  fv : X.frozen? ⟨w.heap.size + 1, 0, none⟩ = false
  fe : X.frozen? ⟨w.heap.size + 2, 0, none⟩ = false
theorem VF.below {w : World} {p : Pr} {R : Option Addr} {rc : Nat} {X Y : World} (h : VF w p R rc X) (hb : Below X.heap.size X Y) : VF w p R rc Y := by
  have hl := h.lt
  exact ⟨h.old.trans (hb.mono h.old.size), Nat.lt_of_lt_of_le h.lt hb.size, (hb.cell (p := ⟨w.heap.size, 0, none⟩) (by simp only; omega)).trans h.b0, (hb.cell (p := ⟨w.heap.size, 1, none⟩) (by simp only; omega)).trans h.b1,
    (hb.cell (p := ⟨w.heap.size + 1, 0, none⟩) (by simp only; omega)).trans h.v, (hb.cell (p := ⟨w.heap.size + 2, 0, none⟩) (by simp only; omega)).trans h.e,
    (hb.frozen (p := ⟨w.heap.size + 1, 0, none⟩) (by simp only; omega)).trans h.fv, (hb.frozen (p := ⟨w.heap.size + 2, 0, none⟩) (by simp only; omega)).trans h.fe⟩
theorem VF.start (w : World) (p : Pr) (R : Option Addr) (rc : Nat) : VF w p R rc (((w.alloc (.cells (prC p.k R p.rels.length rc) 24)).alloc (.cells #[.slice none 0 0] 25)).alloc (.cells #[.int .i64 0] 26)) := by
  have s1 := World.size_alloc w (.cells (prC p.k R p.rels.length rc) 24)
  have s2 := World.size_alloc (w.alloc (.cells (prC p.k R p.rels.length rc) 24)) (.cells #[.slice none 0 0] 25)
  have c1 : ∀ i, (w.alloc (.cells (prC p.k R p.rels.length rc) 24)).cell? ⟨w.heap.size, i, none⟩ = (prC p.k R p.rels.length rc)[i]? := fun i => alloc_cell _ _ _ _
  have c2 : ((w.alloc (.cells (prC p.k R p.rels.length rc) 24)).alloc (.cells #[.slice none 0 0] 25)).cell? ⟨w.heap.size + 1, 0, none⟩ = some (.slice none 0 0) := by rw [← s1, alloc_cell]; rfl
  have f2 : ((w.alloc (.cells (prC p.k R p.rels.length rc) 24)).alloc (.cells #[.slice none 0 0] 25)).frozen? ⟨w.heap.size + 1, 0, none⟩ = false := by rw [← s1]; exact frozen_new _ _ _ _
  generalize hA : w.alloc (.cells (prC p.k R p.rels.length rc) 24) = A at *
  have bA : Below A.heap.size A (A.alloc (.cells #[.slice none 0 0] 25)) := (Below.refl _ _).alloc (Nat.le_refl _) _
  generalize hB : A.alloc (.cells #[.slice none 0 0] 25) = B at *
  have bB : Below B.heap.size B (B.alloc (.cells #[.int .i64 0] 26)) := (Below.refl _ _).alloc (Nat.le_refl _) _
  have bw0 : Below w.heap.size w A := by rw [← hA]; exact (Below.refl _ _).alloc (Nat.le_refl _) _
  have s3 := World.size_alloc B (.cells #[.int .i64 0] 26)
  have bAB := bA.trans (bB.mono bA.size)
  exact ⟨bw0.trans (bAB.mono bw0.size), by omega, (bAB.cell (p := ⟨w.heap.size, 0, none⟩) (by simp only; omega)).trans (c1 0), (bAB.cell (p := ⟨w.heap.size, 1, none⟩) (by simp only; omega)).trans (c1 1),
    (bB.cell (p := ⟨w.heap.size + 1, 0, none⟩) (by simp only; omega)).trans c2, by rw [show w.heap.size + 2 = B.heap.size by omega, alloc_cell]; rfl,
    (bB.frozen (p := ⟨w.heap.size + 1, 0, none⟩) (by simp only; omega)).trans f2, by rw [show w.heap.size + 2 = B.heap.size by omega]; exact frozen_new _ _ _ _⟩
theorem VF.set {w : World} {p : Pr} {R : Option Addr} {rc : Nat} {X : World} (h : VF w p R rc X) (a b : Value) : Below w.heap.size w ((X.setCell ⟨w.heap.size + 1, 0, none⟩ a).setCell ⟨w.heap.size + 2, 0, none⟩ b) :=
  (h.old.setCell (p := ⟨w.heap.size + 1, 0, none⟩) (by simp only; omega) a).setCell (p := ⟨w.heap.size + 2, 0, none⟩) (by simp only; omega) b
theorem VF.set1 {w : World} {p : Pr} {R : Option Addr} {rc : Nat} {X : World} (h : VF w p R rc X) (a b : Value) :
    ((X.setCell ⟨w.heap.size + 1, 0, none⟩ a).setCell ⟨w.heap.size + 2, 0, none⟩ b).cell? ⟨w.heap.size + 1, 0, none⟩ = some a ∧ ((X.setCell ⟨w.heap.size + 1, 0, none⟩ a).setCell ⟨w.heap.size + 2, 0, none⟩ b).cell? ⟨w.heap.size + 2, 0, none⟩ = some b := by
  have e0 : (X.setCell ⟨w.heap.size + 1, 0, none⟩ a).cell? ⟨w.heap.size + 1, 0, none⟩ = some a := World.cell?_setCell_same _ _ _ h.v
  have e1 : (X.setCell ⟨w.heap.size + 1, 0, none⟩ a).cell? ⟨w.heap.size + 2, 0, none⟩ = some (.int .i64 0) := by rw [World.cell?_setCell_other (h := by simp)]; exact h.e
  exact ⟨by rw [World.cell?_setCell_other (h := by simp)]; exact e0, World.cell?_setCell_same _ _ _ e1⟩
theorem VF.setBlock {w : World} {p : Pr} {R : Option Addr} {rc : Nat} {X : World} (h : VF w p R rc X) (a b : Value) (k : Nat) (hk : w.heap.size + 2 < k) : ((X.setCell ⟨w.heap.size + 1, 0, none⟩ a).setCell ⟨w.heap.size + 2, 0, none⟩ b).heap[k]? = X.heap[k]? := by
  have := h.lt
  rw [heap_setCell_other _ ⟨w.heap.size + 2, 0, none⟩ k _ (fun e => by have : k = w.heap.size + 2 := e; omega), heap_setCell_other _ ⟨w.heap.size + 1, 0, none⟩ k _ (fun e => by have : k = w.heap.size + 1 := e; omega)]
theorem res30 (a b : Nat) (tmps : Array Value) (X : World) (v e : Value) (h6 : tmps.getD 6 undef = .pointer (some ⟨a, 0, none⟩)) (h7 : tmps.getD 7 undef = .pointer (some ⟨b, 0, none⟩)) (hv : X.cell? ⟨a, 0, none⟩ = some v) (he : X.cell? ⟨b, 0, none⟩ = some e) (A : Option Addr) (n c : Nat) (q : Int) (hs : v = .slice A n c) (hq : e = .int .i64 q) :
    (results Try.f30 tmps).run Try.prog X = .ok (.tuple #[v, e]) X := by
  subst hs hq
  have h6' : tmps[6]?.getD undef = .pointer (some ⟨a, 0, none⟩) := by simpa using h6
  have h7' : tmps[7]?.getD undef = .pointer (some ⟨b, 0, none⟩) := by simpa using h7
  simp [results, Try.results30, go_sem, h6', h7', hv, he]

/-- A move leaves the letters ahead of its place. -/
theorem step_take {p : Pr} {x y : List UInt8} {m : Mv} (h : stepM p x m = some y) : 0 ≤ m.pos ∧ m.pos ≤ x.length ∧ m.pos ≤ y.length ∧ ∀ j, j ≤ m.pos.toNat → y.take j = x.take j := by
  have key : ∀ (c : List UInt8), m.pos.toNat ≤ x.length → y = x.take m.pos.toNat ++ c → m.pos.toNat ≤ y.length ∧ ∀ j, j ≤ m.pos.toNat → y.take j = x.take j := by
    intro c hl e
    subst e
    have hlt : (x.take m.pos.toNat).length = m.pos.toNat := by rw [List.length_take]; omega
    refine ⟨by rw [List.length_append]; omega, fun j hj => ?_⟩
    rw [List.take_append_of_le_length (by omega), List.take_take, Nat.min_eq_left hj]
  have hins : ∀ v, insAt x m.pos v = some y → 0 ≤ m.pos ∧ m.pos ≤ x.length ∧ m.pos ≤ y.length ∧ ∀ j, j ≤ m.pos.toNat → y.take j = x.take j := by
    intro v hv
    obtain ⟨h0, h1, _, e⟩ := insAt_some hv
    rw [List.append_assoc] at e
    obtain ⟨k1, k2⟩ := key _ (by omega) e
    exact ⟨h0, h1, by omega, k2⟩
  unfold stepM at h
  split at h
  · unfold insPair at h; split at h; exact hins _ h; cases h
  split at h
  · unfold delPair at h
    split at h
    · rename_i hh
      cases h
      obtain ⟨k1, k2⟩ := key _ (by omega) rfl
      exact ⟨hh.1, by omega, by omega, k2⟩
    · cases h
  split at h
  · unfold insRel at h; split at h; exact hins _ h; cases h
  split at h
  · unfold delRel at h
    split at h
    · unfold cutAt at h
      split at h
      · rename_i hh
        cases h
        obtain ⟨k1, k2⟩ := key _ (by omega) rfl
        exact ⟨hh.1, by omega, by omega, k2⟩
      · cases h
    · cases h
  · cases h
theorem step_shift {p : Pr} {x y : List UInt8} {m : Mv} (h : stepM p x m = some y) (hm : isRM m = true) : isRelB p m.rel = true ∧ 0 ≤ m.shift ∧ m.shift < (relOf p m.rel m.inv).length := by
  have key : ∀ v, rotOf p m = some v → isRelB p m.rel = true ∧ 0 ≤ m.shift ∧ m.shift < (relOf p m.rel m.inv).length := by
    intro v hv
    unfold rotOf at hv
    split at hv
    · rename_i hr
      split at hv
      · rename_i hs; exact ⟨hr, hs.1, hs.2⟩
      · cases hv
    · cases hv
  simp only [isRM, Bool.or_eq_true, decide_eq_true_eq] at hm
  unfold stepM at h
  rw [if_neg (by omega), if_neg (by omega)] at h
  split at h
  · unfold insRel at h; split at h; exact key _ ‹_›; cases h
  · rw [if_pos (by omega)] at h
    unfold delRel at h; split at h; exact key _ ‹_›; cases h
theorem cellM_take {p : Pr} {x y : List UInt8} {m : Mv} (h : stepM p x m = some y) : cellM p y m = cellM p x m := by
  unfold cellM
  rw [(step_take h).2.2.2 _ (Nat.le_refl _)]

set_option maxHeartbeats 2000000 in
set_option maxRecDepth 100000 in
theorem add_over (rb kb : Nat) (L : Nat) (m : Mv) (W : World) (c3 : W.cell? ⟨rb, 3, none⟩ = some (.int .i64 L)) (hL : 1000000 < L) (hL2 : L ≤ 100000000) :
    Calls Try.prog 65 #[.pointer (some ⟨rb, 0, none⟩), .pointer (some ⟨kb, 0, none⟩), mvV m] W fun e w' => e = .returned (.tuple #[]) ∧ Below W.heap.size W w' := by
  obtain ⟨mk, mp, ml, mr, ms, mi⟩ := m
  have HB : Hid (Below W.heap.size W (W.alloc (.cells #[.int .i64 mk, .int .i64 mp, .int .i64 ml, .int .i64 mr, .int .i64 ms, .bool mi] 52))) := Lib.hid ((Below.refl _ _).alloc (Nat.le_refl _) _)
  have hIO := isOver_any rb L (W.alloc (.cells #[.int .i64 mk, .int .i64 mp, .int .i64 ml, .int .i64 mr, .int .i64 ms, .bool mi] 52)) ((HB.out.cell (p := ⟨rb, 3, none⟩) (lt_of_cell c3)).trans c3)
  have hd1 : decide ((1000000 : Int) < (L : Int)) = true := by simp; omega
  have hd2 : decide (1000000 < L) = true := by simp; omega
  show Calls Try.prog 65 #[.pointer (some ⟨rb, 0, none⟩), .pointer (some ⟨kb, 0, none⟩), .agg #[.int .i64 mk, .int .i64 mp, .int .i64 ml, .int .i64 mr, .int .i64 ms, .bool mi]] W _
  go_enter Try.func65, Try.ntmps65
  go_wp2_with fail
  refine hIO.mono ?_
  rintro e1 wx ⟨rfl, rfl⟩
  go_wp2
  exact bodyPost_ret (v := .tuple #[]) (by simp [results, Try.results65, go_sem]) rfl ⟨rfl, HB.out⟩
end Go.Proofs.Ytbcckfggnlmhoaa

namespace Go.Proofs.Ytbcckfggnlmhoaa
open Go Go.RowKit

/-- What FromMoves returns. -/
def fmL (p : Pr) (l : List UInt8) (ms : List Mv) : List Cel := if appI p l ms.length = 0 then (match runC p l ms with | some s => if conjs s.2 ≤ 1000000 then s.2 else [] | none => []) else []
def fmE (p : Pr) (l : List UInt8) (ms : List Mv) : Int := if appI p l ms.length = 0 then (match runC p l ms with | some s => if conjs s.2 ≤ 1000000 then 0 else 2 | none => 43) else appI p l ms.length

/-- What the loop carries: word, walk and record. -/
structure FM (w1 : World) (p : Pr) (R : Option Addr) (rc kb mb rb k : Nat) (x : List UInt8) (ds : List Cel) (g cap a : Nat) (O : Option Addr) (oc : Nat) (C : Option Addr) (cc : Nat) (ds' : List Cel) (L : Nat) (W : World) : Prop where
  walk : WkAt ⟨w1, fun _ => False⟩ w1 p R rc kb mb g cap x W
  len : x.length ≤ 100000
  place : a ≤ x.length
  recd : RecAt (rb + 1) rb O oc C cc (run [] (x.take a)) a ds' L W
  off : Off (RecS rb O C) kb mb g
  lo : w1.heap.size ≤ rb
  count : L = conjs ds'
  same : L ≤ 1000000 → ds' = ds
  over : 1000000 < L → 1000000 < conjs ds
  few : ds'.length ≤ k
  top : L ≤ 2000000

theorem FM.below {w1 : World} {p : Pr} {R : Option Addr} {rc kb mb rb k : Nat} {x : List UInt8} {ds : List Cel} {g cap a : Nat} {O : Option Addr} {oc : Nat} {C : Option Addr} {cc : Nat} {ds' : List Cel} {L : Nat} {W W' : World}
    (h : FM w1 p R rc kb mb rb k x ds g cap a O oc C cc ds' L W) (hb : Below W.heap.size W W') : FM w1 p R rc kb mb rb k x ds g cap a O oc C cc ds' L W' :=
  ⟨h.walk.below hb, h.len, h.place, h.recd.below hb, h.off, h.lo, h.count, h.same, h.over, h.few, h.top⟩
theorem FM.old {w1 : World} {p : Pr} {R : Option Addr} {rc kb mb rb k : Nat} {x : List UInt8} {ds : List Cel} {g cap a : Nat} {O : Option Addr} {oc : Nat} {C : Option Addr} {cc : Nat} {ds' : List Cel} {L : Nat} {W : World}
    (h : FM w1 p R rc kb mb rb k x ds g cap a O oc C cc ds' L W) : Below w1.heap.size w1 W := h.walk.old

theorem FrontP.block {B fb : Nat} {O : Option Addr} {r : List UInt8} {q : Nat} {w : World} {e : Ending} {w' : World} (h : FrontP B fb O r q w e w') (b : Nat) (hb : b < w.heap.size) (h1 : b ≠ fb) (h2 : blk O ≠ some b) : w'.heap[b]? = w.heap[b]? ∧ w.heap.size ≤ w'.heap.size := by
  obtain ⟨_, _, _, _, ht, _, _⟩ := h
  exact ⟨ht.block b hb (fun e => e.elim h1 h2), ht.size⟩
/-- Behind retreat. -/
theorem FM.retreat {w1 : World} {p : Pr} {R : Option Addr} {rc kb mb rb k : Nat} {x : List UInt8} {ds : List Cel} {g cap a : Nat} {O : Option Addr} {oc : Nat} {C : Option Addr} {cc : Nat} {ds' : List Cel} {L : Nat} {W W' : World}
    (h : FM w1 p R rc kb mb rb k x ds g cap a O oc C cc ds' L W) {q : Nat} (hq : q ≤ a) {e : Ending} (hf : FrontP (rb + 1) rb O (run [] (x.take q)) q W e W') : e = .returned (.tuple #[]) ∧ ∃ O' oc', FM w1 p R rc kb mb rb k x ds g cap q O' oc' C cc ds' L W' := by
  obtain ⟨rfl, O', oc', hf, ht, hm, hr⟩ := hf
  have hS : ∀ k, (k = rb ∨ blk O = some k) → RecS rb O C k := fun k hk => hk.elim .inl (fun h => .inr (.inl h))
  have hk := h.walk.touch ht ⟨fun e => h.off.1 (hS _ e), fun e => h.off.2.1 (hS _ e), fun e => h.off.2.2 (hS _ e)⟩ (fun k hk => Nat.le_trans h.lo (h.recd.ge k (hS k hk)))
  refine ⟨rfl, O', oc', hk, h.len, Nat.le_trans hq h.place, h.recd.moved hf ht hm hr, ?_, h.lo, h.count, h.same, h.over, h.few, h.top⟩
  exact off_moved h.off h.walk.kbs h.walk.memo.lt h.walk.word.lt hm (Moved.refl W C)

/-- Behind a move: the record lies as it lay. -/
theorem FM.moved {w1 : World} {p : Pr} {R : Option Addr} {rc kb mb rb k : Nat} {x y : List UInt8} {ds : List Cel} {g cap a : Nat} {O : Option Addr} {oc : Nat} {C : Option Addr} {cc : Nat} {ds' : List Cel} {L : Nat} {W W' : World} {g' cap' : Nat}
    (h : FM w1 p R rc kb mb rb k x ds g cap a O oc C cc ds' L W) {N : Nat → Prop} (hN : ∀ k, RecS rb O C k → N k) (hk : WkAt ⟨W, N⟩ w1 p R rc kb mb g' cap' y W') (hy : y.length ≤ 100000) (ha : a ≤ y.length) (ht : y.take a = x.take a) : FM w1 p R rc kb mb rb k y ds g' cap' a O oc C cc ds' L W' := by
  have hr := h.recd.keep (fun k hk' => (hk.fr k (hN k hk')).2) hk.frs
  rw [← ht] at hr
  exact ⟨⟨hk.old, hk.kbl, hk.kbs, hk.gl, hk.gk, hk.mkb, hk.mg, hk.c0, hk.c1, hk.c2, hk.c3, hk.f2, hk.word, hk.memo, hk.old.size, fun _ h => h.elim, id, id⟩, hy, ha, hr, ⟨h.off.1, h.off.2.1, fun e => hk.ng (hN _ e)⟩, h.lo, h.count, h.same, h.over, h.few, h.top⟩

/-- Behind a move without a relator. -/
theorem FM.next {w1 : World} {p : Pr} {R : Option Addr} {rc kb mb rb k : Nat} {x : List UInt8} {ds : List Cel} {g cap a : Nat} {O : Option Addr} {oc : Nat} {C : Option Addr} {cc : Nat} {ds' : List Cel} {L : Nat} {W : World}
    (h : FM w1 p R rc kb mb rb k x ds g cap a O oc C cc ds' L W) : FM w1 p R rc kb mb rb (k + 1) x ds g cap a O oc C cc ds' L W :=
  ⟨h.walk, h.len, h.place, h.recd, h.off, h.lo, h.count, h.same, h.over, Nat.le_succ_of_le h.few, h.top⟩
/-- Behind a move with a relator, with too many letters. -/
theorem FM.nextOver {w1 : World} {p : Pr} {R : Option Addr} {rc kb mb rb k : Nat} {x : List UInt8} {ds : List Cel} {g cap a : Nat} {O : Option Addr} {oc : Nat} {C : Option Addr} {cc : Nat} {ds' : List Cel} {L : Nat} {W : World}
    (h : FM w1 p R rc kb mb rb k x ds g cap a O oc C cc ds' L W) (hL : 1000000 < L) (c : Cel) : FM w1 p R rc kb mb rb (k + 1) x (ds ++ [c]) g cap a O oc C cc ds' L W :=
  ⟨h.walk, h.len, h.place, h.recd, h.off, h.lo, h.count, fun h1 => by omega, fun h1 => by rw [conjs_app]; have := h.over h1; omega, Nat.le_succ_of_le h.few, h.top⟩
/-- Behind add. -/
theorem FM.nextAdd {w1 : World} {p : Pr} {R : Option Addr} {rc kb mb rb k : Nat} {x : List UInt8} {ds : List Cel} {g cap a : Nat} {O : Option Addr} {oc : Nat} {C : Option Addr} {cc : Nat} {ds' : List Cel} {L : Nat} {W W' : World}
    (h : FM w1 p R rc kb mb rb k x ds g cap a O oc C cc ds' L W) (hL : L ≤ 1000000) {q : Nat} (hq : q ≤ x.length) {c : Cel} (hc : c.conj.length ≤ 200000) {e : Ending} (ha : AddP (rb + 1) rb O C (run [] (x.take q)) q ds' L c W e W') :
    e = .returned (.tuple #[]) ∧ ∃ O' oc' C' cc', FM w1 p R rc kb mb rb (k + 1) x (ds ++ [c]) g cap q O' oc' C' cc' (ds' ++ [c]) (L + c.conj.length) W' := by
  obtain ⟨rfl, O', oc', C', cc', hr, ht, hm1, hm2⟩ := ha
  have hk := h.walk.touch ht h.off (fun k hk => Nat.le_trans h.lo (h.recd.ge k hk))
  have hs := h.same hL
  have hcn := h.count
  have hcs : conjs (ds' ++ [c]) = L + c.conj.length := by rw [conjs_app, hcn]; simp [conjs]
  refine ⟨rfl, O', oc', C', cc', hk, h.len, hq, hr, off_moved h.off h.walk.kbs h.walk.memo.lt h.walk.word.lt hm1 hm2, h.lo, hcs.symm, fun _ => by rw [hs], fun h1 => by rw [← hs, hcs]; exact h1, ?_, by omega⟩
  rw [List.length_append]
  have := h.few
  simp only [List.length_cons, List.length_nil]
  omega

set_option maxHeartbeats 8000000 in
set_option maxRecDepth 100000 in
theorem FromMoves_any (p : Pr) (R : Option Addr) (rc : Nat) (l : List UInt8) (M : Option Addr) (mc : Nat) (ms : List Mv) (w : World) (hr : RelsAt w R p.rels) (hm : p.rels.length ≤ maxLen) (hl : l.length ≤ maxLen) (hM : MovesAt w M ms) (hn : ms.length ≤ 5000000000000) :
    Calls Try.prog 30 #[prV p.k R p.rels.length rc, .string ⟨l.toArray⟩, .slice M ms.length mc] w (CellsP w (fmL p l ms) (fmE p l ms)) := by
  have hmf : ∀ (fn : Fn) (first cap : Array Value) (w : World), (Instr.makeFunc fn first cap).run Try.prog w = .ok (.func fn first cap) w := fun _ _ _ _ => rfl
  have HBX := Lib.hid (Boxd.start w (prC p.k R p.rels.length rc) 24)
  have HB2 : Hid (Below w.heap.size w (((w.alloc (.cells (prC p.k R p.rels.length rc) 24)).alloc (.cells #[.slice none 0 0] 25)).alloc (.cells #[.int .i64 0] 26))) := Lib.hid ((((Below.refl _ _).alloc (Nat.le_refl _) _).alloc (by simp) _).alloc (by simp; omega) _)
  have hE := examineMoves_any p R rc l M ms.length mc _ (hr.below HB2.out) hm hl hn
  by_cases hk : appI p l ms.length = 0
  case neg =>
    have HV : Hid (fmL p l ms = []) := Lib.hid (if_neg hk)
    have HEE : Hid (fmE p l ms = appI p l ms.length) := Lib.hid (if_neg hk)
    have hne : (appI p l ms.length != 0) = true := by simpa using hk
    clear hk hr hm hl hM
    generalize appI p l ms.length = q at *
    go_enter_defers Try.func30, Try.ntmps30
    go_wp2_with fail
    refine hE.mono ?_
    rintro e1 w1 ⟨rfl, hb1⟩
    have HVE := Lib.hid ((VF.start w p R rc).below hb1)
    have z1 := HVE.out.v
    have z2 : w1.cell? ⟨w.heap.size + 1 + 1, 0, none⟩ = some (.int .i64 0) := HVE.out.e
    have y1 := HVE.out.fv
    have y2 : w1.frozen? ⟨w.heap.size + 1 + 1, 0, none⟩ = false := HVE.out.fe
    clear hb1 hE
    go_wp2
    have hs1 := HVE.out.set1 (.slice none 0 0) (.int .i64 q)
    refine ⟨_, res30 (w.heap.size + 1) (w.heap.size + 2) _ _ _ _ rfl rfl hs1.1 hs1.2 _ _ _ _ rfl rfl, ?_⟩
    rw [HV.out, HEE.out]
    exact CellsP.no (HVE.out.set _ _)
  case pos =>
    have HA : Hid (∀ s, runC p l ms = some s → fmL p l ms = (if conjs s.2 ≤ 1000000 then s.2 else []) ∧ fmE p l ms = (if conjs s.2 ≤ 1000000 then 0 else 2)) := Lib.hid (fun s hs => by unfold fmL fmE; rw [if_pos hk, if_pos hk, hs]; exact ⟨rfl, rfl⟩)
    have HAN : Hid (runC p l ms = none → fmL p l ms = [] ∧ fmE p l ms = 43) := Lib.hid (fun hs => by unfold fmL fmE; rw [if_pos hk, if_pos hk, hs]; exact ⟨rfl, rfl⟩)
    have hchk : chk p [l] [] = 0 := by
      unfold appI at hk; split at hk; assumption; exact absurd hk ‹_›
    have hms : ms.length ≤ 100000 := by
      unfold appI at hk; rw [if_pos hchk] at hk; split at hk; assumption; cases hk
    obtain ⟨hp, hw, _⟩ := chk_ok hchk
    simp only [List.all_cons, List.all_nil, Bool.and_true] at hw
    have hl5 := isWd_len hw
    have HLW := Lib.hid hw
    have HP := Lib.hid hp
    have HR := Lib.hid hr
    have HMV := Lib.hid hM
    rw [hk] at hE
    clear hk hr hm hl hM hp hw hchk
    go_enter_defers Try.func30, Try.ntmps30
    go_wp2_with fail
    refine hE.mono ?_
    rintro e1 w1 ⟨rfl, hb1⟩
    have HVE := Lib.hid ((VF.start w p R rc).below hb1)
    have b0 := HVE.out.b0
    have b1 := HVE.out.b1
    have hN := newWalk_any w1 p R rc l w1 (Below.refl _ _) hl5
    clear hb1 hE
    go_wp2_with fail
    refine hN.mono ?_
    rintro e2 w2 ⟨kb, mb, g, cap, rfl, hwk⟩
    have HWK := Lib.hid hwk
    have hs12 := hwk.old.size
    have hbr : Below w2.heap.size w2 (w2.alloc (.cells #[.int .i64 0, .slice none 0 0, .slice none 0 0, .int .i64 0] 87)) := (Below.refl _ _).alloc (Nat.le_refl _) _
    have hcr : ∀ i, (w2.alloc (.cells #[.int .i64 0, .slice none 0 0, .slice none 0 0, .int .i64 0] 87)).cell? ⟨w2.heap.size, i, none⟩ = (#[.int .i64 0, .slice none 0 0, .slice none 0 0, .int .i64 0] : Array Value)[i]? := fun i => alloc_cell _ _ _ _
    have hfr : ∀ i, (w2.alloc (.cells #[.int .i64 0, .slice none 0 0, .slice none 0 0, .int .i64 0] 87)).frozen? ⟨w2.heap.size, i, none⟩ = false := fun i => frozen_new _ _ _ _
    have hFM : FM w1 p R rc kb mb w2.heap.size 0 l [] g cap 0 none 0 none 0 [] 0 (w2.alloc (.cells #[.int .i64 0, .slice none 0 0, .slice none 0 0, .int .i64 0] 87)) := by
      refine ⟨HWK.out.below hbr, hl5, Nat.zero_le _, ⟨⟨hcr 0, hcr 1, hfr 0, hfr 1, World.ownsRow_nil _ _ _ _, Nat.lt_succ_self _, by simp⟩, hcr 2, hcr 3, hfr 2, hfr 3, World.ownsRow_nil _ _ _ _, fun k hk => by cases hk⟩, ?_, hs12, rfl, fun _ => rfl, fun h => by omega, Nat.le_refl _, by omega⟩
      have h1 := hwk.kbs
      have h2 := hwk.memo.lt
      have h3 := hwk.word.lt
      refine ⟨?_, ?_, ?_⟩ <;> rintro (h | h | h) <;> first | omega | cases h
    have HFM0 := Lib.hid hFM
    clear hwk hN b0 b1 hbr hcr hfr hFM
    go_wp2
    generalize hrb : w2.heap.size = rb at *
    have HRB := Lib.hid hrb
    clear hrb
    go_loopw [12, 26] (fun _ i wr => ∃ (k : Nat) (x : List UInt8) (ds : List Cel) (g cap a : Nat) (O : Option Addr) (oc : Nat) (C : Option Addr) (cc : Nat) (ds' : List Cel) (L : Nat), k ≤ ms.length ∧ i = .int .i64 (k : Int) ∧ runC p l (ms.take k) = some (x, ds) ∧ FM w1 p R rc kb mb rb k x ds g cap a O oc C cc ds' L wr)
      (fun _ i _ => ms.length - (intOf i).toNat)
    case atStart => exact ⟨0, l, [], g, cap, 0, none, 0, none, 0, [], 0, Nat.zero_le _, rfl, rfl, HFM0.out⟩
    case round =>
      obtain ⟨k, x, ds, g', cap', a, O, oc, C, cc, ds', L, hk, rfl, hrun, hfm⟩ := hrel
      have HF := Lib.hid hfm
      have HRUN := Lib.hid hrun
      have HV2 := Lib.hid (HVE.out.below (hfm.old))
      clear hfm hrun
      by_cases hlt : k < ms.length
      · obtain ⟨b, o, hM, hc, hkw⟩ := (HMV.out.below HV2.out.old) k hlt
        subst hM
        have HSN : Hid (runC p l (ms.take (k + 1)) = (stepM p x ms[k]).map fun y => (y, if isRM ms[k] = true then ds ++ [cellM p x ms[k]] else ds)) := Lib.hid (by rw [List.take_succ_eq_append_getElem hlt, runC_snoc, HRUN.out]; rfl)
        have HTK := Lib.hid (fun y (hy : stepM p x ms[k] = some y) => step_take hy)
        have HSH := Lib.hid (fun y (hy : stepM p x ms[k] = some y) (hm : isRM ms[k] = true) => step_shift hy hm)
        have HCT := Lib.hid (fun y (hy : stepM p x ms[k] = some y) => cellM_take hy)
        have HLN := Lib.hid (fun y (hy : stepM p x ms[k] = some y) => stepM_len HF.out.len hy)
        have HCO := Lib.hid (fun y (hy : stepM p x ms[k] = some y) (hm : isRM ms[k] = true) => cellM_ok HP.out hy hm (runC_inv HP.out HLW.out HRUN.out).len (runC_inv HP.out HLW.out HRUN.out).all)
        have HD := Lib.hid (fun (F : Gh) X (hX : WkAt F w1 p R rc kb mb g' cap' x X) => do_any w1 p R rc kb mb g' cap' x X hX HP.out (HR.out.below HVE.out.old) HF.out.len ms[k] hkw)
        generalize ms[k] = m at *
        generalize stepM p x m = r at *
        obtain ⟨mk, mp, ml, mr, ms', mi⟩ := m
        have c0 : wr.cell? ⟨b, o + k * 6, none⟩ = some (.int .i64 mk) := hc 0 _ rfl
        have c1 : wr.cell? ⟨b, o + k * 6 + 1, none⟩ = some (.int .i64 mp) := hc 1 _ rfl
        have c2 : wr.cell? ⟨b, o + k * 6 + 2, none⟩ = some (.int .i64 ml) := hc 2 _ rfl
        have c3 : wr.cell? ⟨b, o + k * 6 + 3, none⟩ = some (.int .i64 mr) := hc 3 _ rfl
        have c4 : wr.cell? ⟨b, o + k * 6 + 4, none⟩ = some (.int .i64 ms') := hc 4 _ rfl
        have c5 : wr.cell? ⟨b, o + k * 6 + 5, none⟩ = some (.bool mi) := hc 5 _ rfl
        clear hc hkw
        have hbl : Below wr.heap.size wr (wr.alloc (.cells #[.int .i64 mk, .int .i64 mp, .int .i64 ml, .int .i64 mr, .int .i64 ms', .bool mi] 52)) := (Below.refl _ wr).alloc (Nat.le_refl _) _
        have HFX := Lib.hid (HF.out.below hbl)
        have HBX : Hid (∀ i, (wr.alloc (.cells #[.int .i64 mk, .int .i64 mp, .int .i64 ml, .int .i64 mr, .int .i64 ms', .bool mi] 52)).cell? ⟨wr.heap.size, i, none⟩ = (#[.int .i64 mk, .int .i64 mp, .int .i64 ml, .int .i64 mr, .int .i64 ms', .bool mi] : Array Value)[i]?) := Lib.hid (fun i => alloc_cell _ _ _ _)
        have HZX : Hid (wr.heap.size < (wr.alloc (.cells #[.int .i64 mk, .int .i64 mp, .int .i64 ml, .int .i64 mr, .int .i64 ms', .bool mi] 52)).heap.size) := Lib.hid (by simp)
        clear hbl
        go_wp2_with fail
        generalize wr.alloc (.cells #[.int .i64 mk, .int .i64 mp, .int .i64 ml, .int .i64 mr, .int .i64 ms', .bool mi] 52) = wx at *
        have x1 : wx.cell? ⟨wr.heap.size, 1, none⟩ = some (.int .i64 mp) := HBX.out 1
        have k2 : wx.cell? ⟨kb, 1 + 1, none⟩ = some (.slice (some ⟨g', 0, none⟩) x.length cap') := HFX.out.walk.c2
        have hdr : Below wx.heap.size wx wx.drew := (Below.refl _ wx).drewN 1
        have HFD := Lib.hid (HFX.out.below hdr)
        have hRT := retreat_any (rb + 1) rb O oc g' cap' x a mp wx.drew HFD.out.recd.front HFD.out.walk.word HFD.out.place (fun e => HFD.out.off.2.2 (.inr (.inl e))) HFD.out.len
        clear c0 c1 c2 c3 c4 c5 hdr
        go_still_tail 7, (by kernel_rfl)
        change wpList _ _ _ _ _ wx.drew
        go_wp2_with fail
        refine hRT.mono ?_
        intro e2 w4 hfp
        have hblk := hfp.block wr.heap.size HZX.out (fun e => by have h9 := HF.out.recd.lt rb (.inl rfl); omega) (fun e => absurd (HF.out.recd.lt _ (.inr (.inl e))) (Nat.lt_irrefl _))
        obtain ⟨rfl, O', oc', hfm4⟩ := HFD.out.retreat (q := retTo a mp) (Nat.min_le_left _ _) hfp
        have HF4 := Lib.hid hfm4
        have HB4 : Hid (∀ i, w4.cell? ⟨wr.heap.size, i, none⟩ = (#[.int .i64 mk, .int .i64 mp, .int .i64 ml, .int .i64 mr, .int .i64 ms', .bool mi] : Array Value)[i]?) := Lib.hid (fun i => (cell_same hblk.1 i).trans (HBX.out i))
        have HZ4 : Hid (wr.heap.size < w4.heap.size) := Lib.hid (Nat.lt_of_lt_of_le HZX.out hblk.2)
        have HD4 := Lib.hid (HD.out ⟨w4, fun k => RecS rb O' C k ∨ k = wr.heap.size⟩ w4 (hfm4.walk.from _ (fun k hk => hk.elim (hfm4.recd.lt k) (fun e => e ▸ HZ4.out)) (fun e => e.elim hfm4.off.1 (fun e => by have := HF.out.walk.kbs; omega)) (fun e => e.elim hfm4.off.2.2 (fun e => by have := HF.out.walk.word.lt; omega))))
        clear hRT hfp hblk hfm4 x1 k2
        have x0 : w4.cell? ⟨wr.heap.size, 0, none⟩ = some (.int .i64 mk) := HB4.out 0
        have x1 : w4.cell? ⟨wr.heap.size, 1, none⟩ = some (.int .i64 mp) := HB4.out 1
        have x2 : w4.cell? ⟨wr.heap.size, 2, none⟩ = some (.int .i64 ml) := HB4.out 2
        have x3 : w4.cell? ⟨wr.heap.size, 3, none⟩ = some (.int .i64 mr) := HB4.out 3
        have x4 : w4.cell? ⟨wr.heap.size, 4, none⟩ = some (.int .i64 ms') := HB4.out 4
        have x5 : w4.cell? ⟨wr.heap.size, 5, none⟩ = some (.bool mi) := HB4.out 5
        go_wp2_with fail
        refine HD4.out.mono ?_
        intro e3 w5 hh
        clear x0 x1 x2 x3 x4 x5
        cases r with
        | none =>
          obtain ⟨rfl, hb3⟩ := hh
          have HV3 := Lib.hid (HVE.out.below hb3)
          have HRN := Lib.hid (HAN.out (runC_none p l ms (k + 1) HSN.out))
          clear hb3
          refine leaves_cons (f := 62) (args := #[.pointer (some ⟨w.heap.size + 1, 0, none⟩), .pointer (some ⟨w.heap.size + 2, 0, none⟩)]) (by simp) (by simp [go_sem]) ?_
          refine (catchB_yes (w.heap.size + 1) (w.heap.size + 2) _ _ [] w5 HV3.out.v HV3.out.fv HV3.out.e HV3.out.fe (by omega)).mono ?_
          rintro e4 u4 w6 ⟨rfl, rfl, rfl⟩
          have hs1 := HV3.out.set1 (.slice none 0 0) (.int .i64 43)
          refine ⟨_, res30 (w.heap.size + 1) (w.heap.size + 2) _ _ _ _ rfl rfl hs1.1 hs1.2 _ _ _ _ rfl rfl, ?_⟩
          rw [HRN.out.1, HRN.out.2]
          exact CellsP.no (HV3.out.set _ _)
        | some y =>
          obtain ⟨rfl, g5, cap5, hk5⟩ := hh
          obtain ⟨p0, p1, p2, p3⟩ := HTK.out y rfl
          have hle : retTo a mp ≤ mp.toNat := Nat.min_le_right _ _
          have hy5 := HLN.out y rfl
          have HF5 := Lib.hid (HF4.out.moved (fun k hk => Or.inl hk) hk5 hy5 (by omega) (p3 _ hle))
          have hbk : w5.heap[wr.heap.size]? = w4.heap[wr.heap.size]? := (hk5.fr _ (.inr rfl)).2
          have HB5 : Hid (∀ i, w5.cell? ⟨wr.heap.size, i, none⟩ = (#[.int .i64 mk, .int .i64 mp, .int .i64 ml, .int .i64 mr, .int .i64 ms', .bool mi] : Array Value)[i]?) := Lib.hid (fun i => (cell_same hbk i).trans (HB4.out i))
          have HZ5 : Hid (wr.heap.size < w5.heap.size) := Lib.hid (Nat.lt_of_lt_of_le HZ4.out hk5.frs)
          have hI := isRelMove_any ⟨mk, mp, ml, mr, ms', mi⟩ w5
          clear hk5 hbk hle
          have x0 : w5.cell? ⟨wr.heap.size, 0, none⟩ = some (.int .i64 mk) := HB5.out 0
          have x1 : w5.cell? ⟨wr.heap.size, 1, none⟩ = some (.int .i64 mp) := HB5.out 1
          have x2 : w5.cell? ⟨wr.heap.size, 2, none⟩ = some (.int .i64 ml) := HB5.out 2
          have x3 : w5.cell? ⟨wr.heap.size, 3, none⟩ = some (.int .i64 mr) := HB5.out 3
          have x4 : w5.cell? ⟨wr.heap.size, 4, none⟩ = some (.int .i64 ms') := HB5.out 4
          have x5 : w5.cell? ⟨wr.heap.size, 5, none⟩ = some (.bool mi) := HB5.out 5
          have P3 := Lib.hid p3
          clear p3
          go_wp2_with fail
          cases hbm : isRM ⟨mk, mp, ml, mr, ms', mi⟩ with
          | false =>
            rw [hbm] at hI HSN
            clear hbm
            refine hI.mono ?_
            rintro e4 w6 ⟨rfl, hb6⟩
            have HF6 := Lib.hid ((HF5.out.below hb6).next)
            have HRR : Hid (runC p l (ms.take (k + 1)) = some (y, ds)) := Lib.hid HSN.out
            clear hb6 hI x0 x1 x2 x3 x4 x5 p0 p1 p2
            go_wp2
            go_roundw
            case rel => exact ⟨k + 1, y, ds, g5, cap5, retTo a mp, O', oc', C, cc, ds', L, by omega, by go_num, HRR.out, HF6.out⟩
            case measure => simp [intOf]; omega
          | true =>
            have HSH2 := Lib.hid (HSH.out y rfl hbm)
            have HCO2 := Lib.hid (HCO.out y rfl hbm)
            have HBM := Lib.hid hbm
            rw [hbm] at hI HSN
            clear hbm
            refine hI.mono ?_
            rintro e4 w6 ⟨rfl, hb6⟩
            have HF6 := Lib.hid (HF5.out.below hb6)
            have HB6 : Hid (∀ i, w6.cell? ⟨wr.heap.size, i, none⟩ = (#[.int .i64 mk, .int .i64 mp, .int .i64 ml, .int .i64 mr, .int .i64 ms', .bool mi] : Array Value)[i]?) := Lib.hid (fun i => (hb6.cell (p := ⟨wr.heap.size, i, none⟩) HZ5.out).trans (HB5.out i))
            have HRR : Hid (runC p l (ms.take (k + 1)) = some (y, ds ++ [cellM p x ⟨mk, mp, ml, mr, ms', mi⟩])) := Lib.hid HSN.out
            clear hb6 hI x0 x1 x2 x3 x4 x5
            have x0 : w6.cell? ⟨wr.heap.size, 0, none⟩ = some (.int .i64 mk) := HB6.out 0
            have x1 : w6.cell? ⟨wr.heap.size, 1, none⟩ = some (.int .i64 mp) := HB6.out 1
            have x2 : w6.cell? ⟨wr.heap.size, 2, none⟩ = some (.int .i64 ml) := HB6.out 2
            have x3 : w6.cell? ⟨wr.heap.size, 3, none⟩ = some (.int .i64 mr) := HB6.out 3
            have x4 : w6.cell? ⟨wr.heap.size, 4, none⟩ = some (.int .i64 ms') := HB6.out 4
            have x5 : w6.cell? ⟨wr.heap.size, 5, none⟩ = some (.bool mi) := HB6.out 5
            by_cases hL : 1000000 < L
            · have hA := add_over rb kb L ⟨mk, mp, ml, mr, ms', mi⟩ w6 HF6.out.recd.c3 hL (by have := HF6.out.top; omega)
              clear p0 p1 p2
              go_wp2_with fail
              refine hA.mono ?_
              rintro e5 w7 ⟨rfl, hb7⟩
              have HF7 := Lib.hid ((HF6.out.below hb7).nextOver hL (cellM p x ⟨mk, mp, ml, mr, ms', mi⟩))
              clear hb7 hA x0 x1 x2 x3 x4 x5
              go_wp2
              go_roundw
              case rel => exact ⟨k + 1, y, _, g5, cap5, retTo a mp, O', oc', C, cc, ds', L, by omega, by go_num, HRR.out, HF7.out⟩
              case measure => simp [intOf]; omega
            · have hA := add_any w1 p R rc kb mb g5 cap5 y w6 HF6.out.walk HP.out (HR.out.below HVE.out.old) (rb + 1) rb O' oc' C cc (retTo a mp) ds' L HF6.out.recd HF6.out.place HF6.out.off HF6.out.lo hy5 (by omega) (by have := HF6.out.few; omega) ⟨mk, mp, ml, mr, ms', mi⟩ p0 p2 HSH2.out.1 HSH2.out.2.1 HSH2.out.2.2 HBM.out
              have HQ : Hid (mp.toNat ≤ y.length) := Lib.hid (by omega)
              clear p0 p1 p2
              go_wp2_with fail
              refine hA.mono ?_
              intro e5 w7 hap
              have hcc := HCT.out y rfl
              rw [hcc] at hap
              have hcl : (cellM p x ⟨mk, mp, ml, mr, ms', mi⟩).conj.length ≤ 200000 := by
                have h1 := HCO2.out
                unfold cellB at h1
                rw [Bool.and_eq_true] at h1
                have := isWd_len h1.2
                omega
              obtain ⟨rfl, O6, oc6, C6, cc6, hfm7⟩ := HF6.out.nextAdd (by omega) HQ.out hcl hap
              have HF7 := Lib.hid hfm7
              clear hap hfm7 hA x0 x1 x2 x3 x4 x5 hcc hcl
              go_wp2
              go_roundw
              case rel => exact ⟨k + 1, y, _, g5, cap5, _, O6, oc6, C6, cc6, _, _, by omega, by go_num, HRR.out, HF7.out⟩
              case measure => simp [intOf]; omega
      · obtain rfl : k = ms.length := by omega
        have HRN : Hid (runC p l ms = some (x, ds)) := Lib.hid (by have := HRUN.out; rwa [List.take_length] at this)
        have HRES := Lib.hid (HA.out _ HRN.out)
        have hIO := isOver_any rb L wr HF.out.recd.c3
        have z1 := HV2.out.v
        have z2 : wr.cell? ⟨w.heap.size + 1 + 1, 0, none⟩ = some (.int .i64 0) := HV2.out.e
        have y1 := HV2.out.fv
        have y2 : wr.frozen? ⟨w.heap.size + 1 + 1, 0, none⟩ = false := HV2.out.fe
        by_cases hL : 1000000 < L
        · have hd1 : decide ((1000000 : Int) < (L : Int)) = true := by simp; omega
          have HCJ : Hid (¬ conjs ds ≤ 1000000) := Lib.hid (by have := HF.out.over hL; omega)
          go_wp2_with fail
          refine hIO.mono ?_
          rintro e4 w4 ⟨rfl, rfl⟩
          clear hIO
          go_wp2
          refine leaves_cons (f := 62) (args := #[.pointer (some ⟨w.heap.size + 1, 0, none⟩), .pointer (some ⟨w.heap.size + 2, 0, none⟩)]) (by simp) (by simp [go_sem]) ?_
          refine (catchB_no (w.heap.size + 1) (w.heap.size + 2) _).mono ?_
          rintro e4 u4 w4 ⟨rfl, rfl, rfl⟩
          have hs1 := HV2.out.set1 (.slice none 0 0) (.int .i64 2)
          refine ⟨_, res30 (w.heap.size + 1) (w.heap.size + 2) _ _ _ _ rfl rfl hs1.1 hs1.2 _ _ _ _ rfl rfl, ?_⟩
          rw [HRES.out.1, HRES.out.2, if_neg HCJ.out, if_neg HCJ.out]
          exact CellsP.no (HV2.out.set _ _)
        · have hd1 : decide ((1000000 : Int) < (L : Int)) = false := by simp; omega
          have HSM := Lib.hid (HF.out.same (by omega))
          have HCJ : Hid (conjs ds ≤ 1000000) := Lib.hid (by have h1 := HF.out.count; rw [HSM.out] at h1; omega)
          have k2 : wr.cell? ⟨rb, 2, none⟩ = some (.slice C ds'.length cc) := HF.out.recd.c2
          go_wp2_with fail
          refine hIO.mono ?_
          rintro e4 w4 ⟨rfl, rfl⟩
          clear hIO
          go_wp2
          refine leaves_cons (f := 62) (args := #[.pointer (some ⟨w.heap.size + 1, 0, none⟩), .pointer (some ⟨w.heap.size + 2, 0, none⟩)]) (by simp) (by simp [go_sem]) ?_
          refine (catchB_no (w.heap.size + 1) (w.heap.size + 2) _).mono ?_
          rintro e4 u4 w4 ⟨rfl, rfl, rfl⟩
          have hs1 := HV2.out.set1 (.slice C ds'.length cc) (.int .i64 0)
          refine ⟨_, res30 (w.heap.size + 1) (w.heap.size + 2) _ _ _ _ rfl rfl hs1.1 hs1.2 _ _ _ _ rfl rfl, ?_⟩
          rw [HRES.out.1, HRES.out.2, if_pos HCJ.out, if_pos HCJ.out, HSM.out]
          have hown := HF.out.recd.own
          rw [HSM.out] at hown
          have hrb := HF.out.lo
          have hv1 := HVE.out.lt
          refine CellsP.of_own (own_same hown (fun k hk => HV2.out.setBlock _ _ k ?_)) ?_ (HV2.out.set _ _)
          · rw [ownBlock_slice] at hk
            have := (blk_lt hown _ hk).1
            omega
          · intro c hc
            have h1 := (runC_inv HP.out HLW.out HRN.out).cells c hc
            unfold cellB at h1
            rw [Bool.and_eq_true] at h1
            have := isWd_len h1.2
            omega
end Go.Proofs.Ytbcckfggnlmhoaa
