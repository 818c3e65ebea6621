/-
  Our own text, in the proofs of the laws of package rope. Proved here: what the closure of expand has written, and its call at a node that has been written. Conditions: the nodes lie in memory below the closure's own blocks.
-/
import Derived.Test.YtgklmcinbaghmaaGreatDoorRq
namespace Go.Proofs.YtgklmcinbaghmaaGreatDoor
open Go Go.RowKit

abbrev wrV (X : Nat) : Value := .func (.func 61) #[] #[.pointer (some ⟨X + 4, 0, none⟩), .pointer (some ⟨X + 2, 0, none⟩), .pointer (some ⟨X + 1, 0, none⟩), .pointer (some ⟨X, 0, none⟩), .pointer (some ⟨X + 5, 0, none⟩)]

/-- How many nodes are known. -/
def cnt (n : Nat) (f : Int → Option Value) : Nat := (List.range n).countP fun (j : Nat) => (f (j : Int)).isSome
theorem cnt_le (n : Nat) (f : Int → Option Value) : cnt n f ≤ n := by
  have := List.countP_le_length (p := fun (j : Nat) => (f (j : Int)).isSome) (l := List.range n)
  simpa [cnt] using this
theorem cnt_put (f : Int → Option Value) (k : Nat) (v : Value) (hf : f k = none) : ∀ n, cnt n (putF f k v) = cnt n f + if k < n then 1 else 0 := by
  intro n
  induction n with
  | zero => simp [cnt]
  | succ n ih =>
    unfold cnt at ih ⊢
    rw [List.range_succ, List.countP_append, List.countP_append, ih]
    by_cases h : k = n
    · subst h
      simp [putF, hf]
    · have hne : ((n : Nat) : Int) ≠ (k : Int) := by omega
      have e : (putF f (k : Int) v) (n : Int) = f (n : Int) := by simp [putF, hne]
      simp only [List.countP_cons, List.countP_nil, e]
      by_cases h2 : k < n
      · have h3 : k < n + 1 := by omega
        simp only [h2, h3, if_true]; omega
      · have h3 : ¬ k < n + 1 := by omega
        simp only [h2, h3, if_false]; omega

theorem own_below {w w' : World} {B e size n : Nat} {v : Value} {xs : List Value} (h : w.ownsRow B e size v n xs) (hb : ∀ k, k < w.heap.size → w'.heap[k]? = w.heap[k]?) : w'.ownsRow B e size v n xs := by
  refine ⟨h.1, ?_⟩
  rcases h.2 with h1 | ⟨g, cap, cur, hv, hg, hh, rest⟩
  · exact .inl h1
  · exact .inr ⟨g, cap, cur, hv, hg, by rw [hb g (Array.getElem?_eq_some_iff.1 hh).1]; exact hh, rest⟩

/-- The state of expand: T has been written, f says where the nodes begin that have been. -/
structure Wr (w0 : World) (r : List Nd) (L : List Nat) (sl : Value) (B X : Nat) (w : World) (T : List UInt8) (f : Int → Option Value) : Prop where
  below : Below X w0 w
  rope : Blk w X 22 #[sl]
  len : Blk w (X + 1) 50 #[envV 76 B]
  out : ∃ Ao co, Blk w (X + 2) 72 #[.slice Ao T.length co] ∧ w.ownsRow (X + 6) 5 1 (.slice Ao T.length co) T.length (bs T)
  starts : Blk w (X + 4) 102 #[.map (some (X + 3))]
  self : Blk w (X + 5) 103 #[wrV X]
  memo : MemoAt w (X + 3) (cnt r.length f) f
  known : ∀ (k : Int) v, f k = some v → ∃ (j s : Nat), k = j ∧ j < r.length ∧ v = .int .i64 s ∧ s + L.getD j 0 ≤ T.length ∧ (T.drop s).take (L.getD j 0) = (dens r).getD j []
  size : X + 6 ≤ w.heap.size
theorem Wr.on {w0 : World} {r : List Nd} {L : List Nat} {sl : Value} {B X : Nat} {w w' : World} {T : List UInt8} {f : Int → Option Value} (h : Wr w0 r L sl B X w T f) (hb : Below w.heap.size w w') : Wr w0 r L sl B X w' T f where
  below := h.below.trans (hb.mono (by have := h.size; omega))
  rope := h.rope.below hb h.rope.lt
  len := h.len.below hb h.len.lt
  out := by
    obtain ⟨Ao, co, h1, h2⟩ := h.out
    exact ⟨Ao, co, h1.below hb h1.lt, own_below h2 hb.block⟩
  starts := h.starts.below hb h.starts.lt
  self := h.self.below hb h.self.lt
  memo := h.memo.block (hb.block _ h.memo.lt)
  known := h.known
  size := Nat.le_trans h.size hb.size

/-- Blocks of cells that are no bytes stay, but for the variable out. -/
def KeepsX (X : Nat) (w w' : World) : Prop := ∀ b t cs, t ≠ 5 → b ≠ X + 2 → Blk w b t cs → Blk w' b t cs
theorem KeepsX.refl (X : Nat) (w : World) : KeepsX X w w := fun _ _ _ _ _ h => h
theorem KeepsX.trans {X : Nat} {a b c : World} (h : KeepsX X a b) (k : KeepsX X b c) : KeepsX X a c := fun x t cs ht hx hb => k x t cs ht hx (h x t cs ht hx hb)
theorem KeepsX.of_keeps {X : Nat} {a b : World} (h : Keeps a b) : KeepsX X a b := fun x t cs ht _ hb => h x t cs ht hb
theorem KeepsX.set {X : Nat} (w : World) (v : Value) : KeepsX X w (w.setCell ⟨X + 2, 0, none⟩ v) := fun b t cs _ hx hb => by
  show (w.setCell ⟨X + 2, 0, none⟩ v).heap[b]? = _
  rw [heap_setCell_ne _ _ _ _ (by simpa using hx)]; exact hb
theorem KeepsX.grown {X : Nat} {w w' : World} {n : Nat} {f : Int → Option Value} (hm : MemoAt w (X + 3) n f) (hg : w.grownBy w' (some (X + 3))) : KeepsX X w w' := by
  intro b t cs _ _ hb
  by_cases h : b = X + 3
  · subst h
    obtain ⟨D, _, ⟨es, clock, h2, _⟩, _⟩ := hm
    unfold Blk at hb
    rw [h2] at hb
    cases hb
  · exact (hg.block b hb.lt (by simpa using h)).trans hb

def WrPost (w0 : World) (r : List Nd) (L : List Nat) (sl : Value) (B X : Nat) (T : List UInt8) (f : Int → Option Value) (k : Nat) (w : World) (e : Ending) (w' : World) : Prop :=
  e = .returned (.tuple #[]) ∧ ∃ f', Wr w0 r L sl B X w' (T ++ (dens r).getD k []) f' ∧ (∀ j : Nat, k < j → f' j = f j) ∧ KeepsX X w w'

/-- What is known stays known when more is written. -/
theorem known_more {r : List Nd} {L : List Nat} {T U : List UInt8} {f : Int → Option Value}
    (h : ∀ (k : Int) v, f k = some v → ∃ (j s : Nat), k = j ∧ j < r.length ∧ v = .int .i64 s ∧ s + L.getD j 0 ≤ T.length ∧ (T.drop s).take (L.getD j 0) = (dens r).getD j []) :
    ∀ (k : Int) v, f k = some v → ∃ (j s : Nat), k = j ∧ j < r.length ∧ v = .int .i64 s ∧ s + L.getD j 0 ≤ (T ++ U).length ∧ ((T ++ U).drop s).take (L.getD j 0) = (dens r).getD j [] := by
  intro k v hk
  obtain ⟨j, s, h1, h2, h3, h4, h5⟩ := h k v hk
  refine ⟨j, s, h1, h2, h3, by rw [List.length_append]; omega, ?_⟩
  rw [List.drop_append_of_le_length (by omega), List.take_append_of_le_length (by rw [List.length_drop]; omega), h5]

theorem wf_small {k : Nat} (h : k ≤ 1000000) : (Lit.int .i64 (k : Int)).wf = true := WalkArith.wf_i64 (by omega)

/-- out is stored anew. -/
theorem Wr.stored {w0 : World} {r : List Nd} {L : List Nat} {sl : Value} {B X : Nat} {w w2 : World} {T U : List UInt8} {f : Int → Option Value} (h : Wr w0 r L sl B X w T f) {Ao : Option Addr} {co : Nat}
    (hown : w2.ownsRow (X + 6) 5 1 (.slice Ao (T.length + U.length) co) (T.length + U.length) (bs (T ++ U))) (hb : Below (X + 6) w w2) :
    Wr w0 r L sl B X (w2.setCell ⟨X + 2, 0, none⟩ (.slice Ao (T.length + U.length) co)) (T ++ U) f := by
  obtain ⟨Ai, ci, o1, o2⟩ := h.out
  have hs := h.size
  have hs2 := hb.size
  have blk : ∀ i, i < X + 6 → i ≠ X + 2 → (w2.setCell ⟨X + 2, 0, none⟩ (.slice Ao (T.length + U.length) co)).heap[i]? = w.heap[i]? := fun i hi hne => by
    rw [heap_setCell_ne _ _ _ _ (by simpa using hne), hb.block i hi]
  exact {
    below := (h.below.trans (hb.mono (by omega))).setCell (p := ⟨X + 2, 0, none⟩) (by simp) _
    rope := (blk _ (by omega) (by omega)).trans h.rope
    len := (blk _ (by omega) (by omega)).trans h.len
    out := ⟨Ao, co, by
      have := (o1.below hb (by omega)).set_ 0 (.slice Ao (T.length + U.length) co)
      rw [List.length_append]; exact this, by
      rw [List.length_append]
      refine ⟨hown.1, ?_⟩
      rcases hown.2 with h1 | ⟨g, cap, cur, hv, hg, hh, rest⟩
      · exact .inl h1
      · exact .inr ⟨g, cap, cur, hv, hg, by rw [heap_setCell_ne _ _ _ _ (by simp; omega)]; exact hh, rest⟩⟩
    starts := (blk _ (by omega) (by omega)).trans h.starts
    self := (blk _ (by omega) (by omega)).trans h.self
    memo := h.memo.block (blk _ (by omega) (by omega))
    known := known_more h.known
    size := by simp [World.setCell]; omega }

set_option maxHeartbeats 4000000 in
set_option maxRecDepth 100000 in
theorem write_known (w0 : World) (r : List Nd) (L : List Nat) (A : Option Addr) (cap B X : Nat) (hX : X = w0.heap.size) (hl : lens r = some L) (sl0 : Value) (henv : EnvI w0 B sl0 lenM L.length (memoL L)) (k : Nat) (hk : k < r.length) (w : World) (T : List UInt8) (f : Int → Option Value) (h : Wr w0 r L (.slice A r.length cap) B X w T f) (hT : T.length + L.getD k 0 ≤ 100000) (v : Value) (hf : f k = some v) :
    Calls Tryz.prog 61 #[.int .i64 (k : Int), .pointer (some ⟨X + 4, 0, none⟩), .pointer (some ⟨X + 2, 0, none⟩), .pointer (some ⟨X + 1, 0, none⟩), .pointer (some ⟨X, 0, none⟩), .pointer (some ⟨X + 5, 0, none⟩)] w (WrPost w0 r L (.slice A r.length cap) B X T f k w) := by
  obtain ⟨k1, k2, k3⟩ := lens_ok hl
  obtain ⟨j, s, hj, _, rfl, hs1, hs2⟩ := h.known _ _ hf
  obtain rfl : k = j := by omega
  have hlp := (okL_get k2 (i := k) (by omega)).1
  have hlook := h.memo.look_some Tryz.underlying102 (zero3 w) k (wf_small (by omega)) hf
  obtain ⟨Ao, co, o1, o2⟩ := h.out
  have hbX : Below w0.heap.size w0 w := by rw [← hX]; exact h.below
  have hv := fun w1 (hb : Below w0.heap.size w0 w1) => value_at w1 B sl0 L (by omega) (henv.on hb) (k : Int) (by omega)
  simp only [Int.toNat_natCast] at hv
  have hd : Hid ((T.drop s).take (L.getD k 0) = (dens r).getD k []) := Lib.hid hs2
  have hX4 := h.starts.lt
  have hsz := h.size
  have c4 := h.starts.cell 0
  have c2 := o1.cell 0
  have c1 := h.len.cell 0
  obtain ⟨g, rfl, _⟩ := own_cell o2 (j := 0) (by omega)
  have hcap : T.length ≤ co := by
    rcases o2.2 with ⟨h2, h3⟩ | ⟨g', c', cur, hv, hg, hh, hnc, hcm, hcs, ht⟩
    · cases h2
    · simp only [Value.slice.injEq, true_and] at hv; omega
  have hcmax : co ≤ maxLen := by
    rcases o2.2 with ⟨h2, h3⟩ | ⟨g', c', cur, hv, hg, hh, hnc, hcm, hcs, ht⟩
    · cases h2
    · simp only [Value.slice.injEq, true_and] at hv; omega
  unfold maxLen at hcmax
  have H := Lib.hid h
  have HO := Lib.hid o2
  have HBX := Lib.hid hbX
  obtain ⟨m, hm⟩ : ∃ m, L.getD k 0 = m := ⟨_, rfl⟩
  rw [hm] at hs1 hd hT hlp hv
  obtain ⟨n, hn⟩ : ∃ n, T.length = n := ⟨_, rfl⟩
  rw [hn] at hs1 hT c2 HO hcap
  have HN := Lib.hid hn
  have HV := Lib.hid hv
  have HM := Lib.hid hm
  have HX := Lib.hid hX
  clear hl henv hf h o1 o2 hbX k1 k2 hs2 hm hn hv hX
  go_enter Tryz.func61, Tryz.ntmps61
  go_wp2
  have d4 : (World.drew w).cell? ⟨X + 4, 0, none⟩ = some (.map (some (X + 3))) := c4
  have d2 : (World.drew w).cell? ⟨X + 2, 0, none⟩ = some (.slice (some ⟨g, 0, none⟩) n co) := c2
  have d1 : (World.drew w).cell? ⟨X + 1, 0, none⟩ = some (envV 76 B) := c1
  have hv1 := Lib.hid ((HV.out (World.drew w) (HBX.out.drew)).mono fun _ _ h => (⟨h.1, h.2.symm⟩ : _ ∧ _))
  refine wp_region_still_tail 9 (by kernel_rfl) (by kernel_rfl) ?_
  change wpStill _ _ (World.drew w) (fun a' => wpList _ _ _ _ a' (World.drew w)) _ _
  clear c4 c2 c1
  generalize hw1 : World.drew w = w1 at *
  have HW1 := Lib.hid hw1
  clear hw1
  have q1 : 0 ≤ (s : Int) + (m : Int) := by omega
  have q2 : (s : Int) + (m : Int) ≤ (co : Int) := by omega
  have q3 : ((s : Int) + (m : Int)).toNat = s + m := by omega
  have q5 : ¬ (co = s) := by omega
  have hadd : IntKind.i64.wrap ((s : Int) + (m : Int)) = (s : Int) + (m : Int) := IntWalk.i64_in _ (by omega)
  simp only [List.take_succ_cons, List.take_zero, List.drop_succ_cons, List.drop_zero]
  repeat still_step
  still_call (hv1.out)
  repeat still_step
  refine wpStill_nil ?_
  have HRW := Lib.hid (show World.drew w = w1 from HW1.out)
  have HOW : Hid (w1.ownsRow (X + 6) 5 1 (.slice (some ⟨g, 0, none⟩) n co) n (bs T)) := Lib.hid (by rw [← HW1.out]; exact HO.out)
  have HBW : Hid (Below w.heap.size w w1) := Lib.hid (by rw [← HW1.out]; exact (Below.refl _ w).drew)
  have hw1s : w.heap.size ≤ w1.heap.size := HBW.out.size
  clear d4 d1 hlook
  change wpList _ _ _ _ _ w1
  refine append_self w1 rfl (.tmp 17) (.tmp 25) rfl (X + 6) g n co T s m _ rfl HOW.out rfl (by omega) (by omega) (by omega) ?_
  intro A' cap' w2 hown2 hb2 hk2
  have hsX : X + 2 < X + 6 := by omega
  have hbw2 : Below (X + 6) w w2 := (HBW.out.mono (by omega)).trans hb2
  obtain ⟨Ao2, co2, o1, _⟩ := H.out.out
  have hblk := (o1.below hbw2 hsX)
  have e2 := hblk.cell 0
  have z2 := hblk.frozen 0
  have HKW := Lib.hid (show KeepsX X w w2 from (KeepsX.of_keeps (Keeps.of_below HBW.out)).trans (KeepsX.of_keeps hk2))
  have HO2 := Lib.hid hown2
  have HB2 := Lib.hid hbw2
  clear hown2 hb2 hk2 hbw2 o1 hblk d2
  go_wp2
  go_end0
  refine ⟨rfl, f, ?_, fun _ _ => rfl, HKW.out.trans (KeepsX.set _ _)⟩
  have hlen : ((dens r).getD k []).length = m := by rw [← hd.out, List.length_take, List.length_drop, HN.out]; omega
  have := H.out.stored (U := (dens r).getD k []) (Ao := A') (co := cap') (w2 := w2) (by rw [hlen, HN.out, ← hd.out]; exact HO2.out) HB2.out
  rw [hlen, HN.out] at this
  exact this
end Go.Proofs.YtgklmcinbaghmaaGreatDoor
