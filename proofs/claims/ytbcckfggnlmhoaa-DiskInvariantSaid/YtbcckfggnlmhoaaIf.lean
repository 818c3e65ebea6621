/-
  Our own text, in the proofs of the laws of package disk (cayleylaw04). Proved here: the walk's methods insert, part, remove. Conditions: the walk lies in memory as newWalk leaves it.
-/
import Derived.Test.YtbcckfggnlmhoaaIe
namespace Go.Proofs.Ytbcckfggnlmhoaa
open Go Go.RowKit

/-- A move. -/
structure Mv where
  kind : Int
  pos : Int
  letter : Int
  rel : Int
  shift : Int
  inv : Bool
def mvC (m : Mv) : Array Value := #[.int .i64 m.kind, .int .i64 m.pos, .int .i64 m.letter, .int .i64 m.rel, .int .i64 m.shift, .bool m.inv]
def mvV (m : Mv) : Value := .agg (mvC m)

/-- The methods by their kinds. -/
def methF : Int → Option Value := putF (putF (putF (putF (fun _ => none) 1 (.func (.func 84) #[] #[])) 2 (.func (.func 85) #[] #[])) 3 (.func (.func 86) #[] #[])) 4 (.func (.func 87) #[] #[])

/-- The walk, in block kb, with the word l in block g. -/
structure WkAt (w : World) (p : Pr) (R : Option Addr) (rc : Nat) (kb mb g cap : Nat) (l : List UInt8) (W : World) : Prop where
  old : Below w.heap.size w W
  kbl : w.heap.size ≤ kb
  kbs : kb < W.heap.size
  gl : w.heap.size ≤ g
  gk : g ≠ kb
  mkb : mb ≠ kb
  mg : mb ≠ g
  c0 : W.cell? ⟨kb, 0, none⟩ = some (.int .i64 p.k)
  c1 : W.cell? ⟨kb, 1, none⟩ = some (.slice R p.rels.length rc)
  c2 : W.cell? ⟨kb, 2, none⟩ = some (.slice (some ⟨g, 0, none⟩) l.length cap)
  c3 : W.cell? ⟨kb, 3, none⟩ = some (.map (some mb))
  f2 : W.frozen? ⟨kb, 2, none⟩ = false
  word : WRow W g cap l
  memo : MemoAt W mb 4 methF

theorem WkAt.below {w : World} {p : Pr} {R : Option Addr} {rc kb mb g cap : Nat} {l : List UInt8} {W W' : World} (h : WkAt w p R rc kb mb g cap l W) (hb : Below W.heap.size W W') : WkAt w p R rc kb mb g cap l W' := by
  have hc : ∀ i, W'.cell? ⟨kb, i, none⟩ = W.cell? ⟨kb, i, none⟩ := fun i => hb.cell (p := ⟨kb, i, none⟩) h.kbs
  exact ⟨h.old.trans (hb.mono h.old.size), h.kbl, Nat.lt_of_lt_of_le h.kbs hb.size, h.gl, h.gk, h.mkb, h.mg, (hc 0).trans h.c0, (hc 1).trans h.c1, (hc 2).trans h.c2, (hc 3).trans h.c3,
    (hb.frozen (p := ⟨kb, 2, none⟩) h.kbs).trans h.f2, h.word.below hb, h.memo.kept (grown_of_below hb none) (by simp)⟩

theorem WkAt.upd {w : World} {p : Pr} {R : Option Addr} {rc kb mb g cap : Nat} {l : List UInt8} {W W' : World} (h : WkAt w p R rc kb mb g cap l W) {g' cap' : Nat} {l' : List UInt8} (hw : WRow W' g' cap' l') (hg : W.grownBy W' (some g)) (hn : g' = g ∨ W.heap.size ≤ g') :
    WkAt w p R rc kb mb g' cap' l' (W'.setCell ⟨kb, 2, none⟩ (.slice (some ⟨g', 0, none⟩) l'.length cap')) := by
  have hkb := h.kbs
  have hml := h.memo.lt
  have hos := h.old.size
  have hcb : W'.heap[kb]? = W.heap[kb]? := hg.block kb hkb (fun e => h.gk (by simpa using e.symm))
  have hc : ∀ i, W'.cell? ⟨kb, i, none⟩ = W.cell? ⟨kb, i, none⟩ := fun i => World.cell?_of_block (w := W) (a := ⟨kb, i, none⟩) hcb
  have hgk : g' ≠ kb := by rcases hn with rfl | hn; exact h.gk; omega
  have hmg : mb ≠ g' := by rcases hn with rfl | hn; exact h.mg; omega
  have hB1 : Below w.heap.size w W' := h.old.grown hg h.old.size (fun k hk => by cases hk; exact h.gl)
  have hS : W'.grownBy (W'.setCell ⟨kb, 2, none⟩ (.slice (some ⟨g', 0, none⟩) l'.length cap')) (some kb) := ⟨rfl, rfl, rfl, by rw [World.size_setCell]; exact Nat.le_refl _, fun k _ hk => heap_setCell_other W' ⟨kb, 2, none⟩ k _ (fun e => hk (by simp [e]))⟩
  refine ⟨hB1.setCell (p := ⟨kb, 2, none⟩) h.kbl _, h.kbl, by rw [World.size_setCell]; exact Nat.lt_of_lt_of_le hkb hg.size, by rcases hn with rfl | hn; exact h.gl; omega, hgk, h.mkb, hmg, ?_, ?_, ?_, ?_, ?_, hw.kept hS (by simpa using hgk), (h.memo.kept hg (by simpa using h.mg)).kept hS (by simpa using h.mkb)⟩
  · rw [World.cell?_setCell_other (h := by simp), hc]; exact h.c0
  · rw [World.cell?_setCell_other (h := by simp), hc]; exact h.c1
  · rw [World.cell?_setCell_same (h := (hc 2).trans h.c2)]
  · rw [World.cell?_setCell_other (h := by simp), hc]; exact h.c3
  · rw [World.frozen?_setCell]
    have := h.f2; unfold World.frozen? at this ⊢; simp only at this ⊢; rw [hcb]; exact this

theorem WkAt.at2 {w : World} {p : Pr} {R : Option Addr} {rc kb mb g cap : Nat} {l : List UInt8} {W W' : World} (h : WkAt w p R rc kb mb g cap l W) (hg : W.grownBy W' (some g)) :
    W'.cell? ⟨kb, 2, none⟩ = some (.slice (some ⟨g, 0, none⟩) l.length cap) ∧ W'.frozen? ⟨kb, 2, none⟩ = false := by
  have hcb : W'.heap[kb]? = W.heap[kb]? := hg.block kb h.kbs (fun e => h.gk (by simpa using e.symm))
  refine ⟨(World.cell?_of_block (w := W) (a := ⟨kb, 2, none⟩) hcb).trans h.c2, ?_⟩
  have := h.f2; unfold World.frozen? at this ⊢; simp only at this ⊢; rw [hcb]; exact this

/-- How a method ends. -/
def StepP (w : World) (p : Pr) (R : Option Addr) (rc kb mb : Nat) (r : Option (List UInt8)) (e : Ending) (w' : World) : Prop :=
  match r with
  | some l' => e = .returned (.tuple #[]) ∧ ∃ g cap, WkAt w p R rc kb mb g cap l' w'
  | none => e = .panicked pan ∧ Below w.heap.size w w'

def insAt (l : List UInt8) (i : Int) (v : List UInt8) : Option (List UInt8) := if 0 ≤ i ∧ i ≤ l.length ∧ l.length + v.length ≤ 100000 then some (l.take i.toNat ++ v ++ l.drop i.toNat) else none

set_option maxHeartbeats 2000000 in
set_option maxRecDepth 100000 in
theorem insert_any (w : World) (p : Pr) (R : Option Addr) (rc kb mb g cap : Nat) (l v : List UInt8) (W : World) (h : WkAt w p R rc kb mb g cap l W) (C vb vc : Nat) (hv : W.ownsRow C 5 1 (.slice (some ⟨vb, 0, none⟩) v.length vc) v.length (bs v)) (hne : vb ≠ g) (hm : 0 < v.length) (i : Int) (hl : l.length ≤ 100000) (hvl : v.length ≤ 1000) :
    Calls Try.prog 96 #[.pointer (some ⟨kb, 0, none⟩), .int .i64 i, .slice (some ⟨vb, 0, none⟩) v.length vc] W (StepP w p R rc kb mb (insAt l i v)) := by
  have H := Lib.hid h
  have c2 := h.c2
  by_cases hi : 0 ≤ i ∧ i ≤ l.length ∧ l.length + v.length ≤ 100000
  · have HI : Hid (insAt l i v = some (l.take i.toNat ++ v ++ l.drop i.toNat)) := Lib.hid (if_pos hi)
    obtain ⟨h0, h1, h2⟩ := hi
    obtain ⟨n, rfl⟩ := Int.eq_ofNat_of_zero_le h0
    have hn : n ≤ l.length := by omega
    have hI := Insert_any C g cap n vb vc l v W h.word hv hne hm hn (by omega)
    simp only [Int.toNat_natCast] at HI
    generalize l.take n ++ v ++ l.drop n = x at *
    have e1 : decide ((0 : Int) ≤ (n : Int)) = true := by simp
    have e2 : decide ((n : Int) ≤ (l.length : Int)) = true := by simpa using hn
    have e3 : decide ((l.length : Int) + (v.length : Int) ≤ 100000) = true := by simp; omega
    have e2' : decide (n ≤ l.length) = true := by simpa using hn
    have e3' : decide (l.length + v.length ≤ 100000) = true := by simpa using h2
    clear h h0 h1 h2 hv
    go_enter Try.func96, Try.ntmps96
    go_wp2_with fail
    refine (mustApply_yes _).mono ?_
    rintro e4 w4 ⟨rfl, rfl⟩
    go_wp2_with fail
    refine hI.mono ?_
    rintro e w1 ⟨g', cap', rfl, hw1, hg1, hn1⟩
    have HU := Lib.hid (H.out.upd hw1 hg1 hn1)
    obtain ⟨d2, df⟩ := H.out.at2 hg1
    clear hw1 hg1 hn1 hI c2
    go_wp2
    go_end0
    rw [HI.out]
    exact ⟨rfl, g', cap', HU.out⟩
  · have HI : Hid (insAt l i v = none) := Lib.hid (if_neg hi)
    have HO := Lib.hid h.old
    clear h hv
    by_cases h0 : 0 ≤ i
    · have e1 : decide (0 ≤ i) = true := by simpa using h0
      by_cases h1 : i ≤ l.length
      · have e2 : decide (i ≤ (l.length : Int)) = true := by simpa using h1
        have e3 : decide ((l.length : Int) + (v.length : Int) ≤ 100000) = false := by simp; omega
        have e3' : decide (l.length + v.length ≤ 100000) = false := by simp; omega
        clear hi
        go_enter Try.func96, Try.ntmps96
        go_wp2_with fail
        refine (mustApply_no _).mono ?_
        rintro e4 w4 ⟨rfl, rfl⟩
        go_wp2
        rw [HI.out]
        exact ⟨rfl, rfl, HO.out⟩
      · have e2 : decide (i ≤ (l.length : Int)) = false := by simpa using h1
        clear hi
        go_enter Try.func96, Try.ntmps96
        go_wp2_with fail
        refine (mustApply_no _).mono ?_
        rintro e4 w4 ⟨rfl, rfl⟩
        go_wp2
        rw [HI.out]
        exact ⟨rfl, rfl, HO.out⟩
    · have e1 : decide (0 ≤ i) = false := by simpa using h0
      clear hi
      go_enter Try.func96, Try.ntmps96
      go_wp2_with fail
      refine (mustApply_no _).mono ?_
      rintro e4 w4 ⟨rfl, rfl⟩
      go_wp2
      rw [HI.out]
      exact ⟨rfl, rfl, HO.out⟩

/-- A part of the word, as part hands it back. -/
def partOf (l : List UInt8) (i : Int) (n : Nat) : Option (List UInt8) := if 0 ≤ i ∧ i ≤ (l.length : Int) - n then some ((l.drop i.toNat).take n) else none

set_option maxHeartbeats 2000000 in
set_option maxRecDepth 100000 in
theorem part_any (w : World) (p : Pr) (R : Option Addr) (rc kb mb g cap : Nat) (l : List UInt8) (W : World) (h : WkAt w p R rc kb mb g cap l W) (i : Int) (n : Nat) (hn0 : 0 < n) (hl : l.length ≤ 100000) (hn : n ≤ 1000) :
    Calls Try.prog 97 #[.pointer (some ⟨kb, 0, none⟩), .int .i64 i, .int .i64 n] W fun e w' => W = w' ∧ ((0 ≤ i ∧ i ≤ (l.length : Int) - n ∧ e = .returned (.slice (some ⟨g, i.toNat, none⟩) n (cap - i.toNat))) ∨ (¬ (0 ≤ i ∧ i ≤ (l.length : Int) - n) ∧ e = .panicked pan)) := by
  have c2 := h.c2
  have hcap := h.word.1
  have hmx : cap ≤ 9223372036854775807 := by have := h.word.max; unfold maxLen at this; omega
  by_cases hi : 0 ≤ i ∧ i ≤ (l.length : Int) - n
  · have HI := Lib.hid hi
    obtain ⟨h0, h1⟩ := hi
    obtain ⟨k, rfl⟩ := Int.eq_ofNat_of_zero_le h0
    have e1 : decide ((0 : Int) ≤ (k : Int)) = true := by simp
    have e2 : decide ((k : Int) ≤ (l.length : Int) - (n : Int)) = true := by simpa using h1
    have hk1 : k ≤ k + n := by omega
    have hk2 : k + n ≤ cap := by omega
    have hk3 : ¬ (cap = k) := by omega
    have hk4 : (k : Int) ≤ (k : Int) + (n : Int) := by omega
    have hk5 : (k : Int) + (n : Int) ≤ (cap : Int) := by omega
    have hk6 : ((k : Int) + (n : Int)).toNat = k + n := by omega
    have hk7 : k + n - k = n := by omega
    clear h h0 h1
    go_enter Try.func97, Try.ntmps97
    go_wp2_with fail
    refine (mustApply_yes _).mono ?_
    rintro e4 w4 ⟨rfl, rfl⟩
    go_wp2
    go_ret
    exact ⟨rfl, .inl ⟨HI.out.1, HI.out.2, by simp [hk7]⟩⟩
  · have HI := Lib.hid hi
    clear h
    by_cases h0 : 0 ≤ i
    · have e1 : decide (0 ≤ i) = true := by simpa using h0
      have e2 : decide (i ≤ (l.length : Int) - (n : Int)) = false := by simp; omega
      clear hi
      go_enter Try.func97, Try.ntmps97
      go_wp2_with fail
      refine (mustApply_no _).mono ?_
      rintro e4 w4 ⟨rfl, rfl⟩
      go_wp2
      exact ⟨rfl, rfl, .inr ⟨HI.out, rfl⟩⟩
    · have e1 : decide (0 ≤ i) = false := by simpa using h0
      clear hi
      go_enter Try.func97, Try.ntmps97
      go_wp2_with fail
      refine (mustApply_no _).mono ?_
      rintro e4 w4 ⟨rfl, rfl⟩
      go_wp2
      exact ⟨rfl, rfl, .inr ⟨HI.out, rfl⟩⟩

set_option maxHeartbeats 2000000 in
set_option maxRecDepth 100000 in
theorem remove_any (w : World) (p : Pr) (R : Option Addr) (rc kb mb g cap : Nat) (l : List UInt8) (W : World) (h : WkAt w p R rc kb mb g cap l W) (i n : Nat) (hi : i + n ≤ l.length) (hl : l.length ≤ 100000) :
    Calls Try.prog 98 #[.pointer (some ⟨kb, 0, none⟩), .int .i64 i, .int .i64 n] W (StepP w p R rc kb mb (some (l.take i ++ l.drop (i + n)))) := by
  have H := Lib.hid h
  have c2 := h.c2
  have hI := Delete_any g cap i (i + n) l W h.word (by omega) hi
  rw [Int.natCast_add] at hI
  generalize l.take i ++ l.drop (i + n) = x at *
  clear h
  go_enter Try.func98, Try.ntmps98
  go_wp2_with fail
  refine hI.mono ?_
  rintro e w1 ⟨rfl, hw1, hg1⟩
  have HU := Lib.hid (H.out.upd hw1 hg1 (.inl rfl))
  obtain ⟨d2, df⟩ := H.out.at2 hg1
  clear hw1 hg1 hI c2
  go_wp2
  go_end0
  exact ⟨rfl, g, cap, HU.out⟩
end Go.Proofs.Ytbcckfggnlmhoaa
