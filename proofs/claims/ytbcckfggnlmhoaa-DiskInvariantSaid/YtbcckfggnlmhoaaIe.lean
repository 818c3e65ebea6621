/-
  Our own text, in the proofs of the laws of package disk (cayleylaw04). Proved here: mustApply, letterWith, relator (a row of the call's own); the walk's methods insert, part, remove; the walk's method rotated; the walk's methods insertRel and deleteRel; the walk's method deleteRel. Conditions: the arguments lie in memory as the slices say; bounds; where a presentation is named valid, it is.
-/
import Derived.Test.YtbcckfggnlmhoaaIa
import Derived.Test.YtbcckfggnlmhoaaEa
import Derived.StillTailTactics
namespace Go.Proofs.Ytbcckfggnlmhoaa
open Go Go.RowKit

/-- A move that does not apply. -/
def pan : List PanicEntry := [{ v := .iface 26 (.int .i64 43), recovered := false }]

theorem mustApply_yes (w : World) : Calls Try.prog 88 #[.bool true] w fun e w' => e = .returned (.tuple #[]) ∧ w = w' := by
  go_enter Try.func88, Try.ntmps88
  go_wp2
  go_end0
  exact ⟨rfl, rfl⟩
theorem mustApply_no (w : World) : Calls Try.prog 88 #[.bool false] w fun e w' => e = .panicked pan ∧ w = w' := by
  go_enter Try.func88, Try.ntmps88
  go_wp2
  exact ⟨rfl, rfl, rfl⟩

def ltr (n : Nat) : UInt8 := if n % 2 = 0 then UInt8.ofNat (97 + n / 2) else invc (UInt8.ofNat (97 + n / 2))
theorem ltr_add : ∀ n : Nat, n < 16 → 97 + (n : Int) / 2 = ((UInt8.ofNat (97 + n / 2)).toNat : Int) := by decide +kernel
theorem ltr_let : ∀ n : Nat, n < 16 → letB 8 (ltr n) = true := by decide +kernel

set_option maxHeartbeats 1000000 in
theorem letterWith_any (n : Nat) (hn : n < 16) (w : World) : Calls Try.prog 95 #[.int .i64 n] w fun e w' => e = .returned (.int .u8 (ltr n).toNat) ∧ w = w' := by
  have H1 := Lib.hid (ltr_add n hn)
  have HX := Lib.hid (xor_u8_32 (UInt8.ofNat (97 + n / 2)))
  by_cases hp : n % 2 = 0
  · have HE : Hid (ltr n = UInt8.ofNat (97 + n / 2)) := Lib.hid (if_pos hp)
    have hd : ((n : Int) % 2 == 0) = true := by rw [beq_iff_eq]; omega
    clear hp
    go_enter Try.func95, Try.ntmps95
    go_wp2
    go_ret
    exact ⟨ret_int (by rw [HE.out]; exact H1.out), rfl⟩
  · have HO : Hid (ltr n = invc (UInt8.ofNat (97 + n / 2))) := Lib.hid (if_neg hp)
    have hd : ((n : Int) % 2 == 0) = false := by rw [beq_eq_false_iff_ne]; omega
    clear hp
    go_enter Try.func95, Try.ntmps95
    go_wp2
    go_ret
    exact ⟨ret_int (by rw [HO.out, ← HX.out, ← H1.out]), rfl⟩

/-- The row behind []byte(s). -/
theorem bw_wrow (w : World) (l : List UInt8) (hl : l.length ≤ 1000000000) : WRow (bw w l) w.heap.size (bcap w l) l := by
  have hge : l.length ≤ bcap w l := grownCap_ge w l.length 0 5
  have hmx : bcap w l ≤ maxLen := grownCap_le_maxLen w l.length 0 5 (by unfold maxLen; omega)
  have hnew : (bw w l).heap[w.heap.size]? = some (.cells (Lib.bytesCells w 5 ⟨l.toArray⟩) 5 ((Lib.bytesCells w 5 ⟨l.toArray⟩).size, (Lib.bytesCells w 5 ⟨l.toArray⟩).size + 1)) := Lib.bytesWorld_at_new w 5 _
  have hsz : (Lib.bytesCells w 5 ⟨l.toArray⟩).size = bcap w l := by
    unfold Lib.bytesCells bcap
    rw [size_mk]
    unfold bcap at hge
    simp
    omega
  have hcs : (Lib.bytesCells w 5 ⟨l.toArray⟩).toList = bs l ++ List.replicate (bcap w l - l.length) (.int .u8 0) := by
    unfold Lib.bytesCells bcap
    rw [size_mk]
    simp [bs]
  refine ⟨hge, List.replicate (bcap w l - l.length) (.int .u8 0), ⟨by rw [bw_size]; omega, by rw [List.length_append, bs_len, List.length_replicate]; omega, hmx, ?_, fun j hj => ?_, fun j hj => ?_⟩⟩
  · unfold World.shape?; rw [hnew]; simp only [hsz]
  · rw [cell_of_row _ w.heap.size j _ 5 _ hnew, ← hcs]; simp
  · unfold World.frozen?; simp only; rw [hnew]; simp only [hsz, Bool.and_eq_false_iff, decide_eq_false_iff_not]; left; omega

set_option maxHeartbeats 1000000 in
set_option maxRecDepth 100000 in
/-- relator: the row's address and capacity. -/
theorem relatorO_any (p : Pr) (R : Option Addr) (rc : Nat) (i : Int) (inv : Bool) (w : World) (hp : presB p = true) (hi : isRelB p i = true) (hr : RelsAt w R p.rels) :
    Calls Try.prog 76 #[prV p.k R p.rels.length rc, .int .i64 i, .bool inv] w fun e w' => ∃ g cap, e = .returned (.slice (some ⟨g, 0, none⟩) (relOf p i inv).length cap) ∧ RowAt w' (some ⟨g, 0, none⟩) (relOf p i inv) ∧ (relOf p i inv).length ≤ cap ∧ cap ≤ maxLen ∧ w.heap.size ≤ g ∧ Below w.heap.size w w' := by
  have h60 := (presB_k hp).2.2
  have hlen := relOf_len hp hi false
  have hne : 1 ≤ (relOf p i inv).length := by
    have h1 := presB_rel hp i.toNat (by simp only [isRelB, Bool.and_eq_true, decide_eq_true_eq] at hi; omega)
    have h2 := (relB_facts h1).1
    unfold relOf
    split
    · show 1 ≤ (ginv invc _).length; rw [ginv_len]; exact h2
    · exact h2
  have HNE := Lib.hid hne
  simp only [isRelB, Bool.and_eq_true, decide_eq_true_eq] at hi
  obtain ⟨hi0, hi1⟩ := hi
  obtain ⟨n, rfl⟩ := Int.eq_ofNat_of_zero_le hi0
  have hn : n < p.rels.length := by omega
  obtain ⟨b, o, rfl, hc, _⟩ := hr n hn
  have HL : Hid (p.rels.getD n [] = p.rels[n]) := Lib.hid (by simp [List.getD, hn])
  have hl : (p.rels[n]).length ≤ 200 := by have := hlen; simp only [relOf, Int.toNat_natCast, HL.out] at this; simpa using this
  generalize hrr : p.rels[n] = l at *
  have HRR := Lib.hid hrr
  have hbw : b < w.heap.size := lt_of_cell hc
  have HB0 : Hid (Below w.heap.size w (w.alloc (.cells (prC p.k (some ⟨b, o, none⟩) p.rels.length rc) 24))) := Lib.hid ((Below.refl _ _).alloc (Nat.le_refl _) _)
  have hconv := run_bw l (w.alloc (.cells (prC p.k (some ⟨b, o, none⟩) p.rels.length rc) 24))
  have HW := Lib.hid (bw_wrow (w.alloc (.cells (prC p.k (some ⟨b, o, none⟩) p.rels.length rc) 24)) l (by omega))
  have HB1 := Lib.hid (HB0.out.trans ((bw_below (w.alloc (.cells (prC p.k (some ⟨b, o, none⟩) p.rels.length rc) 24)) l).mono HB0.out.size))
  simp only [World.size_alloc] at HW hconv
  generalize hw1 : bw (w.alloc (.cells (prC p.k (some ⟨b, o, none⟩) p.rels.length rc) 24)) l = w1 at *
  generalize hcc : bcap (w.alloc (.cells (prC p.k (some ⟨b, o, none⟩) p.rels.length rc) 24)) l = cap at *
  clear hrr hlen hw1 hcc hne
  cases inv with
  | false =>
    have HE : Hid (relOf p (n : Int) false = l) := Lib.hid (by simp only [relOf, Int.toNat_natCast, HL.out]; rfl)
    go_enter Try.func76, Try.ntmps76
    go_wp2
    go_ret
    rw [HE.out]
    exact ⟨_, _, rfl, HW.out.row, HW.out.1, HW.out.max, Nat.le_succ _, HB1.out⟩
  | true =>
    have HE : Hid (relOf p (n : Int) true = invW l) := Lib.hid (by simp only [relOf, Int.toNat_natCast, HL.out]; rfl)
    have hI := inverseOf_any _ cap l w1 HW.out.row (fun h => by cases h) (by omega)
    go_enter Try.func76, Try.ntmps76
    go_wp2_with fail
    refine hI.mono ?_
    intro e w2 hcl
    obtain ⟨A', cap', rfl, hown2, hb2⟩ := hcl
    have HR2 := Lib.hid hown2
    have HB2 := Lib.hid hb2
    clear hown2 hb2 hI
    go_wp2
    go_ret
    have hN := HNE.out
    rw [HE.out] at hN ⊢
    rcases own_shape HR2.out with ⟨_, h0, _⟩ | ⟨g', rfl, hg', _⟩
    · omega
    · exact ⟨g', cap', rfl, rowAt_own HR2.out, own_cap HR2.out, own_max HR2.out, Nat.le_trans HB1.out.size hg', HB1.out.trans (HB2.out.mono HB1.out.size)⟩
end Go.Proofs.Ytbcckfggnlmhoaa

namespace Go.Proofs.Ytbcckfggnlmhoaa
open Go Go.RowKit

/-- A move. -/
structure Mv where
  kind : Int
  pos : Int
  letter : Int
  rel : Int
  shift : Int
  inv : Bool
def mvC (m : Mv) : Array Value := #[.int .i64 m.kind, .int .i64 m.pos, .int .i64 m.letter, .int .i64 m.rel, .int .i64 m.shift, .bool m.inv]
def mvV (m : Mv) : Value := .agg (mvC m)

/-- The methods by their kinds. -/
def methF : Int → Option Value := putF (putF (putF (putF (fun _ => none) 1 (.func (.func 84) #[] #[])) 2 (.func (.func 85) #[] #[])) 3 (.func (.func 86) #[] #[])) 4 (.func (.func 87) #[] #[])

/-- A world, and blocks of it that are to stay as they are there. -/
structure Gh where
  Z : World
  N : Nat → Prop

/-- The walk, in block kb, with the word l in block g. -/
structure WkAt (F : Gh) (w : World) (p : Pr) (R : Option Addr) (rc : Nat) (kb mb g cap : Nat) (l : List UInt8) (W : World) : Prop where
  old : Below w.heap.size w W
  kbl : w.heap.size ≤ kb
  kbs : kb < W.heap.size
  gl : w.heap.size ≤ g
  gk : g ≠ kb
  mkb : mb ≠ kb
  mg : mb ≠ g
  c0 : W.cell? ⟨kb, 0, none⟩ = some (.int .i64 p.k)
  c1 : W.cell? ⟨kb, 1, none⟩ = some (.slice R p.rels.length rc)
  c2 : W.cell? ⟨kb, 2, none⟩ = some (.slice (some ⟨g, 0, none⟩) l.length cap)
  c3 : W.cell? ⟨kb, 3, none⟩ = some (.map (some mb))
  f2 : W.frozen? ⟨kb, 2, none⟩ = false
  word : WRow W g cap l
  memo : MemoAt W mb 4 methF
  frs : F.Z.heap.size ≤ W.heap.size
  fr : ∀ k, F.N k → k < F.Z.heap.size ∧ W.heap[k]? = F.Z.heap[k]?
  nkb : ¬ F.N kb
  ng : ¬ F.N g

theorem WkAt.below {F : Gh} {w : World} {p : Pr} {R : Option Addr} {rc kb mb g cap : Nat} {l : List UInt8} {W W' : World} (h : WkAt F w p R rc kb mb g cap l W) (hb : Below W.heap.size W W') : WkAt F w p R rc kb mb g cap l W' := by
  have hc : ∀ i, W'.cell? ⟨kb, i, none⟩ = W.cell? ⟨kb, i, none⟩ := fun i => hb.cell (p := ⟨kb, i, none⟩) h.kbs
  exact ⟨h.old.trans (hb.mono h.old.size), h.kbl, Nat.lt_of_lt_of_le h.kbs hb.size, h.gl, h.gk, h.mkb, h.mg, (hc 0).trans h.c0, (hc 1).trans h.c1, (hc 2).trans h.c2, (hc 3).trans h.c3,
    (hb.frozen (p := ⟨kb, 2, none⟩) h.kbs).trans h.f2, h.word.below hb, h.memo.kept (grown_of_below hb none) (by simp),
    Nat.le_trans h.frs hb.size, fun k hk => ⟨(h.fr k hk).1, (hb.block k (Nat.lt_of_lt_of_le (h.fr k hk).1 h.frs)).trans (h.fr k hk).2⟩, h.nkb, h.ng⟩

theorem WkAt.upd {F : Gh} {w : World} {p : Pr} {R : Option Addr} {rc kb mb g cap : Nat} {l : List UInt8} {W W' : World} (h : WkAt F w p R rc kb mb g cap l W) {g' cap' : Nat} {l' : List UInt8} (hw : WRow W' g' cap' l') (hg : W.grownBy W' (some g)) (hn : g' = g ∨ W.heap.size ≤ g') :
    WkAt F w p R rc kb mb g' cap' l' (W'.setCell ⟨kb, 2, none⟩ (.slice (some ⟨g', 0, none⟩) l'.length cap')) := by
  have hkb := h.kbs
  have hml := h.memo.lt
  have hos := h.old.size
  have hcb : W'.heap[kb]? = W.heap[kb]? := hg.block kb hkb (fun e => h.gk (by simpa using e.symm))
  have hc : ∀ i, W'.cell? ⟨kb, i, none⟩ = W.cell? ⟨kb, i, none⟩ := fun i => World.cell?_of_block (w := W) (a := ⟨kb, i, none⟩) hcb
  have hgk : g' ≠ kb := by rcases hn with rfl | hn; exact h.gk; omega
  have hmg : mb ≠ g' := by rcases hn with rfl | hn; exact h.mg; omega
  have hng : ¬ F.N g' := by
    rcases hn with rfl | hn
    · exact h.ng
    · intro hk; have := (h.fr _ hk).1; have := h.frs; omega
  have hB1 : Below w.heap.size w W' := h.old.grown hg h.old.size (fun k hk => by cases hk; exact h.gl)
  have hS : W'.grownBy (W'.setCell ⟨kb, 2, none⟩ (.slice (some ⟨g', 0, none⟩) l'.length cap')) (some kb) := ⟨rfl, rfl, rfl, by rw [World.size_setCell]; exact Nat.le_refl _, fun k _ hk => heap_setCell_other W' ⟨kb, 2, none⟩ k _ (fun e => hk (by simp [e]))⟩
  refine ⟨hB1.setCell (p := ⟨kb, 2, none⟩) h.kbl _, h.kbl, by rw [World.size_setCell]; exact Nat.lt_of_lt_of_le hkb hg.size, by rcases hn with rfl | hn; exact h.gl; omega, hgk, h.mkb, hmg, ?_, ?_, ?_, ?_, ?_, hw.kept hS (by simpa using hgk), (h.memo.kept hg (by simpa using h.mg)).kept hS (by simpa using h.mkb), by rw [World.size_setCell]; exact Nat.le_trans h.frs hg.size, ?_, h.nkb, hng⟩
  · rw [World.cell?_setCell_other (h := by simp), hc]; exact h.c0
  · rw [World.cell?_setCell_other (h := by simp), hc]; exact h.c1
  · rw [World.cell?_setCell_same (h := (hc 2).trans h.c2)]
  · rw [World.cell?_setCell_other (h := by simp), hc]; exact h.c3
  · rw [World.frozen?_setCell]
    have := h.f2; unfold World.frozen? at this ⊢; simp only at this ⊢; rw [hcb]; exact this
  · intro k hk
    obtain ⟨h1, h2⟩ := h.fr k hk
    have e1 : k ≠ kb := fun e => h.nkb (e ▸ hk)
    have e2 : some g ≠ some k := fun e => h.ng (by injection e with e; exact e ▸ hk)
    refine ⟨h1, ?_⟩
    rw [heap_setCell_other W' ⟨kb, 2, none⟩ k _ (fun e => e1 e), hg.block k (Nat.lt_of_lt_of_le h1 h.frs) (fun e => e2 e.symm)]
    exact h2
/-- The walk, seen from where it lies, with other blocks that are to stay. -/
theorem WkAt.from {F : Gh} {w : World} {p : Pr} {R : Option Addr} {rc kb mb g cap : Nat} {l : List UInt8} {W : World} (h : WkAt F w p R rc kb mb g cap l W) (N : Nat → Prop) (hN : ∀ k, N k → k < W.heap.size) (h1 : ¬ N kb) (h2 : ¬ N g) : WkAt ⟨W, N⟩ w p R rc kb mb g cap l W :=
  ⟨h.old, h.kbl, h.kbs, h.gl, h.gk, h.mkb, h.mg, h.c0, h.c1, h.c2, h.c3, h.f2, h.word, h.memo, Nat.le_refl _, fun k hk => ⟨hN k hk, rfl⟩, h1, h2⟩

theorem WkAt.at2 {F : Gh} {w : World} {p : Pr} {R : Option Addr} {rc kb mb g cap : Nat} {l : List UInt8} {W W' : World} (h : WkAt F w p R rc kb mb g cap l W) (hg : W.grownBy W' (some g)) :
    W'.cell? ⟨kb, 2, none⟩ = some (.slice (some ⟨g, 0, none⟩) l.length cap) ∧ W'.frozen? ⟨kb, 2, none⟩ = false := by
  have hcb : W'.heap[kb]? = W.heap[kb]? := hg.block kb h.kbs (fun e => h.gk (by simpa using e.symm))
  refine ⟨(World.cell?_of_block (w := W) (a := ⟨kb, 2, none⟩) hcb).trans h.c2, ?_⟩
  have := h.f2; unfold World.frozen? at this ⊢; simp only at this ⊢; rw [hcb]; exact this

/-- How a method ends. -/
def StepP (F : Gh) (w : World) (p : Pr) (R : Option Addr) (rc kb mb : Nat) (r : Option (List UInt8)) (e : Ending) (w' : World) : Prop :=
  match r with
  | some l' => e = .returned (.tuple #[]) ∧ ∃ g cap, WkAt F w p R rc kb mb g cap l' w'
  | none => e = .panicked pan ∧ Below w.heap.size w w'

def insAt (l : List UInt8) (i : Int) (v : List UInt8) : Option (List UInt8) := if 0 ≤ i ∧ i ≤ l.length ∧ l.length + v.length ≤ 100000 then some (l.take i.toNat ++ v ++ l.drop i.toNat) else none

set_option maxHeartbeats 2000000 in
set_option maxRecDepth 100000 in
theorem insert_any {F : Gh} (w : World) (p : Pr) (R : Option Addr) (rc kb mb g cap : Nat) (l v : List UInt8) (W : World) (h : WkAt F w p R rc kb mb g cap l W) (C vb vc : Nat) (hv : W.ownsRow C 5 1 (.slice (some ⟨vb, 0, none⟩) v.length vc) v.length (bs v)) (hne : vb ≠ g) (hm : 0 < v.length) (i : Int) (hl : l.length ≤ 100000) (hvl : v.length ≤ 1000) :
    Calls Try.prog 96 #[.pointer (some ⟨kb, 0, none⟩), .int .i64 i, .slice (some ⟨vb, 0, none⟩) v.length vc] W (StepP F w p R rc kb mb (insAt l i v)) := by
  have H := Lib.hid h
  have c2 := h.c2
  by_cases hi : 0 ≤ i ∧ i ≤ l.length ∧ l.length + v.length ≤ 100000
  · have HI : Hid (insAt l i v = some (l.take i.toNat ++ v ++ l.drop i.toNat)) := Lib.hid (if_pos hi)
    obtain ⟨h0, h1, h2⟩ := hi
    obtain ⟨n, rfl⟩ := Int.eq_ofNat_of_zero_le h0
    have hn : n ≤ l.length := by omega
    have hI := Insert_any C g cap n vb vc l v W h.word hv hne hm hn (by omega)
    simp only [Int.toNat_natCast] at HI
    generalize l.take n ++ v ++ l.drop n = x at *
    have e1 : decide ((0 : Int) ≤ (n : Int)) = true := by simp
    have e2 : decide ((n : Int) ≤ (l.length : Int)) = true := by simpa using hn
    have e3 : decide ((l.length : Int) + (v.length : Int) ≤ 100000) = true := by simp; omega
    have e2' : decide (n ≤ l.length) = true := by simpa using hn
    have e3' : decide (l.length + v.length ≤ 100000) = true := by simpa using h2
    clear h h0 h1 h2 hv
    go_enter Try.func96, Try.ntmps96
    go_wp2_with fail
    refine (mustApply_yes _).mono ?_
    rintro e4 w4 ⟨rfl, rfl⟩
    go_wp2_with fail
    refine hI.mono ?_
    rintro e w1 ⟨g', cap', rfl, hw1, hg1, hn1⟩
    have HU := Lib.hid (H.out.upd hw1 hg1 hn1)
    obtain ⟨d2, df⟩ := H.out.at2 hg1
    clear hw1 hg1 hn1 hI c2
    go_wp2
    go_end0
    rw [HI.out]
    exact ⟨rfl, g', cap', HU.out⟩
  · have HI : Hid (insAt l i v = none) := Lib.hid (if_neg hi)
    have HO := Lib.hid h.old
    clear h hv
    by_cases h0 : 0 ≤ i
    · have e1 : decide (0 ≤ i) = true := by simpa using h0
      by_cases h1 : i ≤ l.length
      · have e2 : decide (i ≤ (l.length : Int)) = true := by simpa using h1
        have e3 : decide ((l.length : Int) + (v.length : Int) ≤ 100000) = false := by simp; omega
        have e3' : decide (l.length + v.length ≤ 100000) = false := by simp; omega
        clear hi
        go_enter Try.func96, Try.ntmps96
        go_wp2_with fail
        refine (mustApply_no _).mono ?_
        rintro e4 w4 ⟨rfl, rfl⟩
        go_wp2
        rw [HI.out]
        exact ⟨rfl, rfl, HO.out⟩
      · have e2 : decide (i ≤ (l.length : Int)) = false := by simpa using h1
        clear hi
        go_enter Try.func96, Try.ntmps96
        go_wp2_with fail
        refine (mustApply_no _).mono ?_
        rintro e4 w4 ⟨rfl, rfl⟩
        go_wp2
        rw [HI.out]
        exact ⟨rfl, rfl, HO.out⟩
    · have e1 : decide (0 ≤ i) = false := by simpa using h0
      clear hi
      go_enter Try.func96, Try.ntmps96
      go_wp2_with fail
      refine (mustApply_no _).mono ?_
      rintro e4 w4 ⟨rfl, rfl⟩
      go_wp2
      rw [HI.out]
      exact ⟨rfl, rfl, HO.out⟩

/-- A part of the word, as part hands it back. -/
def partOf (l : List UInt8) (i : Int) (n : Nat) : Option (List UInt8) := if 0 ≤ i ∧ i ≤ (l.length : Int) - n then some ((l.drop i.toNat).take n) else none

set_option maxHeartbeats 2000000 in
set_option maxRecDepth 100000 in
theorem part_any {F : Gh} (w : World) (p : Pr) (R : Option Addr) (rc kb mb g cap : Nat) (l : List UInt8) (W : World) (h : WkAt F w p R rc kb mb g cap l W) (i : Int) (n : Nat) (hn0 : 0 < n) (hl : l.length ≤ 100000) (hn : n ≤ 1000) :
    Calls Try.prog 97 #[.pointer (some ⟨kb, 0, none⟩), .int .i64 i, .int .i64 n] W fun e w' => W = w' ∧ ((0 ≤ i ∧ i ≤ (l.length : Int) - n ∧ e = .returned (.slice (some ⟨g, i.toNat, none⟩) n (cap - i.toNat))) ∨ (¬ (0 ≤ i ∧ i ≤ (l.length : Int) - n) ∧ e = .panicked pan)) := by
  have c2 := h.c2
  have hcap := h.word.1
  have hmx : cap ≤ 9223372036854775807 := by have := h.word.max; unfold maxLen at this; omega
  by_cases hi : 0 ≤ i ∧ i ≤ (l.length : Int) - n
  · have HI := Lib.hid hi
    obtain ⟨h0, h1⟩ := hi
    obtain ⟨k, rfl⟩ := Int.eq_ofNat_of_zero_le h0
    have e1 : decide ((0 : Int) ≤ (k : Int)) = true := by simp
    have e2 : decide ((k : Int) ≤ (l.length : Int) - (n : Int)) = true := by simpa using h1
    have hk1 : k ≤ k + n := by omega
    have hk2 : k + n ≤ cap := by omega
    have hk3 : ¬ (cap = k) := by omega
    have hk4 : (k : Int) ≤ (k : Int) + (n : Int) := by omega
    have hk5 : (k : Int) + (n : Int) ≤ (cap : Int) := by omega
    have hk6 : ((k : Int) + (n : Int)).toNat = k + n := by omega
    have hk7 : k + n - k = n := by omega
    clear h h0 h1
    go_enter Try.func97, Try.ntmps97
    go_wp2_with fail
    refine (mustApply_yes _).mono ?_
    rintro e4 w4 ⟨rfl, rfl⟩
    go_wp2
    go_ret
    exact ⟨rfl, .inl ⟨HI.out.1, HI.out.2, by simp [hk7]⟩⟩
  · have HI := Lib.hid hi
    clear h
    by_cases h0 : 0 ≤ i
    · have e1 : decide (0 ≤ i) = true := by simpa using h0
      have e2 : decide (i ≤ (l.length : Int) - (n : Int)) = false := by simp; omega
      clear hi
      go_enter Try.func97, Try.ntmps97
      go_wp2_with fail
      refine (mustApply_no _).mono ?_
      rintro e4 w4 ⟨rfl, rfl⟩
      go_wp2
      exact ⟨rfl, rfl, .inr ⟨HI.out, rfl⟩⟩
    · have e1 : decide (0 ≤ i) = false := by simpa using h0
      clear hi
      go_enter Try.func97, Try.ntmps97
      go_wp2_with fail
      refine (mustApply_no _).mono ?_
      rintro e4 w4 ⟨rfl, rfl⟩
      go_wp2
      exact ⟨rfl, rfl, .inr ⟨HI.out, rfl⟩⟩

set_option maxHeartbeats 2000000 in
set_option maxRecDepth 100000 in
theorem remove_any {F : Gh} (w : World) (p : Pr) (R : Option Addr) (rc kb mb g cap : Nat) (l : List UInt8) (W : World) (h : WkAt F w p R rc kb mb g cap l W) (i n : Nat) (hi : i + n ≤ l.length) (hl : l.length ≤ 100000) :
    Calls Try.prog 98 #[.pointer (some ⟨kb, 0, none⟩), .int .i64 i, .int .i64 n] W (StepP F w p R rc kb mb (some (l.take i ++ l.drop (i + n)))) := by
  have H := Lib.hid h
  have c2 := h.c2
  have hI := Delete_any g cap i (i + n) l W h.word (by omega) hi
  rw [Int.natCast_add] at hI
  generalize l.take i ++ l.drop (i + n) = x at *
  clear h
  go_enter Try.func98, Try.ntmps98
  go_wp2_with fail
  refine hI.mono ?_
  rintro e w1 ⟨rfl, hw1, hg1⟩
  have HU := Lib.hid (H.out.upd hw1 hg1 (.inl rfl))
  obtain ⟨d2, df⟩ := H.out.at2 hg1
  clear hw1 hg1 hI c2
  go_wp2
  go_end0
  exact ⟨rfl, g, cap, HU.out⟩
end Go.Proofs.Ytbcckfggnlmhoaa

namespace Go.Proofs.Ytbcckfggnlmhoaa
open Go Go.RowKit

def rotOf (p : Pr) (m : Mv) : Option (List UInt8) :=
  if isRelB p m.rel = true then (if 0 ≤ m.shift ∧ m.shift < (relOf p m.rel m.inv).length then some ((relOf p m.rel m.inv).drop m.shift.toNat ++ (relOf p m.rel m.inv).take m.shift.toNat) else none) else none

def RotP (W : World) (r : Option (List UInt8)) (e : Ending) (w' : World) : Prop :=
  match r with
  | some v => ∃ vb vc, e = .returned (.slice (some ⟨vb, 0, none⟩) v.length vc) ∧ w'.ownsRow W.heap.size 5 1 (.slice (some ⟨vb, 0, none⟩) v.length vc) v.length (bs v) ∧ W.heap.size ≤ vb ∧ Below W.heap.size W w'
  | none => e = .panicked pan ∧ Below W.heap.size W w'

set_option maxHeartbeats 4000000 in
set_option maxRecDepth 100000 in
theorem rotated_any {F : Gh} (w : World) (p : Pr) (R : Option Addr) (rc kb mb g cap : Nat) (l : List UInt8) (W : World) (h : WkAt F w p R rc kb mb g cap l W) (hp : presB p = true) (hr : RelsAt w R p.rels) (m : Mv) :
    Calls Try.prog 99 #[.pointer (some ⟨kb, 0, none⟩), mvV m] W (RotP W (rotOf p m)) := by
  obtain ⟨mk, mp, ml, mr, ms, mi⟩ := m
  have HBX := Lib.hid (Boxd.start W #[.int .i64 mk, .int .i64 mp, .int .i64 ml, .int .i64 mr, .int .i64 ms, .bool mi] 52)
  have HK := Lib.hid (h.below (Boxd.start W #[.int .i64 mk, .int .i64 mp, .int .i64 ml, .int .i64 mr, .int .i64 ms, .bool mi] 52).old)
  have HP := Lib.hid hp
  have HR := Lib.hid hr
  have hm : p.rels.length ≤ maxLen := by have := (presB_k hp).2.2; unfold maxLen; omega
  have HI := Lib.hid (fun X : World => isRel_any p R rc mr X hm)
  clear h hp hr
  show Calls Try.prog 99 #[.pointer (some ⟨kb, 0, none⟩), .agg #[.int .i64 mk, .int .i64 mp, .int .i64 ml, .int .i64 mr, .int .i64 ms, .bool mi]] W (RotP W (rotOf p ⟨mk, mp, ml, mr, ms, mi⟩))
  by_cases hrel : isRelB p mr = true
  case neg =>
    have HN : Hid (rotOf p ⟨mk, mp, ml, mr, ms, mi⟩ = none) := Lib.hid (if_neg hrel)
    have hrel' : isRelB p mr = false := by simpa using hrel
    rw [hrel'] at HI
    have hb3 : (W.alloc (.cells #[.int .i64 mk, .int .i64 mp, .int .i64 ml, .int .i64 mr, .int .i64 ms, .bool mi] 52)).cell? ⟨W.heap.size, 3, none⟩ = some (.int .i64 mr) := HBX.out.cell 3
    have hk0 : (W.alloc (.cells #[.int .i64 mk, .int .i64 mp, .int .i64 ml, .int .i64 mr, .int .i64 ms, .bool mi] 52)).cell? ⟨kb, 0, none⟩ = some (.int .i64 p.k) := HK.out.c0
    have hk1 : (W.alloc (.cells #[.int .i64 mk, .int .i64 mp, .int .i64 ml, .int .i64 mr, .int .i64 ms, .bool mi] 52)).cell? ⟨kb, 1, none⟩ = some (.slice R p.rels.length rc) := HK.out.c1
    clear hrel hrel'
    go_enter Try.func99, Try.ntmps99
    go_wp2_with fail
    generalize W.alloc (.cells #[.int .i64 mk, .int .i64 mp, .int .i64 ml, .int .i64 mr, .int .i64 ms, .bool mi] 52) = w0 at *
    go_still_tail 6, (by kernel_rfl)
    change wpList _ _ _ _ _ w0.drew
    go_wp2_with fail
    refine (HI.out _).mono ?_
    rintro e1 w1 ⟨rfl, hb1⟩
    have HB1 := Lib.hid hb1
    clear hb1 hk0 hk1 hb3
    go_wp2_with fail
    refine (mustApply_no _).mono ?_
    rintro e2 w2 ⟨rfl, rfl⟩
    go_wp2
    refine ⟨rfl, ?_⟩
    rw [HN.out]
    exact ⟨rfl, HBX.out.old.trans (((Below.refl _ w0).drewN 1).trans HB1.out |>.mono HBX.out.old.size)⟩
  case pos =>
    rw [hrel] at HI
    have HRT : Hid (rotOf p ⟨mk, mp, ml, mr, ms, mi⟩ = if 0 ≤ ms ∧ ms < (relOf p mr mi).length then some ((relOf p mr mi).drop ms.toNat ++ (relOf p mr mi).take ms.toNat) else none) := Lib.hid (if_pos hrel)
    have HREL := Lib.hid hrel
    have HT2 := Lib.hid (relOf_len HP.out hrel mi)
    have hb3 : (W.alloc (.cells #[.int .i64 mk, .int .i64 mp, .int .i64 ml, .int .i64 mr, .int .i64 ms, .bool mi] 52)).cell? ⟨W.heap.size, 3, none⟩ = some (.int .i64 mr) := HBX.out.cell 3
    have hk0 : (W.alloc (.cells #[.int .i64 mk, .int .i64 mp, .int .i64 ml, .int .i64 mr, .int .i64 ms, .bool mi] 52)).cell? ⟨kb, 0, none⟩ = some (.int .i64 p.k) := HK.out.c0
    have hk1 : (W.alloc (.cells #[.int .i64 mk, .int .i64 mp, .int .i64 ml, .int .i64 mr, .int .i64 ms, .bool mi] 52)).cell? ⟨kb, 1, none⟩ = some (.slice R p.rels.length rc) := HK.out.c1
    clear hrel
    go_enter Try.func99, Try.ntmps99
    go_wp2_with fail
    generalize W.alloc (.cells #[.int .i64 mk, .int .i64 mp, .int .i64 ml, .int .i64 mr, .int .i64 ms, .bool mi] 52) = w0 at *
    go_still_tail 6, (by kernel_rfl)
    change wpList _ _ _ _ _ w0.drew
    go_wp2_with fail
    refine (HI.out _).mono ?_
    rintro e1 w1 ⟨rfl, hb1⟩
    have HB1 : Hid (Below w0.heap.size w0 w1) := Lib.hid (((Below.refl _ w0).drewN 1).trans hb1)
    have HX1 := Lib.hid (HBX.out.on HB1.out)
    have HK1 := Lib.hid (HK.out.below HB1.out)
    clear hb1 hk0 hk1 hb3
    go_wp2_with fail
    refine (mustApply_yes _).mono ?_
    rintro e2 w2 ⟨rfl, rfl⟩
    have hb3 : w1.cell? ⟨W.heap.size, 3, none⟩ = some (.int .i64 mr) := HX1.out.cell 3
    have hb5 : w1.cell? ⟨W.heap.size, 5, none⟩ = some (.bool mi) := HX1.out.cell 5
    have hk0 : w1.cell? ⟨kb, 0, none⟩ = some (.int .i64 p.k) := HK1.out.c0
    have hk1 : w1.cell? ⟨kb, 1, none⟩ = some (.slice R p.rels.length rc) := HK1.out.c1
    go_wp2_with fail
    go_still_tail 8, (by kernel_rfl)
    change wpList _ _ _ _ _ w1.drew
    have hT := relatorO_any p R rc mr mi w1.drew HP.out HREL.out (HR.out.below (HK1.out.old.drewN 1))
    go_wp2_with fail
    refine hT.mono ?_
    rintro e3 w3 ⟨tg, tc, rfl, hrow, htc, htm, htg, hb4⟩
    have HB3 : Hid (Below w1.heap.size w1 w3) := Lib.hid (((Below.refl _ w1).drewN 1).trans hb4)
    have HX3 := Lib.hid (HX1.out.on HB3.out)
    have HROW := Lib.hid hrow
    have htm' : tc ≤ 9223372036854775807 := by unfold maxLen at htm; omega
    generalize relOf p mr mi = t at *
    have hb6 : w3.cell? ⟨W.heap.size, 4, none⟩ = some (.int .i64 ms) := HX3.out.cell 4
    clear hT hb4 hb3 hb5 hk0 hk1 hrow htm htg
    by_cases hs : 0 ≤ ms ∧ ms < t.length
    · have HR2 : Hid (rotOf p ⟨mk, mp, ml, mr, ms, mi⟩ = some (t.drop ms.toNat ++ t.take ms.toNat)) := Lib.hid (by rw [HRT.out, if_pos hs])
      obtain ⟨h0, h1⟩ := hs
      obtain ⟨k, rfl⟩ := Int.eq_ofNat_of_zero_le h0
      have hk : k < t.length := by omega
      have e1 : decide ((0 : Int) ≤ (k : Int)) = true := by simp
      have e2 : decide ((k : Int) < (t.length : Int)) = true := by simpa using hk
      have e2' : decide (k < t.length) = true := by simpa using hk
      simp only [Int.toNat_natCast] at HR2
      clear h0 h1
      go_wp2_with fail
      refine (mustApply_yes _).mono ?_
      rintro e4 w4 ⟨rfl, rfl⟩
      have hk1 : (k : Int) ≤ (t.length : Int) := by omega
      have hk2 : k ≤ t.length := by omega
      have hk3 : ¬ (tc = k) := by omega
      have hk4 : (k : Int) ≤ (tc : Int) := by omega
      have hk5 : k ≤ tc := by omega
      go_wp2_with fail
      go_still_tail 8, (by kernel_rfl)
      change wpList _ _ _ _ _ w3.drew
      go_wp2_with fail
      have hC := SConcatB_any w3.heap.size (some ⟨tg, k, none⟩) (some ⟨tg, 0, none⟩) (t.drop k) (t.take k) (tc - k) tc (w3.alloc (.cells #[.slice (some ⟨tg, k, none⟩) (t.length - k) (tc - k), .slice (some ⟨tg, 0, none⟩) k tc] 58)).drew
        (by rw [List.length_drop]; show (w3.alloc _).cell? _ = _; rw [alloc_cell]; rfl)
        (by rw [List.length_take, Nat.min_eq_left hk2]; show (w3.alloc _).cell? _ = _; rw [alloc_cell]; rfl)
        (by
          intro j hj
          rw [List.length_drop] at hj
          obtain ⟨b, o, hA, hc⟩ := (HROW.out.below ((Below.refl _ w3).alloc (Nat.le_refl _) (.cells #[.slice (some ⟨tg, k, none⟩) (t.length - k) (tc - k), .slice (some ⟨tg, 0, none⟩) k tc] 58))) (k + j) (by omega)
          cases hA
          rw [Nat.zero_add] at hc
          exact ⟨tg, k, rfl, by rw [List.getElem_drop]; exact hc⟩)
        (by
          intro j hj
          rw [List.length_take] at hj
          obtain ⟨b, o, hA, hc⟩ := (HROW.out.below ((Below.refl _ w3).alloc (Nat.le_refl _) (.cells #[.slice (some ⟨tg, k, none⟩) (t.length - k) (tc - k), .slice (some ⟨tg, 0, none⟩) k tc] 58))) j (by omega)
          cases hA
          exact ⟨tg, 0, rfl, by rw [List.getElem_take]; exact hc⟩)
        (fun h => by cases h) (fun h => by cases h) (by have := HT2.out; rw [List.length_drop, List.length_take]; omega)
      refine hC.mono ?_
      rintro e5 w5 ⟨A5, c5, rfl, hown5, hb5⟩
      have HO5 := Lib.hid hown5
      have HB5 : Hid (Below w3.heap.size w3 w5) := Lib.hid ((((Below.refl _ w3).alloc (Nat.le_refl _) (.cells #[.slice (some ⟨tg, k, none⟩) (t.length - k) (tc - k), .slice (some ⟨tg, 0, none⟩) k tc] 58)).drewN 1).trans (hb5.mono (by show _ ≤ (w3.alloc _).heap.size; simp)))
      have HSZ : Hid (w3.heap.size ≤ (w3.alloc (.cells #[.slice (some ⟨tg, k, none⟩) (t.length - k) (tc - k), .slice (some ⟨tg, 0, none⟩) k tc] 58)).drew.heap.size) := Lib.hid (by show _ ≤ (w3.alloc _).heap.size; simp)
      have HLN : Hid (0 < (t.drop k ++ t.take k).length) := Lib.hid (by simp; omega)
      clear hC hown5 hb5 hb6
      generalize t.drop k ++ t.take k = v at *
      go_wp2
      go_ret
      rw [HR2.out]
      have hln := HLN.out
      rcases own_shape HO5.out with ⟨_, h0, _⟩ | ⟨g', rfl, hg', _⟩
      · omega
      · have hs3 : W.heap.size ≤ w3.heap.size := HX3.out.old.size
        exact ⟨g', c5, rfl, own_base HO5.out (Nat.le_trans hs3 HSZ.out), Nat.le_trans hs3 (Nat.le_trans HSZ.out hg'), HX3.out.old.trans (HB5.out.mono hs3)⟩
    · have HR2 : Hid (rotOf p ⟨mk, mp, ml, mr, ms, mi⟩ = none) := Lib.hid (by rw [HRT.out, if_neg hs])
      by_cases h0 : 0 ≤ ms
      · have e1 : decide (0 ≤ ms) = true := by simpa using h0
        have e2 : decide (ms < (t.length : Int)) = false := by simp; omega
        clear hs
        go_wp2_with fail
        refine (mustApply_no _).mono ?_
        rintro e4 w4 ⟨rfl, rfl⟩
        go_wp2
        refine ⟨rfl, ?_⟩
        rw [HR2.out]
        exact ⟨rfl, HX3.out.old⟩
      · have e1 : decide (0 ≤ ms) = false := by simpa using h0
        clear hs
        go_wp2_with fail
        refine (mustApply_no _).mono ?_
        rintro e4 w4 ⟨rfl, rfl⟩
        go_wp2
        refine ⟨rfl, ?_⟩
        rw [HR2.out]
        exact ⟨rfl, HX3.out.old⟩
end Go.Proofs.Ytbcckfggnlmhoaa

namespace Go.Proofs.Ytbcckfggnlmhoaa
open Go Go.RowKit

theorem rotOf_len {p : Pr} (hp : presB p = true) {m : Mv} {v : List UInt8} (h : rotOf p m = some v) : 0 < v.length ∧ v.length ≤ 200 := by
  unfold rotOf at h
  split at h
  case isTrue hr =>
    split at h
    case isTrue hs =>
      cases h
      have := relOf_len hp hr m.inv
      simp; omega
    case isFalse => cases h
  case isFalse => cases h

def insRel (p : Pr) (l : List UInt8) (m : Mv) : Option (List UInt8) := match rotOf p m with | some v => insAt l m.pos v | none => none
def cutAt (l : List UInt8) (i : Int) (v : List UInt8) : Option (List UInt8) := if 0 ≤ i ∧ i ≤ (l.length : Int) - v.length ∧ (l.drop i.toNat).take v.length = v then some (l.take i.toNat ++ l.drop (i.toNat + v.length)) else none
def delRel (p : Pr) (l : List UInt8) (m : Mv) : Option (List UInt8) := match rotOf p m with | some v => cutAt l m.pos v | none => none

theorem StepP.split {F : Gh} {w : World} {p : Pr} {R : Option Addr} {rc kb mb : Nat} {r : Option (List UInt8)} {e : Ending} {w' : World} (h : StepP F w p R rc kb mb r e w') :
    (e = .panicked pan ∧ StepP F w p R rc kb mb r (.panicked pan) w') ∨ (e = .returned (.tuple #[]) ∧ StepP F w p R rc kb mb r (.returned (.tuple #[])) w') := by
  cases r with
  | none => exact .inl ⟨h.1, rfl, h.2⟩
  | some l' => exact .inr ⟨h.1, rfl, h.2⟩

/-- insert, told by what rotated hands back. -/
theorem rot_then {F : Gh} (w : World) (p : Pr) (R : Option Addr) (rc kb mb g cap : Nat) (l : List UInt8) (W : World) (h : WkAt F w p R rc kb mb g cap l W) (hp : presB p = true) (hr : RelsAt w R p.rels) (hl : l.length ≤ 100000) (m : Mv) :
    Calls Try.prog 99 #[.pointer (some ⟨kb, 0, none⟩), mvV m] W fun e w' => (e = .panicked pan ∧ StepP F w p R rc kb mb (insRel p l m) (.panicked pan) w') ∨
      (∃ vb v vc, e = .returned (.slice (some ⟨vb, 0, none⟩) v vc) ∧ Below W.heap.size W w' ∧ Calls Try.prog 96 #[.pointer (some ⟨kb, 0, none⟩), .int .i64 m.pos, .slice (some ⟨vb, 0, none⟩) v vc] w' (StepP F w p R rc kb mb (insRel p l m))) := by
  refine (rotated_any w p R rc kb mb g cap l W h hp hr m).mono ?_
  intro e w' hh
  cases hrot : rotOf p m with
  | none =>
    rw [hrot] at hh
    have hi : insRel p l m = none := by unfold insRel; rw [hrot]
    rw [hi]
    exact .inl ⟨hh.1, rfl, h.old.trans (hh.2.mono h.old.size)⟩
  | some v =>
    rw [hrot] at hh
    obtain ⟨vb, vc, rfl, hown, hvb, hb⟩ := hh
    have hi : insRel p l m = insAt l m.pos v := by unfold insRel; rw [hrot]
    have hv := rotOf_len hp hrot
    have hg := h.word.lt
    rw [hi]
    exact .inr ⟨vb, v.length, vc, rfl, hb, insert_any w p R rc kb mb g cap l v w' (h.below hb) _ vb vc hown (by omega) hv.1 m.pos hl (by omega)⟩

set_option maxHeartbeats 4000000 in
set_option maxRecDepth 100000 in
theorem insertRel_any {F : Gh} (w : World) (p : Pr) (R : Option Addr) (rc kb mb g cap : Nat) (l : List UInt8) (W : World) (h : WkAt F w p R rc kb mb g cap l W) (hp : presB p = true) (hr : RelsAt w R p.rels) (hl : l.length ≤ 100000) (m : Mv) :
    Calls Try.prog 86 #[.pointer (some ⟨kb, 0, none⟩), mvV m] W (StepP F w p R rc kb mb (insRel p l m)) := by
  obtain ⟨mk, mp, ml, mr, ms, mi⟩ := m
  have HBX := Lib.hid (Boxd.start W #[.int .i64 mk, .int .i64 mp, .int .i64 ml, .int .i64 mr, .int .i64 ms, .bool mi] 52)
  have HK := Lib.hid (h.below (Boxd.start W #[.int .i64 mk, .int .i64 mp, .int .i64 ml, .int .i64 mr, .int .i64 ms, .bool mi] 52).old)
  have HRO := Lib.hid (fun X (hX : WkAt F w p R rc kb mb g cap l X) => rot_then w p R rc kb mb g cap l X hX hp hr hl ⟨mk, mp, ml, mr, ms, mi⟩)
  clear h hr hp
  show Calls Try.prog 86 #[.pointer (some ⟨kb, 0, none⟩), .agg #[.int .i64 mk, .int .i64 mp, .int .i64 ml, .int .i64 mr, .int .i64 ms, .bool mi]] W (StepP F w p R rc kb mb (insRel p l ⟨mk, mp, ml, mr, ms, mi⟩))
  generalize insRel p l ⟨mk, mp, ml, mr, ms, mi⟩ = r at *
  go_enter Try.func86, Try.ntmps86
  go_wp2_with fail
  generalize W.alloc (.cells #[.int .i64 mk, .int .i64 mp, .int .i64 ml, .int .i64 mr, .int .i64 ms, .bool mi] 52) = w0 at *
  have hb0 : w0.cell? ⟨W.heap.size, 0, none⟩ = some (.int .i64 mk) := HBX.out.cell 0
  have hb1 : w0.cell? ⟨W.heap.size, 1, none⟩ = some (.int .i64 mp) := HBX.out.cell 1
  have hb2 : w0.cell? ⟨W.heap.size, 2, none⟩ = some (.int .i64 ml) := HBX.out.cell 2
  have hb3 : w0.cell? ⟨W.heap.size, 3, none⟩ = some (.int .i64 mr) := HBX.out.cell 3
  have hb4 : w0.cell? ⟨W.heap.size, 4, none⟩ = some (.int .i64 ms) := HBX.out.cell 4
  have hb5 : w0.cell? ⟨W.heap.size, 5, none⟩ = some (.bool mi) := HBX.out.cell 5
  have hRO : Calls Try.prog 99 #[.pointer (some ⟨kb, 0, none⟩), .agg #[.int .i64 mk, .int .i64 mp, .int .i64 ml, .int .i64 mr, .int .i64 ms, .bool mi]] w0.drew _ := HRO.out w0.drew (HK.out.below ((Below.refl _ w0).drewN 1))
  have HX : Hid (∀ X, Below w0.drew.heap.size w0.drew X → X.cell? ⟨W.heap.size, 1, none⟩ = some (.int .i64 mp)) := Lib.hid (fun X hX => (hX.cell (p := ⟨W.heap.size, 1, none⟩) (lt_of_cell hb1)).trans hb1)
  have HR0 := Lib.hid hRO
  clear hRO
  refine wp_region_any (by kernel_rfl) ?_
  change wpAny _ _ _ _ _ _ _ w0.drew
  refine wpAny_take (i := 0) (v := .pointer (some ⟨kb, 0, none⟩)) rfl (by kernel_rfl) (by kernel_rfl) (by kernel_rfl) (fun _ _ _ h => h) (Or.inl ⟨by rfl, by intro w; go_simp⟩) ?_
  refine wpAny_take (i := 1) (v := .pointer (some ⟨W.heap.size, 1, none⟩)) rfl (by kernel_rfl) (by kernel_rfl) (by kernel_rfl) (fun _ _ _ h => h) (Or.inl ⟨by rfl, by intro w; go_simp⟩) ?_
  refine wpAny_take (i := 3) (v := .pointer (some ⟨kb, 0, none⟩)) rfl (by kernel_rfl) (by kernel_rfl) (by kernel_rfl) (fun _ _ _ h => h) (Or.inl ⟨by rfl, by intro w; go_simp⟩) ?_
  refine wpAny_ready (rs := [2, 4]) (by kernel_rfl) (by simp) ?_
  refine AllReady.cons rfl (fun K hK => ?_) (AllReady.cons rfl (fun K hK => ?_) (AllReady.nil))
  · go_simp
    refine hK _ _ ?_
    clear hK K
    refine wpAny_ready (rs := [4]) (by kernel_rfl) (by simp) ?_
    refine AllReady.cons rfl (fun K hK => ?_) (AllReady.nil)
    · go_simp
      refine hK _ _ ?_
      clear hK K
      refine wpAny_ready (rs := [5]) (by kernel_rfl) (by simp) ?_
      refine AllReady.cons rfl (fun K hK => ?_) (AllReady.nil)
      · go_simp
        go_wp2_with fail
        refine HR0.out.mono ?_
        rintro e1 w1 (⟨rfl, hs⟩ | ⟨vb, v, vc, rfl, hb, h96⟩)
        · exact ⟨rfl, hs⟩
        refine hK _ _ ?_
        clear hK K
        have hc1 := HX.out w1 hb
        refine wpAny_ready (rs := [6]) (by kernel_rfl) (by simp) ?_
        refine AllReady.cons rfl (fun K hK => ?_) (AllReady.nil)
        · go_simp
          go_wp2_with fail
          refine h96.mono ?_
          intro e2 w2 hh
          rcases hh.split with ⟨rfl, hs⟩ | ⟨rfl, hs⟩
          · exact ⟨rfl, hs⟩
          refine hK _ _ ?_
          clear hK K
          refine wpAny_done (by kernel_rfl) ?_ _
          go_wp2
          go_end0
          exact hs
  · go_simp
    refine hK _ _ ?_
    clear hK K
    refine wpAny_ready (rs := [2, 5]) (by kernel_rfl) (by simp) ?_
    refine AllReady.cons rfl (fun K hK => ?_) (AllReady.cons rfl (fun K hK => ?_) (AllReady.nil))
    · go_simp
      refine hK _ _ ?_
      clear hK K
      refine wpAny_ready (rs := [5]) (by kernel_rfl) (by simp) ?_
      refine AllReady.cons rfl (fun K hK => ?_) (AllReady.nil)
      · go_simp
        go_wp2_with fail
        refine HR0.out.mono ?_
        rintro e1 w1 (⟨rfl, hs⟩ | ⟨vb, v, vc, rfl, hb, h96⟩)
        · exact ⟨rfl, hs⟩
        refine hK _ _ ?_
        clear hK K
        have hc1 := HX.out w1 hb
        refine wpAny_ready (rs := [6]) (by kernel_rfl) (by simp) ?_
        refine AllReady.cons rfl (fun K hK => ?_) (AllReady.nil)
        · go_simp
          go_wp2_with fail
          refine h96.mono ?_
          intro e2 w2 hh
          rcases hh.split with ⟨rfl, hs⟩ | ⟨rfl, hs⟩
          · exact ⟨rfl, hs⟩
          refine hK _ _ ?_
          clear hK K
          refine wpAny_done (by kernel_rfl) ?_ _
          go_wp2
          go_end0
          exact hs
    · go_simp
      go_wp2_with fail
      refine HR0.out.mono ?_
      rintro e1 w1 (⟨rfl, hs⟩ | ⟨vb, v, vc, rfl, hb, h96⟩)
      · exact ⟨rfl, hs⟩
      refine hK _ _ ?_
      clear hK K
      have hc1 := HX.out w1 hb
      refine wpAny_ready (rs := [2]) (by kernel_rfl) (by simp) ?_
      refine AllReady.cons rfl (fun K hK => ?_) (AllReady.nil)
      · go_simp
        refine hK _ _ ?_
        clear hK K
        refine wpAny_ready (rs := [6]) (by kernel_rfl) (by simp) ?_
        refine AllReady.cons rfl (fun K hK => ?_) (AllReady.nil)
        · go_simp
          go_wp2_with fail
          refine h96.mono ?_
          intro e2 w2 hh
          rcases hh.split with ⟨rfl, hs⟩ | ⟨rfl, hs⟩
          · exact ⟨rfl, hs⟩
          refine hK _ _ ?_
          clear hK K
          refine wpAny_done (by kernel_rfl) ?_ _
          go_wp2
          go_end0
          exact hs
end Go.Proofs.Ytbcckfggnlmhoaa

namespace Go.Proofs.Ytbcckfggnlmhoaa
open Go Go.RowKit

/-- A part of the word is a row. -/
theorem part_row {W : World} {g cap : Nat} {l : List UInt8} (h : WRow W g cap l) (k n : Nat) : RowAt W (some ⟨g, k, none⟩) ((l.drop k).take n) := by
  intro j hj
  rw [List.length_take, List.length_drop] at hj
  obtain ⟨b, o, hA, hc⟩ := h.row (k + j) (by omega)
  cases hA
  rw [Nat.zero_add] at hc
  exact ⟨g, k, rfl, by rw [List.getElem_take, List.getElem_drop]; exact hc⟩

set_option maxHeartbeats 4000000 in
set_option maxRecDepth 100000 in
theorem deleteRel_any {F : Gh} (w : World) (p : Pr) (R : Option Addr) (rc kb mb g cap : Nat) (l : List UInt8) (W : World) (h : WkAt F w p R rc kb mb g cap l W) (hp : presB p = true) (hr : RelsAt w R p.rels) (hl : l.length ≤ 100000) (m : Mv) :
    Calls Try.prog 87 #[.pointer (some ⟨kb, 0, none⟩), mvV m] W (StepP F w p R rc kb mb (delRel p l m)) := by
  have HRL := Lib.hid (fun v (hv : rotOf p m = some v) => rotOf_len hp hv)
  have HIR : Hid (∀ v, rotOf p m = some v → delRel p l m = cutAt l m.pos v) := Lib.hid (fun v hv => by unfold delRel; rw [hv])
  have HIN : Hid (rotOf p m = none → delRel p l m = none) := Lib.hid (fun hv => by unfold delRel; rw [hv])
  obtain ⟨mk, mp, ml, mr, ms, mi⟩ := m
  have HBX := Lib.hid (Boxd.start W #[.int .i64 mk, .int .i64 mp, .int .i64 ml, .int .i64 mr, .int .i64 ms, .bool mi] 52)
  have HK := Lib.hid (h.below (Boxd.start W #[.int .i64 mk, .int .i64 mp, .int .i64 ml, .int .i64 mr, .int .i64 ms, .bool mi] 52).old)
  have hRO : Calls Try.prog 99 #[.pointer (some ⟨kb, 0, none⟩), .agg #[.int .i64 mk, .int .i64 mp, .int .i64 ml, .int .i64 mr, .int .i64 ms, .bool mi]] (W.alloc (.cells #[.int .i64 mk, .int .i64 mp, .int .i64 ml, .int .i64 mr, .int .i64 ms, .bool mi] 52)) (RotP (W.alloc (.cells #[.int .i64 mk, .int .i64 mp, .int .i64 ml, .int .i64 mr, .int .i64 ms, .bool mi] 52)) (rotOf p ⟨mk, mp, ml, mr, ms, mi⟩)) := rotated_any w p R rc kb mb g cap l _ HK.out hp hr ⟨mk, mp, ml, mr, ms, mi⟩
  clear h hr hp
  show Calls Try.prog 87 #[.pointer (some ⟨kb, 0, none⟩), .agg #[.int .i64 mk, .int .i64 mp, .int .i64 ml, .int .i64 mr, .int .i64 ms, .bool mi]] W (StepP F w p R rc kb mb (delRel p l ⟨mk, mp, ml, mr, ms, mi⟩))
  generalize delRel p l ⟨mk, mp, ml, mr, ms, mi⟩ = r at *
  cases hrot : rotOf p ⟨mk, mp, ml, mr, ms, mi⟩ with
  | none =>
    have HN := Lib.hid (HIN.out hrot)
    rw [hrot] at hRO
    clear hrot
    go_enter Try.func87, Try.ntmps87
    go_wp2_with fail
    refine hRO.mono ?_
    rintro e1 w1 ⟨rfl, hb⟩
    have HB := Lib.hid hb
    clear hRO hb
    go_wp2
    refine ⟨rfl, ?_⟩
    rw [HN.out]
    exact ⟨rfl, HK.out.old.trans (HB.out.mono HK.out.old.size)⟩
  | some v =>
    have HS := Lib.hid (HIR.out v hrot)
    obtain ⟨hv0, hv2⟩ := HRL.out v hrot
    rw [hrot] at hRO
    clear hrot
    go_enter Try.func87, Try.ntmps87
    go_wp2_with fail
    refine hRO.mono ?_
    rintro e1 w1 ⟨vb, vc, rfl, hown, hvb, hb⟩
    have HX1 := Lib.hid (HBX.out.on hb)
    have HK1 := Lib.hid (HK.out.below hb)
    have HOW := Lib.hid hown
    have hc1 : w1.cell? ⟨W.heap.size, 1, none⟩ = some (.int .i64 mp) := HX1.out.cell 1
    have hP := part_any w p R rc kb mb g cap l w1 HK1.out mp v.length hv0 hl (by omega)
    clear hRO hb hown hvb
    by_cases hpos : 0 ≤ mp ∧ mp ≤ (l.length : Int) - v.length
    · obtain ⟨h0, h1⟩ := hpos
      obtain ⟨k, rfl⟩ := Int.eq_ofNat_of_zero_le h0
      have hk : k + v.length ≤ l.length := by omega
      have hln : ((l.drop k).take v.length).length = v.length := by simp; omega
      have hE := Equal_any (some ⟨g, k, none⟩) (some ⟨vb, 0, none⟩) ((l.drop k).take v.length) v (cap - k) vc w1 (part_row HK1.out.word k v.length) (rowAt_own HOW.out) (by omega) (by omega)
      rw [hln] at hE
      have hE : Calls Try.prog 100 #[.slice (some ⟨g, k, none⟩) v.length (cap - k), .slice (some ⟨vb, 0, none⟩) v.length vc] w1 fun e w' => e = .returned (.bool ((l.drop k).take v.length == v)) ∧ w1 = w' := hE.mono fun _ _ h => ⟨h.1, h.2.symm⟩
      have hP2 : Calls Try.prog 97 #[.pointer (some ⟨kb, 0, none⟩), .int .i64 (k : Int), .int .i64 v.length] w1 fun e w' => e = .returned (.slice (some ⟨g, k, none⟩) v.length (cap - k)) ∧ w1 = w' := hP.mono (by
        rintro e2 w2 ⟨hw, hh⟩
        rcases hh with ⟨_, _, he⟩ | ⟨hno, _⟩
        · exact ⟨he, hw⟩
        · exact absurd ⟨h0, h1⟩ hno)
      clear hP h0 h1 hln
      go_wp2_with fail
      refine hP2.mono ?_
      rintro e2 w2 ⟨rfl, rfl⟩
      clear hP2
      go_wp2_with fail
      refine hE.mono ?_
      rintro e3 w3 ⟨rfl, rfl⟩
      clear hE
      cases heq : ((l.drop k).take v.length == v) with
      | true =>
        have HC : Hid (r = some (l.take k ++ l.drop (k + v.length))) := Lib.hid (by
          rw [HS.out]; unfold cutAt
          rw [if_pos ⟨by omega, by omega, by simpa using heq⟩]; rfl)
        have hD := remove_any w p R rc kb mb g cap l w1 HK1.out k v.length hk hl
        rw [← HC.out] at hD
        clear heq
        go_wp2_with fail
        refine (mustApply_yes _).mono ?_
        rintro e4 w4 ⟨rfl, rfl⟩
        go_wp2_with fail
        refine hD.mono ?_
        intro e5 w5 hh
        rcases hh.split with ⟨rfl, hs⟩ | ⟨rfl, hs⟩
        · exact ⟨rfl, hs⟩
        · have HZ := Lib.hid hs
          clear hs hh hD
          go_wp2
          go_end0
          exact HZ.out
      | false =>
        have HC : Hid (r = none) := Lib.hid (by
          rw [HS.out]; unfold cutAt
          rw [if_neg (fun h => by have := h.2.2; simp only [Int.toNat_natCast] at this; rw [this] at heq; simp at heq)])
        clear heq
        go_wp2_with fail
        refine (mustApply_no _).mono ?_
        rintro e4 w4 ⟨rfl, rfl⟩
        go_wp2
        refine ⟨rfl, ?_⟩
        rw [HC.out]
        exact ⟨rfl, HK1.out.old⟩
    · have HC : Hid (r = none) := Lib.hid (by
        rw [HS.out]; unfold cutAt
        rw [if_neg (fun h => hpos ⟨h.1, h.2.1⟩)])
      have hP2 : Calls Try.prog 97 #[.pointer (some ⟨kb, 0, none⟩), .int .i64 mp, .int .i64 v.length] w1 fun e w' => e = .panicked pan ∧ w1 = w' := hP.mono (by
        rintro e2 w2 ⟨hw, hh⟩
        rcases hh with ⟨h0, h1, _⟩ | ⟨_, he⟩
        · exact absurd ⟨h0, h1⟩ hpos
        · exact ⟨he, hw⟩)
      clear hP hpos
      go_wp2_with fail
      refine hP2.mono ?_
      rintro e2 w2 ⟨rfl, rfl⟩
      clear hP2
      go_wp2
      refine ⟨rfl, ?_⟩
      rw [HC.out]
      exact ⟨rfl, HK1.out.old⟩
end Go.Proofs.Ytbcckfggnlmhoaa
