/-
  Our own text, in the proof of the law DiskAlgebra of package disk (cayleylaw04). Proved here: DiskAlgebra returns true at every presentation, disks and word. Conditions: the arguments lie in memory as the slices say.
-/
import Derived.Test.YtbcckfggnlmhoaaGc
import Derived.Test.YtbcckfggnlmhoaaFb
namespace Go.Proofs.Ytbcckfggnlmhoaa
open Go Go.RowKit

/-- The arguments lie where they lay, and so do the lists handed back so far. -/
structure Ld (w : World) (p : Pr) (R : Option Addr) (rc : Nat) (D : Option Addr) (d : List Cel) (E : Option Addr) (e : List Cel) (Ls : List (Option Addr × List Cel)) (W : World) : Prop where
  lb : Lb w p R rc D d E e W
  cs : ∀ q ∈ Ls, CellsAt W q.1 q.2
theorem Ld.on {w : World} {p : Pr} {R : Option Addr} {rc : Nat} {D E : Option Addr} {d e : List Cel} {Ls : List (Option Addr × List Cel)} {W W' : World} (h : Ld w p R rc D d E e Ls W) (hb : Below W.heap.size W W') : Ld w p R rc D d E e Ls W' := ⟨h.lb.on hb, fun q hq => (h.cs q hq).below hb⟩
/-- What a call hands back that returns a list of cells and an error. -/
def Ph (w : World) (p : Pr) (R : Option Addr) (rc : Nat) (D : Option Addr) (d : List Cel) (E : Option Addr) (e : List Cel) (Ls : List (Option Addr × List Cel)) (l : List Cel) (c : Int) (e' : Ending) (w' : World) : Prop :=
  ∃ A cap, e' = .returned (.tuple #[.slice A l.length cap, .int .i64 c]) ∧ Ld w p R rc D d E e ((A, l) :: Ls) w'
theorem Ph.of {w : World} {p : Pr} {R : Option Addr} {rc : Nat} {D E : Option Addr} {d e : List Cel} {Ls : List (Option Addr × List Cel)} {W : World} (L : Ld w p R rc D d E e Ls W) {n : FuncId} {vs : Array Value} {l : List Cel} {c : Int} (h : Calls Try.prog n vs W (CellsP W l c)) : Calls Try.prog n vs W (Ph w p R rc D d E e Ls l c) := by
  refine h.mono ?_
  rintro e' w' ⟨A, cap, h1, h2, _, hb⟩
  exact ⟨A, cap, h1, L.lb.on hb, fun q hq => by rcases List.mem_cons.1 hq with rfl | hq; exact h2; exact (L.cs q hq).below hb⟩
theorem Ld.same {w : World} {p : Pr} {R : Option Addr} {rc : Nat} {D E : Option Addr} {d e : List Cel} {Ls : List (Option Addr × List Cel)} {W : World} (L : Ld w p R rc D d E e Ls W) (A B : Option Addr) (ca cb : Nat) (x : List Cel) (ha : (A, x) ∈ Ls) (hb : (B, x) ∈ Ls) (hl : x.length ≤ 5000000000000) :
    Calls Try.prog 24 #[.slice A x.length ca, .slice B x.length cb] W fun e' w' => e' = .returned (.bool true) ∧ Ld w p R rc D d E e Ls w' :=
  (Same_any A B x ca cb W (L.cs _ ha) (L.cs _ hb) hl).mono fun _ _ h => ⟨h.1, L.on h.2⟩
theorem Ld.sane {w : World} {p : Pr} {R : Option Addr} {rc : Nat} {D E : Option Addr} {d e : List Cel} {Ls : List (Option Addr × List Cel)} {W : World} (L : Ld w p R rc D d E e Ls W) : Calls Try.prog 13 #[] W fun e' w' => e' = .returned (.bool true) ∧ Ld w p R rc D d E e Ls w' := (sane_any W).mono fun _ _ h => ⟨h.1, L.on h.2⟩

theorem prodL_len (p : Pr) (d e : List Cel) : (prodL p d e).length ≤ 5000000000000 := by
  by_cases h : prodI p d e = 0
  · have h1 := (diskB_facts (prodI_0 h)).1
    have e1 : prodL p d e = d ++ e := if_pos h
    rw [e1]; omega
  · have e1 : prodL p d e = [] := if_neg h
    rw [e1]; simp
theorem invL_len (p : Pr) (d : List Cel) (hd : d.length ≤ 5000000000000) : (invL p d).length ≤ 5000000000000 := by
  unfold invL; split
  · rw [ginv_len]; exact hd
  · simp
theorem conL_len (p : Pr) (d : List Cel) (u : List UInt8) (hd : d.length ≤ 5000000000000) : (conL p d u).length ≤ 5000000000000 := by
  unfold conL; split
  · rw [List.length_map]; exact hd
  · simp
theorem simL_len (p : Pr) (d : List Cel) (hd : d.length ≤ 5000000000000) : (simL p d).length ≤ 5000000000000 := by
  unfold simL; split
  · exact Nat.le_trans (simp4_len d) hd
  · simp

set_option maxHeartbeats 16000000 in
set_option maxRecDepth 100000 in
theorem diskAlgebra_any (p : Pr) (R : Option Addr) (rc : Nat) (D : Option Addr) (dc : Nat) (d : List Cel) (E : Option Addr) (ec : Nat) (e : List Cel) (u : List UInt8) (w : World) (ha : Args w p R D dc d E ec e) (hul : u.length ≤ maxLen) :
    Calls Try.prog 4 #[prV p.k R p.rels.length rc, .slice D d.length dc, .slice E e.length ec, .string ⟨u.toArray⟩] w fun e w' => e = .returned (.bool true) ∧ Below w.heap.size w w' := by
  have L0 := Lib.hid (show Ld w p R rc D d E e [] _ from ⟨⟨La.start rc ha.rels ha.cd, ha.ce.below (Boxd.start w (prC p.k R p.rels.length rc) 24).old⟩, fun q hq => by cases hq⟩)
  have T16 : Hid (∀ Ls W, Ld w p R rc D d E e Ls W → Calls Try.prog 16 #[prV p.k R p.rels.length rc, .slice D d.length dc, .slice E e.length ec] W (Ph w p R rc D d E e Ls (prodL p d e) (prodI p d e))) := Lib.hid (fun Ls W L => Ph.of L (rProduct_any p R rc D dc d E ec e W L.lb.la.rels ha.m L.lb.la.cells ha.dm ha.dn L.lb.cells ha.em ha.en))
  have T17 : Hid (∀ Ls W, Ld w p R rc D d E e Ls W → Calls Try.prog 17 #[prV p.k R p.rels.length rc, .slice D d.length dc] W (Ph w p R rc D d E e Ls (invL p d) (chk p [] [d]))) := Lib.hid (fun Ls W L => Ph.of L (rInverse_any p R rc D dc d W L.lb.la.rels ha.m L.lb.la.cells ha.dm ha.dn))
  have T18 : Hid (∀ Ls W, Ld w p R rc D d E e Ls W → Calls Try.prog 18 #[prV p.k R p.rels.length rc, .slice D d.length dc, .string ⟨u.toArray⟩] W (Ph w p R rc D d E e Ls (conL p d u) (conI p d u))) := Lib.hid (fun Ls W L => Ph.of L (rConjugate_any p R rc D dc d u W L.lb.la.rels ha.m L.lb.la.cells ha.dm hul))
  have T19 : Hid (∀ Ls W, Ld w p R rc D d E e Ls W → Calls Try.prog 19 #[prV p.k R p.rels.length rc, .slice D d.length dc] W (Ph w p R rc D d E e Ls (simL p d) (chk p [] [d]))) := Lib.hid (fun Ls W L => Ph.of L (rSimplify_any p R rc D dc d W L.lb.la.rels ha.m L.lb.la.cells ha.dm))
  have T20 : Hid (∀ Ls W, Ld w p R rc D d E e Ls W → Calls Try.prog 20 #[prV p.k R p.rels.length rc, .slice D d.length dc, .slice E e.length ec] W (Ph w p R rc D d E e Ls (prodL p d e) (prodI p d e))) := Lib.hid (fun Ls W L => Ph.of L (Product_any p R rc D dc d E ec e W L.lb.la.rels ha.m L.lb.la.cells ha.dm ha.dn L.lb.cells ha.em ha.en))
  have T21 : Hid (∀ Ls W, Ld w p R rc D d E e Ls W → Calls Try.prog 21 #[prV p.k R p.rels.length rc, .slice D d.length dc] W (Ph w p R rc D d E e Ls (invL p d) (chk p [] [d]))) := Lib.hid (fun Ls W L => Ph.of L (Inverse_any p R rc D dc d W L.lb.la.rels ha.m L.lb.la.cells ha.dm ha.dn))
  have T22 : Hid (∀ Ls W, Ld w p R rc D d E e Ls W → Calls Try.prog 22 #[prV p.k R p.rels.length rc, .slice D d.length dc, .string ⟨u.toArray⟩] W (Ph w p R rc D d E e Ls (conL p d u) (conI p d u))) := Lib.hid (fun Ls W L => Ph.of L (Conjugate_any p R rc D dc d u W L.lb.la.rels ha.m L.lb.la.cells ha.dm ha.dn hul))
  have T23 : Hid (∀ Ls W, Ld w p R rc D d E e Ls W → Calls Try.prog 23 #[prV p.k R p.rels.length rc, .slice D d.length dc] W (Ph w p R rc D d E e Ls (simL p d) (chk p [] [d]))) := Lib.hid (fun Ls W L => Ph.of L (Simplify_any p R rc D dc d W L.lb.la.rels ha.m L.lb.la.cells ha.dm ha.dn))
  have HLP := Lib.hid (prodL_len p d e)
  have HLI := Lib.hid (invL_len p d ha.dm)
  have HLC := Lib.hid (conL_len p d u ha.dm)
  have HLS := Lib.hid (simL_len p d ha.dm)
  clear ha hul
  generalize prodL p d e = P at *
  generalize invL p d = I at *
  generalize conL p d u = C at *
  generalize simL p d = S at *
  generalize prodI p d e = x at *
  generalize chk p [] [d] = y at *
  generalize conI p d u = z at *
  have h := T16.out _ _ L0.out
  go_enter Try.func4, Try.ntmps4
  go_wp2_with fail
  refine h.mono ?_
  rintro e1 w1 ⟨A1, k1, rfl, hL⟩
  have L1 := Lib.hid hL
  clear h hL
  have h := T17.out _ _ L1.out
  have c0 := L1.out.lb.la.c0
  have c1 := L1.out.lb.la.c1
  go_wp2_with fail
  refine h.mono ?_
  rintro e2 w2 ⟨A2, k2, rfl, hL⟩
  have L2 := Lib.hid hL
  clear h hL c0 c1
  have h := T18.out _ _ L2.out
  have c0 := L2.out.lb.la.c0
  have c1 := L2.out.lb.la.c1
  go_wp2_with fail
  refine h.mono ?_
  rintro e3 w3 ⟨A3, k3, rfl, hL⟩
  have L3 := Lib.hid hL
  clear h hL c0 c1
  have h := T19.out _ _ L3.out
  have c0 := L3.out.lb.la.c0
  have c1 := L3.out.lb.la.c1
  go_wp2_with fail
  refine h.mono ?_
  rintro e4 w4 ⟨A4, k4, rfl, hL⟩
  have L4 := Lib.hid hL
  clear h hL c0 c1
  have h := T20.out _ _ L4.out
  have c0 := L4.out.lb.la.c0
  have c1 := L4.out.lb.la.c1
  go_wp2_with fail
  refine h.mono ?_
  rintro e5 w5 ⟨A5, k5, rfl, hL⟩
  have L5 := Lib.hid hL
  clear h hL c0 c1
  have h := T21.out _ _ L5.out
  have c0 := L5.out.lb.la.c0
  have c1 := L5.out.lb.la.c1
  go_wp2_with fail
  refine h.mono ?_
  rintro e6 w6 ⟨A6, k6, rfl, hL⟩
  have L6 := Lib.hid hL
  clear h hL c0 c1
  have h := T22.out _ _ L6.out
  have c0 := L6.out.lb.la.c0
  have c1 := L6.out.lb.la.c1
  go_wp2_with fail
  refine h.mono ?_
  rintro e7 w7 ⟨A7, k7, rfl, hL⟩
  have L7 := Lib.hid hL
  clear h hL c0 c1
  have h := T23.out _ _ L7.out
  have c0 := L7.out.lb.la.c0
  have c1 := L7.out.lb.la.c1
  go_wp2_with fail
  refine h.mono ?_
  rintro e8 w8 ⟨A8, k8, rfl, hL⟩
  have L8 := Lib.hid hL
  clear h hL c0 c1
  have h := L8.out.sane
  go_wp2_with fail
  refine h.mono ?_
  rintro e9 w9 ⟨rfl, hL⟩
  have L9 := Lib.hid hL
  have h := L9.out.same A5 A1 k5 k1 P (by simp) (by simp) HLP.out
  clear hL
  go_wp2_with fail
  refine h.mono ?_
  rintro e10 w10 ⟨rfl, hL⟩
  have L10 := Lib.hid hL
  have h := L10.out.same A6 A2 k6 k2 I (by simp) (by simp) HLI.out
  clear hL
  go_wp2_with fail
  refine h.mono ?_
  rintro e11 w11 ⟨rfl, hL⟩
  have L11 := Lib.hid hL
  have h := L11.out.same A7 A3 k7 k3 C (by simp) (by simp) HLC.out
  clear hL
  go_wp2_with fail
  refine h.mono ?_
  rintro e12 w12 ⟨rfl, hL⟩
  have L12 := Lib.hid hL
  have h := L12.out.same A8 A4 k8 k4 S (by simp) (by simp) HLS.out
  clear hL
  go_wp2_with fail
  refine h.mono ?_
  rintro e13 w13 ⟨rfl, hL⟩
  have L13 := Lib.hid hL
  clear hL h
  go_wp2
  go_ret
  exact ⟨rfl, L13.out.lb.la.box.old⟩
end Go.Proofs.Ytbcckfggnlmhoaa
