/-
  Our own text, in the proof of the law DiskGroup of package disk (cayleylaw04). Proved here: DiskGroup returns true at every presentation, disks and word. Conditions: the arguments lie in memory as the slices say.
-/
import Derived.Test.YtbcckfggnlmhoaaFa
import Derived.Test.YtbcckfggnlmhoaaCa
namespace Go.Proofs.Ytbcckfggnlmhoaa
open Go Go.RowKit

theorem catB (a b c : List UInt8) (h : a ++ b = c) : ByteArray.mk a.toArray ++ ByteArray.mk b.toArray = ⟨c.toArray⟩ := by
  subst h
  have e : ∀ x y : ByteArray, x.data = y.data → x = y := fun x y h => by cases x; cases y; simp only at h; subst h; rfl
  exact e _ _ (by simp [ByteArray.data_append])

/-- The law's arguments lie where they lay; a second list of cells too. -/
structure Lb (w : World) (p : Pr) (R : Option Addr) (rc : Nat) (D : Option Addr) (d : List Cel) (E : Option Addr) (e : List Cel) (W : World) : Prop where
  la : La w p R rc D d W
  cells : CellsAt W E e
theorem Lb.on {w : World} {p : Pr} {R : Option Addr} {rc : Nat} {D E : Option Addr} {d e : List Cel} {W W' : World} (h : Lb w p R rc D d E e W) (hb : Below W.heap.size W W') : Lb w p R rc D d E e W' := ⟨h.la.on hb, h.cells.below hb⟩

/-- The two lists, and what the slices say of nil. -/
structure Args (w : World) (p : Pr) (R : Option Addr) (D : Option Addr) (dc : Nat) (d : List Cel) (E : Option Addr) (ec : Nat) (e : List Cel) : Prop where
  rels : RelsAt w R p.rels
  m : p.rels.length ≤ maxLen
  cd : CellsAt w D d
  dm : d.length ≤ 5000000000000
  dn : D = none → d = [] ∧ dc = 0
  ce : CellsAt w E e
  em : e.length ≤ 5000000000000
  en : E = none → e = [] ∧ ec = 0

set_option maxHeartbeats 4000000 in
set_option maxRecDepth 100000 in
theorem diskGroup_no (p : Pr) (R : Option Addr) (rc : Nat) (D : Option Addr) (dc : Nat) (d : List Cel) (E : Option Addr) (ec : Nat) (e : List Cel) (u : List UInt8) (w : World) (ha : Args w p R D dc d E ec e) (hno : ¬ (chk p [] [d] = 0 ∧ chk p [] [e] = 0)) :
    Calls Try.prog 5 #[prV p.k R p.rels.length rc, .slice D d.length dc, .slice E e.length ec, .string ⟨u.toArray⟩] w fun e w' => e = .returned (.bool true) ∧ Below w.heap.size w w' := by
  have L0 := Lib.hid (show Lb w p R rc D d E e _ from ⟨La.start rc ha.rels ha.cd, ha.ce.below (Boxd.start w (prC p.k R p.rels.length rc) 24).old⟩)
  have HA := Lib.hid ha
  have h1 := Boundary_any p R rc D dc d _ L0.out.la.rels ha.m L0.out.la.cells ha.dm
  generalize bdS p d = b at *
  clear ha
  go_enter Try.func5, Try.ntmps5
  go_wp2_with fail
  refine h1.mono ?_
  rintro e1 w1 ⟨rfl, hb1⟩
  have L1 := Lib.hid (L0.out.on hb1)
  have h2 := Boundary_any p R rc E ec e w1 L1.out.la.rels HA.out.m L1.out.cells HA.out.em
  have c0 := L1.out.la.c0
  have c1 := L1.out.la.c1
  generalize bdS p e = c at *
  clear h1 hb1
  go_wp2_with fail
  refine h2.mono ?_
  rintro e2 w2 ⟨rfl, hb2⟩
  have L2 := Lib.hid (L1.out.on hb2)
  have hS := sane_any w2
  clear h2 hb2 c0 c1
  by_cases hd : chk p [] [d] = 0
  · have he : (chk p [] [e] != 0) = true := by simpa using fun h => hno ⟨hd, h⟩
    have hd' : (chk p [] [d] != 0) = false := by simpa using hd
    clear hno hd
    generalize chk p [] [d] = x at *
    generalize chk p [] [e] = y at *
    go_wp2_with fail
    refine hS.mono ?_
    rintro e3 w3 ⟨rfl, hb3⟩
    have L3 := Lib.hid (L2.out.on hb3)
    go_wp2
    go_ret
    exact ⟨rfl, L3.out.la.box.old⟩
  · have hd' : (chk p [] [d] != 0) = true := by simpa using hd
    clear hno hd
    generalize chk p [] [d] = x at *
    generalize chk p [] [e] = y at *
    go_wp2_with fail
    refine hS.mono ?_
    rintro e3 w3 ⟨rfl, hb3⟩
    have L3 := Lib.hid (L2.out.on hb3)
    go_wp2
    go_ret
    exact ⟨rfl, L3.out.la.box.old⟩

theorem g_bnd {w : World} {p : Pr} {R : Option Addr} {rc : Nat} {D E : Option Addr} {d e : List Cel} {W : World} (L : Lb w p R rc D d E e W) (hm : p.rels.length ≤ maxLen) (A : Option Addr) (cap : Nat) (x : List Cel) (hx : CellsAt W A x) (hl : x.length ≤ 5000000000000) (y : List UInt8) (hk : chk p [] [x] = 0) (hy : bdS p x = y) :
    Calls Try.prog 12 #[prV p.k R p.rels.length rc, .slice A x.length cap] W fun e' w' => e' = .returned (.tuple #[.string ⟨y.toArray⟩, .int .i64 0]) ∧ Lb w p R rc D d E e w' ∧ Below W.heap.size W w' := by
  have := Boundary_any p R rc A cap x W L.la.rels hm hx hl
  rw [hk, hy] at this
  exact this.mono fun _ _ h => ⟨h.1, L.on h.2, h.2⟩
theorem g_prod {w : World} {p : Pr} {R : Option Addr} {rc : Nat} {D E : Option Addr} {d e : List Cel} {W : World} (L : Lb w p R rc D d E e W) {dc ec : Nat} (hA : Args w p R D dc d E ec e) :
    Calls Try.prog 20 #[prV p.k R p.rels.length rc, .slice D d.length dc, .slice E e.length ec] W fun e' w' => ∃ A cap, e' = .returned (.tuple #[.slice A (prodL p d e).length cap, .int .i64 (prodI p d e)]) ∧ CellsAt w' A (prodL p d e) ∧ Lb w p R rc D d E e w' := by
  refine (Product_any p R rc D dc d E ec e W L.la.rels hA.m L.la.cells hA.dm hA.dn L.cells hA.em hA.en).mono ?_
  rintro e' w' ⟨A, cap, h1, h2, _, hb⟩
  exact ⟨A, cap, h1, h2, L.on hb⟩
theorem g_inv {w : World} {p : Pr} {R : Option Addr} {rc : Nat} {D E : Option Addr} {d e : List Cel} {W : World} (L : Lb w p R rc D d E e W) {dc ec : Nat} (hA : Args w p R D dc d E ec e) (hk : chk p [] [d] = 0) :
    Calls Try.prog 21 #[prV p.k R p.rels.length rc, .slice D d.length dc] W fun e' w' => ∃ A cap, e' = .returned (.tuple #[.slice A (invL p d).length cap, .int .i64 0]) ∧ CellsAt w' A (invL p d) ∧ Lb w p R rc D d E e w' := by
  have := Inverse_any p R rc D dc d W L.la.rels hA.m L.la.cells hA.dm hA.dn
  rw [hk] at this
  refine this.mono ?_
  rintro e' w' ⟨A, cap, h1, h2, _, hb⟩
  exact ⟨A, cap, h1, h2, L.on hb⟩
theorem g_con {w : World} {p : Pr} {R : Option Addr} {rc : Nat} {D E : Option Addr} {d e : List Cel} {W : World} (L : Lb w p R rc D d E e W) {dc ec : Nat} (hA : Args w p R D dc d E ec e) (u : List UInt8) (hu : u.length ≤ maxLen) :
    Calls Try.prog 22 #[prV p.k R p.rels.length rc, .slice D d.length dc, .string ⟨u.toArray⟩] W fun e' w' => ∃ A cap, e' = .returned (.tuple #[.slice A (conL p d u).length cap, .int .i64 (conI p d u)]) ∧ CellsAt w' A (conL p d u) ∧ Lb w p R rc D d E e w' := by
  refine (Conjugate_any p R rc D dc d u W L.la.rels hA.m L.la.cells hA.dm hA.dn hu).mono ?_
  rintro e' w' ⟨A, cap, h1, h2, _, hb⟩
  exact ⟨A, cap, h1, h2, L.on hb⟩
theorem g_sim {w : World} {p : Pr} {R : Option Addr} {rc : Nat} {D E : Option Addr} {d e : List Cel} {W : World} (L : Lb w p R rc D d E e W) {dc ec : Nat} (hA : Args w p R D dc d E ec e) (hk : chk p [] [d] = 0) :
    Calls Try.prog 23 #[prV p.k R p.rels.length rc, .slice D d.length dc] W fun e' w' => ∃ A cap, e' = .returned (.tuple #[.slice A (simL p d).length cap, .int .i64 0]) ∧ CellsAt w' A (simL p d) ∧ Lb w p R rc D d E e w' := by
  have := Simplify_any p R rc D dc d W L.la.rels hA.m L.la.cells hA.dm hA.dn
  rw [hk] at this
  refine this.mono ?_
  rintro e' w' ⟨A, cap, h1, h2, _, hb⟩
  exact ⟨A, cap, h1, h2, L.on hb⟩
theorem g_sane {w : World} {p : Pr} {R : Option Addr} {rc : Nat} {D E : Option Addr} {d e : List Cel} {W : World} (L : Lb w p R rc D d E e W) : Calls Try.prog 13 #[] W fun e' w' => e' = .returned (.bool true) ∧ Lb w p R rc D d E e w' := (sane_any W).mono fun _ _ h => ⟨h.1, L.on h.2⟩
theorem g_red {w : World} {p : Pr} {R : Option Addr} {rc : Nat} {D E : Option Addr} {d e : List Cel} {W : World} (L : Lb w p R rc D d E e W) (x y : List UInt8) (hx : x.all (letB 8) = true) (hl : x.length ≤ 1000000000) (hy : red x = y) :
    Calls Try.prog 25 #[.string ⟨x.toArray⟩] W fun e' w' => e' = .returned (.string ⟨y.toArray⟩) ∧ Lb w p R rc D d E e w' := by
  have : Calls Try.prog 25 #[.string ⟨x.toArray⟩] W fun e w' => e = .returned (.string ⟨(red x).toArray⟩) ∧ Below W.heap.size W w' := Reduce_any ⟨x.toArray⟩ W hx (by rw [size_mk]; exact hl)
  rw [hy] at this
  exact this.mono fun _ _ h => ⟨h.1, L.on h.2⟩
theorem g_ivt {w : World} {p : Pr} {R : Option Addr} {rc : Nat} {D E : Option Addr} {d e : List Cel} {W : World} (L : Lb w p R rc D d E e W) (x y : List UInt8) (hx : x.all (letB 8) = true) (hl : x.length ≤ 1000000000) (hy : invW x = y) :
    Calls Try.prog 26 #[.string ⟨x.toArray⟩] W fun e' w' => e' = .returned (.string ⟨y.toArray⟩) ∧ Lb w p R rc D d E e w' := by
  have : Calls Try.prog 26 #[.string ⟨x.toArray⟩] W fun e w' => e = .returned (.string ⟨(invW x).toArray⟩) ∧ Below W.heap.size W w' := Invert_any ⟨x.toArray⟩ W hx (by rw [size_mk]; exact hl)
  rw [hy] at this
  exact this.mono fun _ _ h => ⟨h.1, L.on h.2⟩

set_option maxHeartbeats 16000000 in
set_option maxRecDepth 100000 in
theorem diskGroup_pc (p : Pr) (R : Option Addr) (rc : Nat) (D : Option Addr) (dc : Nat) (d : List Cel) (E : Option Addr) (ec : Nat) (e : List Cel) (u : List UInt8) (w : World) (ha : Args w p R D dc d E ec e) (hul : u.length ≤ maxLen) (hd : chk p [] [d] = 0) (he : chk p [] [e] = 0) (hP : prodI p d e = 0) (hC : conI p d u = 0) :
    Calls Try.prog 5 #[prV p.k R p.rels.length rc, .slice D d.length dc, .slice E e.length ec, .string ⟨u.toArray⟩] w fun e w' => e = .returned (.bool true) ∧ Below w.heap.size w w' := by
  have L0 := Lib.hid (show Lb w p R rc D d E e _ from ⟨La.start rc ha.rels ha.cd, ha.ce.below (Boxd.start w (prC p.k R p.rels.length rc) 24).old⟩)
  have HA := Lib.hid ha
  have HUL := Lib.hid hul
  have HCD := Lib.hid hd
  have HCE := Lib.hid he
  obtain ⟨b, hb⟩ : ∃ b, bdS p d = b := ⟨_, rfl⟩
  obtain ⟨c, hc⟩ : ∃ c, bdS p e = c := ⟨_, rfl⟩
  have HB := Lib.hid hb
  have HC := Lib.hid hc
  have HBA := bdS_all hd
  have HCA := bdS_all he
  have HIV := bdS_inv hd
  have HSI := bdS_simp hd
  rw [hb] at HBA HIV HSI
  rw [hc] at HCA
  obtain ⟨iv, hiv⟩ : ∃ iv, invW b = iv := ⟨_, rfl⟩
  rw [hiv] at HIV
  have HIVB := Lib.hid hiv
  have HPR := bdS_prod hd he hP
  rw [hb, hc] at HPR
  obtain ⟨bc, hbc⟩ : ∃ bc, b ++ c = bc := ⟨_, rfl⟩
  have hcat := catB b c bc hbc
  have HBCA := Lib.hid (show bc.all (letB 8) = true ∧ bc.length ≤ 1000000000 by rw [← hbc, List.all_append, HBA.1, HCA.1, List.length_append]; exact ⟨rfl, by have := HBA.2; have := HCA.2; omega⟩)
  rw [hbc] at HPR
  obtain ⟨rb, hrb⟩ : ∃ rb, red bc = rb := ⟨_, rfl⟩
  rw [hrb] at HPR
  have HRB := Lib.hid hrb
  have HPR := Lib.hid HPR
  have HPI := Lib.hid hP
  have hlb := HBA.2
  have hlc := HCA.2
  clear hbc hrb
  have HCO := bdS_con hd hC
  have HUA := word_all hC
  rw [hb] at HCO
  obtain ⟨iu, hiu⟩ : ∃ iu, invW u = iu := ⟨_, rfl⟩
  obtain ⟨ub, hub⟩ : ∃ ub, u ++ b = ub := ⟨_, rfl⟩
  obtain ⟨ubi, hubi⟩ : ∃ ubi, ub ++ iu = ubi := ⟨_, rfl⟩
  have hcat2 := catB u b ub hub
  have hcat3 := catB ub iu ubi hubi
  have HUBA := Lib.hid (show ubi.all (letB 8) = true ∧ ubi.length ≤ 1000000000 by
    have h1 : iu.all (letB 8) = true := by rw [← hiu]; exact all_invW HUA.1
    have h2 : iu.length = u.length := by rw [← hiu]; exact ginv_len _ _
    rw [← hubi, ← hub, List.all_append, List.all_append, HBA.1, HUA.1, h1, List.length_append, List.length_append]
    exact ⟨rfl, by have := HBA.2; have := HUA.2; omega⟩)
  rw [hiu, hub, hubi] at HCO
  obtain ⟨ru, hru⟩ : ∃ ru, red ubi = ru := ⟨_, rfl⟩
  rw [hru] at HCO
  have HRU := Lib.hid hru
  have HIU := Lib.hid hiu
  have HCO := Lib.hid HCO
  have HCI := Lib.hid hC
  have hlb2 := HBA.2
  have hlu := HUA.2
  have hliu : iu.length ≤ 100000 := by rw [← hiu]; show (ginv invc u).length ≤ _; rw [ginv_len]; exact HUA.2
  have hlub : ub.length ≤ 1000000000 := by rw [← hub, List.length_append]; omega
  have HUA := Lib.hid HUA
  clear hiu hub hubi hru
  have hle := HSI.2.2
  have hdm := ha.dm
  have HBA := Lib.hid HBA
  have HIV := Lib.hid HIV
  have HSI := Lib.hid HSI
  have h1 := g_bnd L0.out ha.m D dc d L0.out.la.cells ha.dm b hd hb
  clear ha hul hd he hP hC hb hc hiv HCA
  go_enter Try.func5, Try.ntmps5
  go_wp2_with fail
  refine h1.mono ?_
  rintro e1 w1 ⟨rfl, hL, _⟩
  have L1 := Lib.hid hL
  clear h1 hL
  have c0 := L1.out.la.c0
  have c1 := L1.out.la.c1
  have h1 := g_bnd L1.out HA.out.m E ec e L1.out.cells HA.out.em c HCE.out HC.out
  go_wp2_with fail
  refine h1.mono ?_
  rintro e2 w2 ⟨rfl, hL, _⟩
  have L2 := Lib.hid hL
  clear h1 hL
  clear c0 c1
  have c0 := L2.out.la.c0
  have c1 := L2.out.la.c1
  have h1 := g_prod L2.out HA.out
  go_wp2_with fail
  refine h1.mono ?_
  rintro e3 w3 ⟨A3, k3, rfl, hx3, hL⟩
  have L3 := Lib.hid hL
  have HX3 := Lib.hid hx3
  clear hx3
  clear h1 hL
  clear c0 c1
  have c0 := L3.out.la.c0
  have c1 := L3.out.la.c1
  rw [HPI.out]
  have HPR2 := HPR.out
  generalize prodL p d e = x at *
  have HPR3 := Lib.hid HPR2
  clear HPR2
  have h1 := g_bnd L3.out HA.out.m A3 k3 x HX3.out HPR3.out.2.2 rb HPR3.out.1 HPR3.out.2.1
  go_wp2_with fail
  refine h1.mono ?_
  rintro e4 w4 ⟨rfl, hL, _⟩
  have L4 := Lib.hid hL
  clear h1 hL
  clear c0 c1
  have c0 := L4.out.la.c0
  have c1 := L4.out.la.c1
  have h1 := g_red L4.out bc rb HBCA.out.1 HBCA.out.2 HRB.out
  go_wp2_with fail
  refine h1.mono ?_
  rintro e5 w5 ⟨rfl, hL⟩
  have L5 := Lib.hid hL
  clear h1 hL
  clear c0 c1
  have c0 := L5.out.la.c0
  have c1 := L5.out.la.c1
  have h1 := g_inv L5.out HA.out HCD.out
  go_wp2_with fail
  refine h1.mono ?_
  rintro e6 w6 ⟨A6, k6, rfl, hx6, hL⟩
  have L6 := Lib.hid hL
  have HX6 := Lib.hid hx6
  clear hx6
  clear h1 hL
  clear c0 c1
  have c0 := L6.out.la.c0
  have c1 := L6.out.la.c1
  have HIV2 := HIV.out
  generalize invL p d = y at *
  have HIV3 := Lib.hid HIV2
  clear HIV2
  have h1 := g_bnd L6.out HA.out.m A6 k6 y HX6.out HIV3.out.2.2 iv HIV3.out.1 HIV3.out.2.1
  go_wp2_with fail
  refine h1.mono ?_
  rintro e7 w7 ⟨rfl, hL, _⟩
  have L7 := Lib.hid hL
  clear h1 hL
  clear c0 c1
  have c0 := L7.out.la.c0
  have c1 := L7.out.la.c1
  have h1 := g_ivt L7.out b iv HBA.out.1 (Nat.le_trans HBA.out.2 (by omega)) HIVB.out
  go_wp2_with fail
  refine h1.mono ?_
  rintro e8 w8 ⟨rfl, hL⟩
  have L8 := Lib.hid hL
  clear h1 hL
  clear c0 c1
  have c0 := L8.out.la.c0
  have c1 := L8.out.la.c1
  have h1 := g_con L8.out HA.out u HUL.out
  go_wp2_with fail
  refine h1.mono ?_
  rintro e9 w9 ⟨A9, k9, rfl, hx9, hL⟩
  have L9 := Lib.hid hL
  have HX9 := Lib.hid hx9
  clear hx9
  clear h1 hL
  clear c0 c1
  have c0 := L9.out.la.c0
  have c1 := L9.out.la.c1
  rw [HCI.out]
  have HCO2 := HCO.out
  generalize conL p d u = z at *
  have HCO3 := Lib.hid HCO2
  clear HCO2
  have h1 := g_bnd L9.out HA.out.m A9 k9 z HX9.out HCO3.out.2.2 ru HCO3.out.1 HCO3.out.2.1
  go_wp2_with fail
  refine h1.mono ?_
  rintro e10 w10 ⟨rfl, hL, _⟩
  have L10 := Lib.hid hL
  clear h1 hL
  clear c0 c1
  have c0 := L10.out.la.c0
  have c1 := L10.out.la.c1
  have h1 := g_ivt L10.out u iu HUA.out.1 (Nat.le_trans HUA.out.2 (by omega)) HIU.out
  go_wp2_with fail
  refine h1.mono ?_
  rintro e11 w11 ⟨rfl, hL⟩
  have L11 := Lib.hid hL
  clear h1 hL
  clear c0 c1
  have c0 := L11.out.la.c0
  have c1 := L11.out.la.c1
  have h1 := g_red L11.out ubi ru HUBA.out.1 HUBA.out.2 HRU.out
  go_wp2_with fail
  refine h1.mono ?_
  rintro e12 w12 ⟨rfl, hL⟩
  have L12 := Lib.hid hL
  clear h1 hL
  clear c0 c1
  have c0 := L12.out.la.c0
  have c1 := L12.out.la.c1
  have h1 := g_sim L12.out HA.out HCD.out
  go_wp2_with fail
  refine h1.mono ?_
  rintro e13 w13 ⟨A13, k13, rfl, hx13, hL⟩
  have L13 := Lib.hid hL
  have HX13 := Lib.hid hx13
  clear hx13
  clear h1 hL
  clear c0 c1
  have c0 := L13.out.la.c0
  have c1 := L13.out.la.c1
  have HSI2 := HSI.out
  generalize simL p d = s at *
  have HSI3 := Lib.hid HSI2
  clear HSI2
  have h1 := g_bnd L13.out HA.out.m A13 k13 s HX13.out (Nat.le_trans hle hdm) b HSI3.out.1 HSI3.out.2.1
  go_wp2_with fail
  refine h1.mono ?_
  rintro e14 w14 ⟨rfl, hL, _⟩
  have L14 := Lib.hid hL
  clear h1 hL
  clear c0 c1
  have c0 := L14.out.la.c0
  have c1 := L14.out.la.c1
  have h1 := g_sane L14.out
  go_wp2_with fail
  refine h1.mono ?_
  rintro e15 w15 ⟨rfl, hL⟩
  have L15 := Lib.hid hL
  clear h1 hL
  clear c0 c1
  have c0 := L15.out.la.c0
  have c1 := L15.out.la.c1
  have hle2 : decide ((s.length : Int) ≤ (d.length : Int)) = true := by simp; omega
  have hle3 : decide (s.length ≤ d.length) = true := by simpa using hle
  go_wp2
  go_ret
  exact ⟨rfl, L15.out.la.box.old⟩

set_option maxHeartbeats 16000000 in
set_option maxRecDepth 100000 in
theorem diskGroup_pk (p : Pr) (R : Option Addr) (rc : Nat) (D : Option Addr) (dc : Nat) (d : List Cel) (E : Option Addr) (ec : Nat) (e : List Cel) (u : List UInt8) (w : World) (ha : Args w p R D dc d E ec e) (hul : u.length ≤ maxLen) (hd : chk p [] [d] = 0) (he : chk p [] [e] = 0) (hP : prodI p d e = 0) (hC : conI p d u ≠ 0) :
    Calls Try.prog 5 #[prV p.k R p.rels.length rc, .slice D d.length dc, .slice E e.length ec, .string ⟨u.toArray⟩] w fun e w' => e = .returned (.bool true) ∧ Below w.heap.size w w' := by
  have L0 := Lib.hid (show Lb w p R rc D d E e _ from ⟨La.start rc ha.rels ha.cd, ha.ce.below (Boxd.start w (prC p.k R p.rels.length rc) 24).old⟩)
  have HA := Lib.hid ha
  have HUL := Lib.hid hul
  have HCD := Lib.hid hd
  have HCE := Lib.hid he
  obtain ⟨b, hb⟩ : ∃ b, bdS p d = b := ⟨_, rfl⟩
  obtain ⟨c, hc⟩ : ∃ c, bdS p e = c := ⟨_, rfl⟩
  have HB := Lib.hid hb
  have HC := Lib.hid hc
  have HBA := bdS_all hd
  have HCA := bdS_all he
  have HIV := bdS_inv hd
  have HSI := bdS_simp hd
  rw [hb] at HBA HIV HSI
  rw [hc] at HCA
  obtain ⟨iv, hiv⟩ : ∃ iv, invW b = iv := ⟨_, rfl⟩
  rw [hiv] at HIV
  have HIVB := Lib.hid hiv
  have HPR := bdS_prod hd he hP
  rw [hb, hc] at HPR
  obtain ⟨bc, hbc⟩ : ∃ bc, b ++ c = bc := ⟨_, rfl⟩
  have hcat := catB b c bc hbc
  have HBCA := Lib.hid (show bc.all (letB 8) = true ∧ bc.length ≤ 1000000000 by rw [← hbc, List.all_append, HBA.1, HCA.1, List.length_append]; exact ⟨rfl, by have := HBA.2; have := HCA.2; omega⟩)
  rw [hbc] at HPR
  obtain ⟨rb, hrb⟩ : ∃ rb, red bc = rb := ⟨_, rfl⟩
  rw [hrb] at HPR
  have HRB := Lib.hid hrb
  have HPR := Lib.hid HPR
  have HPI := Lib.hid hP
  have hlb := HBA.2
  have hlc := HCA.2
  clear hbc hrb
  have hcf : (conI p d u == 0) = false := by simpa using hC
  have hle := HSI.2.2
  have hdm := ha.dm
  have HBA := Lib.hid HBA
  have HIV := Lib.hid HIV
  have HSI := Lib.hid HSI
  have h1 := g_bnd L0.out ha.m D dc d L0.out.la.cells ha.dm b hd hb
  clear ha hul hd he hP hC hb hc hiv HCA
  go_enter Try.func5, Try.ntmps5
  go_wp2_with fail
  refine h1.mono ?_
  rintro e1 w1 ⟨rfl, hL, _⟩
  have L1 := Lib.hid hL
  clear h1 hL
  have c0 := L1.out.la.c0
  have c1 := L1.out.la.c1
  have h1 := g_bnd L1.out HA.out.m E ec e L1.out.cells HA.out.em c HCE.out HC.out
  go_wp2_with fail
  refine h1.mono ?_
  rintro e2 w2 ⟨rfl, hL, _⟩
  have L2 := Lib.hid hL
  clear h1 hL
  clear c0 c1
  have c0 := L2.out.la.c0
  have c1 := L2.out.la.c1
  have h1 := g_prod L2.out HA.out
  go_wp2_with fail
  refine h1.mono ?_
  rintro e3 w3 ⟨A3, k3, rfl, hx3, hL⟩
  have L3 := Lib.hid hL
  have HX3 := Lib.hid hx3
  clear hx3
  clear h1 hL
  clear c0 c1
  have c0 := L3.out.la.c0
  have c1 := L3.out.la.c1
  rw [HPI.out]
  have HPR2 := HPR.out
  generalize prodL p d e = x at *
  have HPR3 := Lib.hid HPR2
  clear HPR2
  have h1 := g_bnd L3.out HA.out.m A3 k3 x HX3.out HPR3.out.2.2 rb HPR3.out.1 HPR3.out.2.1
  go_wp2_with fail
  refine h1.mono ?_
  rintro e4 w4 ⟨rfl, hL, _⟩
  have L4 := Lib.hid hL
  clear h1 hL
  clear c0 c1
  have c0 := L4.out.la.c0
  have c1 := L4.out.la.c1
  have h1 := g_red L4.out bc rb HBCA.out.1 HBCA.out.2 HRB.out
  go_wp2_with fail
  refine h1.mono ?_
  rintro e5 w5 ⟨rfl, hL⟩
  have L5 := Lib.hid hL
  clear h1 hL
  clear c0 c1
  have c0 := L5.out.la.c0
  have c1 := L5.out.la.c1
  have h1 := g_inv L5.out HA.out HCD.out
  go_wp2_with fail
  refine h1.mono ?_
  rintro e6 w6 ⟨A6, k6, rfl, hx6, hL⟩
  have L6 := Lib.hid hL
  have HX6 := Lib.hid hx6
  clear hx6
  clear h1 hL
  clear c0 c1
  have c0 := L6.out.la.c0
  have c1 := L6.out.la.c1
  have HIV2 := HIV.out
  generalize invL p d = y at *
  have HIV3 := Lib.hid HIV2
  clear HIV2
  have h1 := g_bnd L6.out HA.out.m A6 k6 y HX6.out HIV3.out.2.2 iv HIV3.out.1 HIV3.out.2.1
  go_wp2_with fail
  refine h1.mono ?_
  rintro e7 w7 ⟨rfl, hL, _⟩
  have L7 := Lib.hid hL
  clear h1 hL
  clear c0 c1
  have c0 := L7.out.la.c0
  have c1 := L7.out.la.c1
  have h1 := g_ivt L7.out b iv HBA.out.1 (Nat.le_trans HBA.out.2 (by omega)) HIVB.out
  go_wp2_with fail
  refine h1.mono ?_
  rintro e8 w8 ⟨rfl, hL⟩
  have L8 := Lib.hid hL
  clear h1 hL
  clear c0 c1
  have c0 := L8.out.la.c0
  have c1 := L8.out.la.c1
  have h1 := g_con L8.out HA.out u HUL.out
  go_wp2_with fail
  refine h1.mono ?_
  rintro e9 w9 ⟨A9, k9, rfl, hx9, hL⟩
  have L9 := Lib.hid hL
  have HX9 := Lib.hid hx9
  clear hx9
  clear h1 hL
  clear c0 c1
  have c0 := L9.out.la.c0
  have c1 := L9.out.la.c1
  generalize conL p d u = z at *
  generalize conI p d u = zi at *
  have h1 := g_sim L9.out HA.out HCD.out
  go_wp2_with fail
  refine h1.mono ?_
  rintro e10 w10 ⟨A10, k10, rfl, hx10, hL⟩
  have L10 := Lib.hid hL
  have HX10 := Lib.hid hx10
  clear hx10
  clear h1 hL
  clear c0 c1
  have c0 := L10.out.la.c0
  have c1 := L10.out.la.c1
  have HSI2 := HSI.out
  generalize simL p d = s at *
  have HSI3 := Lib.hid HSI2
  clear HSI2
  have h1 := g_bnd L10.out HA.out.m A10 k10 s HX10.out (Nat.le_trans hle hdm) b HSI3.out.1 HSI3.out.2.1
  go_wp2_with fail
  refine h1.mono ?_
  rintro e11 w11 ⟨rfl, hL, _⟩
  have L11 := Lib.hid hL
  clear h1 hL
  clear c0 c1
  have c0 := L11.out.la.c0
  have c1 := L11.out.la.c1
  have h1 := g_sane L11.out
  go_wp2_with fail
  refine h1.mono ?_
  rintro e12 w12 ⟨rfl, hL⟩
  have L12 := Lib.hid hL
  clear h1 hL
  clear c0 c1
  have c0 := L12.out.la.c0
  have c1 := L12.out.la.c1
  have hle2 : decide ((s.length : Int) ≤ (d.length : Int)) = true := by simp; omega
  have hle3 : decide (s.length ≤ d.length) = true := by simpa using hle
  go_wp2
  go_ret
  exact ⟨rfl, L12.out.la.box.old⟩

set_option maxHeartbeats 16000000 in
set_option maxRecDepth 100000 in
theorem diskGroup_qc (p : Pr) (R : Option Addr) (rc : Nat) (D : Option Addr) (dc : Nat) (d : List Cel) (E : Option Addr) (ec : Nat) (e : List Cel) (u : List UInt8) (w : World) (ha : Args w p R D dc d E ec e) (hul : u.length ≤ maxLen) (hd : chk p [] [d] = 0) (he : chk p [] [e] = 0) (hP : prodI p d e ≠ 0) (hC : conI p d u = 0) :
    Calls Try.prog 5 #[prV p.k R p.rels.length rc, .slice D d.length dc, .slice E e.length ec, .string ⟨u.toArray⟩] w fun e w' => e = .returned (.bool true) ∧ Below w.heap.size w w' := by
  have L0 := Lib.hid (show Lb w p R rc D d E e _ from ⟨La.start rc ha.rels ha.cd, ha.ce.below (Boxd.start w (prC p.k R p.rels.length rc) 24).old⟩)
  have HA := Lib.hid ha
  have HUL := Lib.hid hul
  have HCD := Lib.hid hd
  have HCE := Lib.hid he
  obtain ⟨b, hb⟩ : ∃ b, bdS p d = b := ⟨_, rfl⟩
  obtain ⟨c, hc⟩ : ∃ c, bdS p e = c := ⟨_, rfl⟩
  have HB := Lib.hid hb
  have HC := Lib.hid hc
  have HBA := bdS_all hd
  have HCA := bdS_all he
  have HIV := bdS_inv hd
  have HSI := bdS_simp hd
  rw [hb] at HBA HIV HSI
  rw [hc] at HCA
  obtain ⟨iv, hiv⟩ : ∃ iv, invW b = iv := ⟨_, rfl⟩
  rw [hiv] at HIV
  have HIVB := Lib.hid hiv
  have hpf : (prodI p d e == 0) = false := by simpa using hP
  have HCO := bdS_con hd hC
  have HUA := word_all hC
  rw [hb] at HCO
  obtain ⟨iu, hiu⟩ : ∃ iu, invW u = iu := ⟨_, rfl⟩
  obtain ⟨ub, hub⟩ : ∃ ub, u ++ b = ub := ⟨_, rfl⟩
  obtain ⟨ubi, hubi⟩ : ∃ ubi, ub ++ iu = ubi := ⟨_, rfl⟩
  have hcat2 := catB u b ub hub
  have hcat3 := catB ub iu ubi hubi
  have HUBA := Lib.hid (show ubi.all (letB 8) = true ∧ ubi.length ≤ 1000000000 by
    have h1 : iu.all (letB 8) = true := by rw [← hiu]; exact all_invW HUA.1
    have h2 : iu.length = u.length := by rw [← hiu]; exact ginv_len _ _
    rw [← hubi, ← hub, List.all_append, List.all_append, HBA.1, HUA.1, h1, List.length_append, List.length_append]
    exact ⟨rfl, by have := HBA.2; have := HUA.2; omega⟩)
  rw [hiu, hub, hubi] at HCO
  obtain ⟨ru, hru⟩ : ∃ ru, red ubi = ru := ⟨_, rfl⟩
  rw [hru] at HCO
  have HRU := Lib.hid hru
  have HIU := Lib.hid hiu
  have HCO := Lib.hid HCO
  have HCI := Lib.hid hC
  have hlb2 := HBA.2
  have hlu := HUA.2
  have hliu : iu.length ≤ 100000 := by rw [← hiu]; show (ginv invc u).length ≤ _; rw [ginv_len]; exact HUA.2
  have hlub : ub.length ≤ 1000000000 := by rw [← hub, List.length_append]; omega
  have HUA := Lib.hid HUA
  clear hiu hub hubi hru
  have hle := HSI.2.2
  have hdm := ha.dm
  have HBA := Lib.hid HBA
  have HIV := Lib.hid HIV
  have HSI := Lib.hid HSI
  have h1 := g_bnd L0.out ha.m D dc d L0.out.la.cells ha.dm b hd hb
  clear ha hul hd he hP hC hb hc hiv HCA
  go_enter Try.func5, Try.ntmps5
  go_wp2_with fail
  refine h1.mono ?_
  rintro e1 w1 ⟨rfl, hL, _⟩
  have L1 := Lib.hid hL
  clear h1 hL
  have c0 := L1.out.la.c0
  have c1 := L1.out.la.c1
  have h1 := g_bnd L1.out HA.out.m E ec e L1.out.cells HA.out.em c HCE.out HC.out
  go_wp2_with fail
  refine h1.mono ?_
  rintro e2 w2 ⟨rfl, hL, _⟩
  have L2 := Lib.hid hL
  clear h1 hL
  clear c0 c1
  have c0 := L2.out.la.c0
  have c1 := L2.out.la.c1
  have h1 := g_prod L2.out HA.out
  go_wp2_with fail
  refine h1.mono ?_
  rintro e3 w3 ⟨A3, k3, rfl, hx3, hL⟩
  have L3 := Lib.hid hL
  have HX3 := Lib.hid hx3
  clear hx3
  clear h1 hL
  clear c0 c1
  have c0 := L3.out.la.c0
  have c1 := L3.out.la.c1
  generalize prodL p d e = x at *
  generalize prodI p d e = xi at *
  have h1 := g_inv L3.out HA.out HCD.out
  go_wp2_with fail
  refine h1.mono ?_
  rintro e4 w4 ⟨A4, k4, rfl, hx4, hL⟩
  have L4 := Lib.hid hL
  have HX4 := Lib.hid hx4
  clear hx4
  clear h1 hL
  clear c0 c1
  have c0 := L4.out.la.c0
  have c1 := L4.out.la.c1
  have HIV2 := HIV.out
  generalize invL p d = y at *
  have HIV3 := Lib.hid HIV2
  clear HIV2
  have h1 := g_bnd L4.out HA.out.m A4 k4 y HX4.out HIV3.out.2.2 iv HIV3.out.1 HIV3.out.2.1
  go_wp2_with fail
  refine h1.mono ?_
  rintro e5 w5 ⟨rfl, hL, _⟩
  have L5 := Lib.hid hL
  clear h1 hL
  clear c0 c1
  have c0 := L5.out.la.c0
  have c1 := L5.out.la.c1
  have h1 := g_ivt L5.out b iv HBA.out.1 (Nat.le_trans HBA.out.2 (by omega)) HIVB.out
  go_wp2_with fail
  refine h1.mono ?_
  rintro e6 w6 ⟨rfl, hL⟩
  have L6 := Lib.hid hL
  clear h1 hL
  clear c0 c1
  have c0 := L6.out.la.c0
  have c1 := L6.out.la.c1
  have h1 := g_con L6.out HA.out u HUL.out
  go_wp2_with fail
  refine h1.mono ?_
  rintro e7 w7 ⟨A7, k7, rfl, hx7, hL⟩
  have L7 := Lib.hid hL
  have HX7 := Lib.hid hx7
  clear hx7
  clear h1 hL
  clear c0 c1
  have c0 := L7.out.la.c0
  have c1 := L7.out.la.c1
  rw [HCI.out]
  have HCO2 := HCO.out
  generalize conL p d u = z at *
  have HCO3 := Lib.hid HCO2
  clear HCO2
  have h1 := g_bnd L7.out HA.out.m A7 k7 z HX7.out HCO3.out.2.2 ru HCO3.out.1 HCO3.out.2.1
  go_wp2_with fail
  refine h1.mono ?_
  rintro e8 w8 ⟨rfl, hL, _⟩
  have L8 := Lib.hid hL
  clear h1 hL
  clear c0 c1
  have c0 := L8.out.la.c0
  have c1 := L8.out.la.c1
  have h1 := g_ivt L8.out u iu HUA.out.1 (Nat.le_trans HUA.out.2 (by omega)) HIU.out
  go_wp2_with fail
  refine h1.mono ?_
  rintro e9 w9 ⟨rfl, hL⟩
  have L9 := Lib.hid hL
  clear h1 hL
  clear c0 c1
  have c0 := L9.out.la.c0
  have c1 := L9.out.la.c1
  have h1 := g_red L9.out ubi ru HUBA.out.1 HUBA.out.2 HRU.out
  go_wp2_with fail
  refine h1.mono ?_
  rintro e10 w10 ⟨rfl, hL⟩
  have L10 := Lib.hid hL
  clear h1 hL
  clear c0 c1
  have c0 := L10.out.la.c0
  have c1 := L10.out.la.c1
  have h1 := g_sim L10.out HA.out HCD.out
  go_wp2_with fail
  refine h1.mono ?_
  rintro e11 w11 ⟨A11, k11, rfl, hx11, hL⟩
  have L11 := Lib.hid hL
  have HX11 := Lib.hid hx11
  clear hx11
  clear h1 hL
  clear c0 c1
  have c0 := L11.out.la.c0
  have c1 := L11.out.la.c1
  have HSI2 := HSI.out
  generalize simL p d = s at *
  have HSI3 := Lib.hid HSI2
  clear HSI2
  have h1 := g_bnd L11.out HA.out.m A11 k11 s HX11.out (Nat.le_trans hle hdm) b HSI3.out.1 HSI3.out.2.1
  go_wp2_with fail
  refine h1.mono ?_
  rintro e12 w12 ⟨rfl, hL, _⟩
  have L12 := Lib.hid hL
  clear h1 hL
  clear c0 c1
  have c0 := L12.out.la.c0
  have c1 := L12.out.la.c1
  have h1 := g_sane L12.out
  go_wp2_with fail
  refine h1.mono ?_
  rintro e13 w13 ⟨rfl, hL⟩
  have L13 := Lib.hid hL
  clear h1 hL
  clear c0 c1
  have c0 := L13.out.la.c0
  have c1 := L13.out.la.c1
  have hle2 : decide ((s.length : Int) ≤ (d.length : Int)) = true := by simp; omega
  have hle3 : decide (s.length ≤ d.length) = true := by simpa using hle
  go_wp2
  go_ret
  exact ⟨rfl, L13.out.la.box.old⟩

set_option maxHeartbeats 16000000 in
set_option maxRecDepth 100000 in
theorem diskGroup_qk (p : Pr) (R : Option Addr) (rc : Nat) (D : Option Addr) (dc : Nat) (d : List Cel) (E : Option Addr) (ec : Nat) (e : List Cel) (u : List UInt8) (w : World) (ha : Args w p R D dc d E ec e) (hul : u.length ≤ maxLen) (hd : chk p [] [d] = 0) (he : chk p [] [e] = 0) (hP : prodI p d e ≠ 0) (hC : conI p d u ≠ 0) :
    Calls Try.prog 5 #[prV p.k R p.rels.length rc, .slice D d.length dc, .slice E e.length ec, .string ⟨u.toArray⟩] w fun e w' => e = .returned (.bool true) ∧ Below w.heap.size w w' := by
  have L0 := Lib.hid (show Lb w p R rc D d E e _ from ⟨La.start rc ha.rels ha.cd, ha.ce.below (Boxd.start w (prC p.k R p.rels.length rc) 24).old⟩)
  have HA := Lib.hid ha
  have HUL := Lib.hid hul
  have HCD := Lib.hid hd
  have HCE := Lib.hid he
  obtain ⟨b, hb⟩ : ∃ b, bdS p d = b := ⟨_, rfl⟩
  obtain ⟨c, hc⟩ : ∃ c, bdS p e = c := ⟨_, rfl⟩
  have HB := Lib.hid hb
  have HC := Lib.hid hc
  have HBA := bdS_all hd
  have HCA := bdS_all he
  have HIV := bdS_inv hd
  have HSI := bdS_simp hd
  rw [hb] at HBA HIV HSI
  rw [hc] at HCA
  obtain ⟨iv, hiv⟩ : ∃ iv, invW b = iv := ⟨_, rfl⟩
  rw [hiv] at HIV
  have HIVB := Lib.hid hiv
  have hpf : (prodI p d e == 0) = false := by simpa using hP
  have hcf : (conI p d u == 0) = false := by simpa using hC
  have hle := HSI.2.2
  have hdm := ha.dm
  have HBA := Lib.hid HBA
  have HIV := Lib.hid HIV
  have HSI := Lib.hid HSI
  have h1 := g_bnd L0.out ha.m D dc d L0.out.la.cells ha.dm b hd hb
  clear ha hul hd he hP hC hb hc hiv HCA
  go_enter Try.func5, Try.ntmps5
  go_wp2_with fail
  refine h1.mono ?_
  rintro e1 w1 ⟨rfl, hL, _⟩
  have L1 := Lib.hid hL
  clear h1 hL
  have c0 := L1.out.la.c0
  have c1 := L1.out.la.c1
  have h1 := g_bnd L1.out HA.out.m E ec e L1.out.cells HA.out.em c HCE.out HC.out
  go_wp2_with fail
  refine h1.mono ?_
  rintro e2 w2 ⟨rfl, hL, _⟩
  have L2 := Lib.hid hL
  clear h1 hL
  clear c0 c1
  have c0 := L2.out.la.c0
  have c1 := L2.out.la.c1
  have h1 := g_prod L2.out HA.out
  go_wp2_with fail
  refine h1.mono ?_
  rintro e3 w3 ⟨A3, k3, rfl, hx3, hL⟩
  have L3 := Lib.hid hL
  have HX3 := Lib.hid hx3
  clear hx3
  clear h1 hL
  clear c0 c1
  have c0 := L3.out.la.c0
  have c1 := L3.out.la.c1
  generalize prodL p d e = x at *
  generalize prodI p d e = xi at *
  have h1 := g_inv L3.out HA.out HCD.out
  go_wp2_with fail
  refine h1.mono ?_
  rintro e4 w4 ⟨A4, k4, rfl, hx4, hL⟩
  have L4 := Lib.hid hL
  have HX4 := Lib.hid hx4
  clear hx4
  clear h1 hL
  clear c0 c1
  have c0 := L4.out.la.c0
  have c1 := L4.out.la.c1
  have HIV2 := HIV.out
  generalize invL p d = y at *
  have HIV3 := Lib.hid HIV2
  clear HIV2
  have h1 := g_bnd L4.out HA.out.m A4 k4 y HX4.out HIV3.out.2.2 iv HIV3.out.1 HIV3.out.2.1
  go_wp2_with fail
  refine h1.mono ?_
  rintro e5 w5 ⟨rfl, hL, _⟩
  have L5 := Lib.hid hL
  clear h1 hL
  clear c0 c1
  have c0 := L5.out.la.c0
  have c1 := L5.out.la.c1
  have h1 := g_ivt L5.out b iv HBA.out.1 (Nat.le_trans HBA.out.2 (by omega)) HIVB.out
  go_wp2_with fail
  refine h1.mono ?_
  rintro e6 w6 ⟨rfl, hL⟩
  have L6 := Lib.hid hL
  clear h1 hL
  clear c0 c1
  have c0 := L6.out.la.c0
  have c1 := L6.out.la.c1
  have h1 := g_con L6.out HA.out u HUL.out
  go_wp2_with fail
  refine h1.mono ?_
  rintro e7 w7 ⟨A7, k7, rfl, hx7, hL⟩
  have L7 := Lib.hid hL
  have HX7 := Lib.hid hx7
  clear hx7
  clear h1 hL
  clear c0 c1
  have c0 := L7.out.la.c0
  have c1 := L7.out.la.c1
  generalize conL p d u = z at *
  generalize conI p d u = zi at *
  have h1 := g_sim L7.out HA.out HCD.out
  go_wp2_with fail
  refine h1.mono ?_
  rintro e8 w8 ⟨A8, k8, rfl, hx8, hL⟩
  have L8 := Lib.hid hL
  have HX8 := Lib.hid hx8
  clear hx8
  clear h1 hL
  clear c0 c1
  have c0 := L8.out.la.c0
  have c1 := L8.out.la.c1
  have HSI2 := HSI.out
  generalize simL p d = s at *
  have HSI3 := Lib.hid HSI2
  clear HSI2
  have h1 := g_bnd L8.out HA.out.m A8 k8 s HX8.out (Nat.le_trans hle hdm) b HSI3.out.1 HSI3.out.2.1
  go_wp2_with fail
  refine h1.mono ?_
  rintro e9 w9 ⟨rfl, hL, _⟩
  have L9 := Lib.hid hL
  clear h1 hL
  clear c0 c1
  have c0 := L9.out.la.c0
  have c1 := L9.out.la.c1
  have h1 := g_sane L9.out
  go_wp2_with fail
  refine h1.mono ?_
  rintro e10 w10 ⟨rfl, hL⟩
  have L10 := Lib.hid hL
  clear h1 hL
  clear c0 c1
  have c0 := L10.out.la.c0
  have c1 := L10.out.la.c1
  have hle2 : decide ((s.length : Int) ≤ (d.length : Int)) = true := by simp; omega
  have hle3 : decide (s.length ≤ d.length) = true := by simpa using hle
  go_wp2
  go_ret
  exact ⟨rfl, L10.out.la.box.old⟩

theorem diskGroup_any (p : Pr) (R : Option Addr) (rc : Nat) (D : Option Addr) (dc : Nat) (d : List Cel) (E : Option Addr) (ec : Nat) (e : List Cel) (u : List UInt8) (w : World) (ha : Args w p R D dc d E ec e) (hul : u.length ≤ maxLen) :
    Calls Try.prog 5 #[prV p.k R p.rels.length rc, .slice D d.length dc, .slice E e.length ec, .string ⟨u.toArray⟩] w fun e w' => e = .returned (.bool true) ∧ Below w.heap.size w w' := by
  by_cases hb : chk p [] [d] = 0 ∧ chk p [] [e] = 0
  · obtain ⟨hd, he⟩ := hb
    by_cases hP : prodI p d e = 0
    · by_cases hC : conI p d u = 0
      · exact diskGroup_pc p R rc D dc d E ec e u w ha hul hd he hP hC
      · exact diskGroup_pk p R rc D dc d E ec e u w ha hul hd he hP hC
    · by_cases hC : conI p d u = 0
      · exact diskGroup_qc p R rc D dc d E ec e u w ha hul hd he hP hC
      · exact diskGroup_qk p R rc D dc d E ec e u w ha hul hd he hP hC
  · exact diskGroup_no p R rc D dc d E ec e u w ha hb
end Go.Proofs.Ytbcckfggnlmhoaa
