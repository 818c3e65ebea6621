/-
  Our own text, in the proofs of the laws of package disk (cayleylaw04). Proved here: inverseCell; slices.Reverse and inverseOf of cells. Conditions: none but bounds.
-/
import Derived.Test.YtbcckfggnlmhoaaEb
import Derived.RegionTactic
import Derived.BigRegion
namespace Go.Proofs.Ytbcckfggnlmhoaa
open Go Go.RowKit

set_option maxHeartbeats 1000000 in
theorem inverseCell_any (c : List UInt8) (r : Int) (i : Bool) (w : World) : Calls Try.prog 48 #[.agg #[.string ⟨c.toArray⟩, .int .i64 r, .bool i]] w fun e w' => e = .returned (.agg #[.string ⟨c.toArray⟩, .int .i64 r, .bool (!i)]) ∧ Below w.heap.size w w' := by
  go_enter Try.func48, Try.ntmps48
  go_wp2
  exact bodyPost_ret (v := .agg #[.string ⟨c.toArray⟩, .int .i64 r, .bool (!i)]) (by simp [results, Try.results48, go_sem]) rfl ⟨rfl, ((Below.refl _ _).alloc (Nat.le_refl _) _).alloc (by simp) _⟩

/-- A whole cell stored. -/
def put3 (w : World) (g o : Nat) (c : List UInt8) (r : Int) (i : Bool) : World := ((w.setCell ⟨g, o, none⟩ (.string ⟨c.toArray⟩)).setCell ⟨g, o + 1, none⟩ (.int .i64 r)).setCell ⟨g, o + 2, none⟩ (.bool i)
theorem own_put3 {w : World} {B n cap g : Nat} {d : List Cel} (h : w.ownsRow B 61 3 (.slice (some ⟨g, 0, none⟩) n cap) n (cs3 d)) (k : Nat) (hk : k < d.length) (x : Cel) :
    (put3 w g (k * 3) x.conj x.rel x.inv).ownsRow B 61 3 (.slice (some ⟨g, 0, none⟩) n cap) n (cs3 (d.set k x)) := by
  rw [cs3_set d k x hk]
  exact (((h.stored _ _).1.stored _ _).1.stored _ _).1
theorem own_drew {w : World} {B e sz n : Nat} {v : Value} {xs : List Value} (h : w.ownsRow B e sz v n xs) : w.drew.ownsRow B e sz v n xs := h
theorem below_put3 (w : World) (g o : Nat) (c : List UInt8) (r : Int) (i : Bool) {B : Nat} (hB : B ≤ g) : Below B w (put3 w g o c r i) :=
  (((Below.refl B w).setCell (p := ⟨g, o, none⟩) hB _).setCell (p := ⟨g, o + 1, none⟩) hB _).setCell (p := ⟨g, o + 2, none⟩) hB _

set_option maxHeartbeats 4000000 in
set_option maxRecDepth 1000000 in
theorem ReverseC_any (B : Nat) (A : Option Addr) (cap : Nat) (l : List Cel) (w : World) (hown : w.ownsRow B 61 3 (.slice A l.length cap) l.length (cs3 l)) (hs : Sized l) (hn : l.length ≤ 1000000000) :
    Calls Try.prog 80 #[.slice A l.length cap] w fun e w' => e = .returned (.tuple #[]) ∧ w'.ownsRow B 61 3 (.slice A l.length cap) l.length (cs3 l.reverse) ∧ Below B w w' := by
  have HO := Lib.hid hown
  have HSZ := Lib.hid hs
  clear hown hs
  go_enter Try.func80, Try.ntmps80
  go_wp2
  go_loopw [2, 3] (fun i j wr => ∃ (k : Nat) (q : Int) (cur : List Cel), i = .int .i64 (k : Int) ∧ j = .int .i64 q ∧ q + 1 + (k : Int) = (l.length : Int) ∧ RevTo l cur k ∧ Sized cur ∧ wr.ownsRow B 61 3 (.slice A l.length cap) l.length (cs3 cur) ∧ Below B w wr)
    (fun i _ _ => l.length - (intOf i).toNat)
  case atStart => exact ⟨0, _, l, rfl, rfl, by simp, RevTo.start l, HSZ.out, HO.out, Below.refl _ _⟩
  case round =>
    obtain ⟨k, q, cur, rfl, rfl, hq, hrev, hsz, hown, hb⟩ := hrel
    have HR := Lib.hid hrev
    have HOW := Lib.hid hown
    have HB := Lib.hid hb
    have HSC := Lib.hid hsz
    clear hrev hown hb hsz
    by_cases hlt : (k : Int) < q
    · obtain ⟨j, rfl⟩ := Int.eq_ofNat_of_zero_le (show 0 ≤ q by omega)
      have hj : j = l.length - 1 - k := by omega
      have hlen : l.length = j + 1 + k := by omega
      have hcl := HR.out.len
      obtain ⟨g, o, hA, hx⟩ := cells_own HOW.out HSC.out k (by omega)
      obtain ⟨g', o', hA', hy⟩ := cells_own HOW.out HSC.out j (by omega)
      obtain ⟨rfl, rfl⟩ : g = g' ∧ o = o' := by rw [hA] at hA'; cases hA'; exact ⟨rfl, rfl⟩
      obtain rfl : o = 0 := by
        rcases own_shape HOW.out with ⟨h, _⟩ | ⟨g', h, _⟩
        · rw [hA] at h; cases h
        · rw [hA] at h; cases h; rfl
      subst hA
      rw [Nat.zero_add] at hx hy
      obtain ⟨x0, x1, x2, x3⟩ := hx
      obtain ⟨y0, y1, y2, y3⟩ := hy
      have HXE : Hid (cur[k]? = some (cur[k]'(by omega))) := Lib.hid (List.getElem?_eq_getElem (by omega))
      have HYE : Hid (cur[j]? = some (cur[j]'(by omega))) := Lib.hid (List.getElem?_eq_getElem (by omega))
      generalize cur[k]'(by omega) = x at *
      generalize cur[j]'(by omega) = y at *
      obtain ⟨xc, xr, xi⟩ := x
      obtain ⟨yc, yr, yi⟩ := y
      simp only at x0 x1 x2 x3 y0 y1 y2 y3
      have f0 := HOW.out.frozenAt (k * 3)
      have f1 := HOW.out.frozenAt (k * 3 + 1)
      have f2 := HOW.out.frozenAt (k * 3 + 2)
      have e0 := HOW.out.frozenAt (j * 3)
      have e1 := HOW.out.frozenAt (j * 3 + 1)
      have e2 := HOW.out.frozenAt (j * 3 + 2)
      have HJ := Lib.hid hj
      have HL := Lib.hid hlen
      have HCL := Lib.hid hcl
      have hj1 : (j : Int) < (l.length : Int) := by omega
      have hk1 : (k : Int) < (l.length : Int) := by omega
      have hne : k * 3 + 3 ≤ j * 3 := by omega
      clear hj hlen hA' hcl hq
      go_wp2_with fail
      go_region
      go_wp2
      go_roundw
      case rel =>
        have hgB := own_ge HOW.out _ rfl
        have h1 := own_put3 HOW.out k (by have := HL.out; have := HCL.out; omega) ⟨yc, yr, yi⟩
        have h2 := own_put3 h1 j (by rw [List.length_set]; have := HL.out; have := HCL.out; omega) ⟨xc, xr, xi⟩
        have h3 := own_drew h2
        have hb3 : Below B w _ := HB.out.trans (((below_put3 wr g (k * 3) yc yr yi hgB).trans (below_put3 _ g (j * 3) xc xr xi hgB)).drew)
        simp only [put3] at h3 hb3
        refine ⟨k + 1, _, (cur.set k ⟨yc, yr, yi⟩).set j ⟨xc, xr, xi⟩, by go_num, rfl, by have := HL.out; omega, ?_, ?_, h3, hb3⟩
        · have := HR.out.step (by have := HL.out; omega) ⟨xc, xr, xi⟩ ⟨yc, yr, yi⟩ HXE.out (by rw [← HJ.out]; exact HYE.out)
          rw [← HJ.out] at this; exact this
        · intro c hc
          rcases List.mem_or_eq_of_mem_set hc with hc | rfl
          · rcases List.mem_or_eq_of_mem_set hc with hc | rfl
            · exact HSC.out c hc
            · exact y3
          · exact x3
      case measure => have := HL.out; simp [intOf]; omega
    · have HE : Hid (cur = l.reverse) := Lib.hid (HR.out.stop (by omega))
      go_wp2
      go_end0
      exact ⟨rfl, by rw [← HE.out]; exact HOW.out, HB.out⟩

set_option maxHeartbeats 4000000 in
set_option maxRecDepth 1000000 in
theorem inverseOfC_any (A : Option Addr) (cap : Nat) (l : List Cel) (w : World) (hl : CellsAt w A l) (hA : A = none → l = []) (hs : Sized l) (hn : l.length ≤ 1000000000) :
    Calls Try.prog 47 #[.slice A l.length cap, .func (.func 48) #[] #[]] w (CloneC w (ginv invC l)) := by
  have hC := CloneC_any A cap l w hl hA hn
  have HN := Lib.hid (show (ginv invC l).length = l.length from ginv_len _ _)
  have HSL := Lib.hid hs
  clear hl hA hs
  go_enter Try.func47, Try.ntmps47
  go_wp2_with fail
  refine hC.mono ?_
  rintro e w1 ⟨A1, c1, rfl, hown1, hb1⟩
  have HB1 := Lib.hid hb1
  have hR := ReverseC_any w.heap.size A1 c1 l w1 hown1 HSL.out hn
  clear hown1 hb1 hC
  go_wp2_with fail
  refine hR.mono ?_
  rintro e w2 ⟨rfl, hown2, hb2⟩
  have HB2 := Lib.hid (HB1.out.trans hb2)
  have hlr : l.reverse.length = l.length := List.length_reverse
  have HO2 := Lib.hid hown2
  have HRL := Lib.hid hlr
  have HSR := Lib.hid (show Sized l.reverse from fun c hc => HSL.out c (by simpa using hc))
  generalize hr : l.reverse = r at *
  have HR' : Hid (l.reverse = r) := Lib.hid hr
  clear hown2 hb2 hlr hr hR
  go_wp2
  go_loopw [6, 7, 14] (fun _ _ i wr => ∃ (k : Nat), k ≤ l.length ∧ i = .int .i64 (k : Int) ∧ wr.ownsRow w.heap.size 61 3 (.slice A1 l.length c1) l.length (cs3 ((r.take k).map invC ++ r.drop k)) ∧ Below w.heap.size w wr)
    (fun _ _ i _ => l.length - (intOf i).toNat)
  case atStart => exact ⟨0, Nat.zero_le _, rfl, by simpa using HO2.out, HB2.out⟩
  case round =>
    obtain ⟨k, hk, rfl, hown, hb⟩ := hrel
    have HOW := Lib.hid hown
    have HB := Lib.hid hb
    clear hown hb
    by_cases hlt : k < l.length
    · have hkr : k < r.length := by rw [HRL.out]; exact hlt
      have hsz : Sized ((r.take k).map invC ++ r.drop k) := by
        intro c hc
        rcases List.mem_append.1 hc with hc | hc
        · obtain ⟨x, hx, rfl⟩ := List.mem_map.1 hc
          exact HSR.out x (List.mem_of_mem_take hx)
        · exact HSR.out c (List.mem_of_mem_drop hc)
      obtain ⟨g, o, hA, hx⟩ := cells_own HOW.out hsz k (by rw [map_take_len, HRL.out]; exact hlt)
      obtain rfl : o = 0 := by
        rcases own_shape HOW.out with ⟨h, _⟩ | ⟨g', h, _⟩
        · rw [hA] at h; cases h
        · rw [hA] at h; cases h; rfl
      subst hA
      rw [Nat.zero_add, map_take_get invC r k hkr] at hx
      have HST := Lib.hid (fun (W : World) (hW : W.ownsRow w.heap.size 61 3 (.slice (some ⟨g, 0, none⟩) l.length c1) l.length (cs3 ((r.take k).map invC ++ r.drop k))) => own_put3 hW k (by rw [map_take_len, HRL.out]; exact hlt) (invC r[k]))
      have HMS := Lib.hid (map_take_set invC r k hkr)
      generalize r[k] = x at *
      obtain ⟨xc, xr, xi⟩ := x
      obtain ⟨x0, x1, x2, x3⟩ := hx
      simp only at x0 x1 x2 x3
      have HB1' : Hid (Below wr.heap.size wr (wr.alloc (.cells (celC xc xr xi) 61))) := Lib.hid ((Below.refl _ _).alloc (Nat.le_refl _) _)
      have hI := inverseCell_any xc xr xi (wr.alloc (.cells (celC xc xr xi) 61))
      clear hkr hsz x3
      go_wp2_with fail
      refine hI.mono ?_
      rintro e w3 ⟨rfl, hb3⟩
      have HB3 := Lib.hid (HB1'.out.trans (hb3.mono HB1'.out.size))
      have HO3 := Lib.hid (own_below HOW.out HB3.out)
      have f0 := HO3.out.frozenAt (k * 3)
      have f1 := HO3.out.frozenAt (k * 3 + 1)
      have f2 := HO3.out.frozenAt (k * 3 + 2)
      have z0 : w3.cell? ⟨g, k * 3, none⟩ = some (.string ⟨xc.toArray⟩) := (HB3.out.cell (p := ⟨g, k * 3, none⟩) (lt_of_cell x0)).trans x0
      have z1 : w3.cell? ⟨g, k * 3 + 1, none⟩ = some (.int .i64 xr) := (HB3.out.cell (p := ⟨g, k * 3 + 1, none⟩) (lt_of_cell x1)).trans x1
      have z2 : w3.cell? ⟨g, k * 3 + 2, none⟩ = some (.bool xi) := (HB3.out.cell (p := ⟨g, k * 3 + 2, none⟩) (lt_of_cell x2)).trans x2
      clear x0 x1 x2 hb3 hI
      go_wp2
      go_roundw
      case rel =>
        have hgB := own_ge HO3.out _ rfl
        have h3 := HST.out w3 HO3.out
        have hb4 := HB.out.trans ((HB3.out.mono HB.out.size).trans (below_put3 w3 g (k * 3) xc xr (!xi) hgB))
        rw [HMS.out] at h3
        simp only [put3, invC] at h3 hb4
        exact ⟨k + 1, by omega, by go_num, h3, hb4⟩
      case measure => simp [intOf]; omega
    · obtain rfl : k = l.length := by omega
      have HE : Hid ((r.take l.length).map invC ++ r.drop l.length = ginv invC l) := Lib.hid (by
        rw [← HRL.out, List.take_length, List.drop_length, List.append_nil, ← HR'.out]; simp [ginv])
      go_wp2
      go_ret
      refine ⟨A1, c1, ?_, ?_, HB.out⟩
      · rw [HN.out]; rfl
      · rw [HN.out, ← HE.out]; exact HOW.out
end Go.Proofs.Ytbcckfggnlmhoaa
