/-
  Our own text, in the proofs of the laws of package disk (cayleylaw04). Proved here: simplified. Conditions: none but bounds.
-/
import Derived.Test.YtbcckfggnlmhoaaEd
namespace Go.Proofs.Ytbcckfggnlmhoaa
open Go Go.RowKit

theorem redC_len (c : Cel) : (redC c).conj.length ≤ c.conj.length := gred_len _ _
theorem sized_map {f : Cel → Cel} (hf : ∀ c, (f c).conj.length ≤ c.conj.length) {l : List Cel} (h : Sized l) (k : Nat) : Sized ((l.take k).map f ++ l.drop k) := by
  intro c hc
  rcases List.mem_append.1 hc with hc | hc
  · obtain ⟨x, hx, rfl⟩ := List.mem_map.1 hc
    exact Nat.le_trans (hf x) (h x (List.mem_of_mem_take hx))
  · exact h c (List.mem_of_mem_drop hc)
theorem own_conj {w : World} {B n cap g : Nat} {f : Cel → Cel} {l : List Cel} {k : Nat} (hk : k < l.length) (h : w.ownsRow B 61 3 (.slice (some ⟨g, 0, none⟩) n cap) n (cs3 ((l.take k).map f ++ l.drop k))) (hr : (f l[k]).rel = (l[k]).rel) (hi : (f l[k]).inv = (l[k]).inv) :
    (w.setCell ⟨g, k * 3, none⟩ (.string ⟨(f l[k]).conj.toArray⟩)).ownsRow B 61 3 (.slice (some ⟨g, 0, none⟩) n cap) n (cs3 ((l.take (k + 1)).map f ++ l.drop (k + 1))) := by
  have e := map_take_set f l k hk
  have hlen : k < ((l.take k).map f ++ l.drop k).length := by rw [map_take_len]; exact hk
  have hg := map_take_get f l k hk hlen
  have hc : f l[k] = ⟨(f l[k]).conj, (((l.take k).map f ++ l.drop k)[k]).rel, (((l.take k).map f ++ l.drop k)[k]).inv⟩ := by rw [hg, ← hr, ← hi]
  rw [← e, hc, cs3_set0 _ k _ hlen]
  exact (h.stored _ _).1

set_option maxHeartbeats 4000000 in
set_option maxRecDepth 100000 in
theorem simplified_any (A : Option Addr) (cap : Nat) (l : List Cel) (w : World) (hl : CellsAt w A l) (hA : A = none → l = []) (hs : ∀ c ∈ l, c.conj.length ≤ 1000000000) (hn : l.length ≤ 1000000000) :
    Calls Try.prog 53 #[.slice A l.length cap] w (CloneC w (simp4 l)) := by
  have hC := CloneC_any A cap l w hl hA hn
  have HSL := Lib.hid hs
  have HSZ := Lib.hid (show Sized l from fun c hc => Nat.le_trans (hs c hc) (by omega))
  clear hl hA hs
  go_enter Try.func53, Try.ntmps53
  go_wp2_with fail
  refine hC.mono ?_
  rintro e w1 ⟨A1, c1, rfl, hown1, hb1⟩
  have HB1 := Lib.hid hb1
  have HO1 := Lib.hid hown1
  clear hown1 hb1 hC
  go_wp2
  go_loopw [4, 5, 10] (fun _ _ i wr => ∃ (k : Nat), k ≤ l.length ∧ i = .int .i64 (k : Int) ∧ wr.ownsRow w.heap.size 61 3 (.slice A1 l.length c1) l.length (cs3 ((l.take k).map redC ++ l.drop k)) ∧ Below w.heap.size w wr)
    (fun _ _ i _ => l.length - (intOf i).toNat)
  case atStart => exact ⟨0, Nat.zero_le _, rfl, by simpa using HO1.out, HB1.out⟩
  case round =>
    obtain ⟨k, hk, rfl, hown, hb⟩ := hrel
    have HOW := Lib.hid hown
    have HB := Lib.hid hb
    clear hown hb
    by_cases hlt : k < l.length
    · obtain ⟨g, o, hA, hx⟩ := cells_own HOW.out (sized_map redC_len HSZ.out k) k (by rw [map_take_len]; exact hlt)
      obtain rfl : o = 0 := by
        rcases own_shape HOW.out with ⟨h, _⟩ | ⟨g', h, _⟩
        · rw [hA] at h; cases h
        · rw [hA] at h; cases h; rfl
      subst hA
      rw [Nat.zero_add, map_take_get redC l k hlt] at hx
      have HST := Lib.hid (fun (W : World) (hW : W.ownsRow w.heap.size 61 3 (.slice (some ⟨g, 0, none⟩) l.length c1) l.length (cs3 ((l.take k).map redC ++ l.drop k))) => own_conj (f := redC) hlt hW rfl rfl)
      have hc9 := HSL.out l[k] (List.getElem_mem _)
      generalize l[k] = x at *
      obtain ⟨xc, xr, xi⟩ := x
      obtain ⟨x0, x1, x2, x3⟩ := hx
      simp only at x0 x1 x2 x3 hc9
      have HB1' : Hid (Below wr.heap.size wr (wr.alloc (.cells (celC xc xr xi) 61))) := Lib.hid ((Below.refl _ _).alloc (Nat.le_refl _) _)
      have hI := reduced_any xc (wr.alloc (.cells (celC xc xr xi) 61)) hc9
      clear x3
      go_wp2_with fail
      refine hI.mono ?_
      rintro e w3 ⟨rfl, hb3⟩
      have HB3 := Lib.hid (HB1'.out.trans (hb3.mono HB1'.out.size))
      have HO3 := Lib.hid (own_below HOW.out HB3.out)
      have f0 := HO3.out.frozenAt (k * 3)
      have z0 : w3.cell? ⟨g, k * 3, none⟩ = some (.string ⟨xc.toArray⟩) := (HB3.out.cell (p := ⟨g, k * 3, none⟩) (lt_of_cell x0)).trans x0
      clear x0 x1 x2 hb3 hI
      go_wp2
      go_roundw
      case rel =>
        have hgB := own_ge HO3.out _ rfl
        have h3 := HST.out w3 HO3.out
        exact ⟨k + 1, by omega, by go_num, h3, HB.out.trans ((HB3.out.mono HB.out.size).trans ((Below.refl _ w3).setCell (p := ⟨g, k * 3, none⟩) hgB _))⟩
      case measure => simp [intOf]; omega
    · obtain rfl : k = l.length := by omega
      have HE : Hid ((l.take l.length).map redC ++ l.drop l.length = l.map redC) := Lib.hid (by rw [List.take_length, List.drop_length, List.append_nil])
      have HO2 := HOW.out
      rw [HE.out] at HO2
      have hsm : Sized (l.map redC) := by have := sized_map redC_len HSZ.out l.length; rwa [HE.out] at this
      have hml : (l.map redC).length = l.length := List.length_map _
      have hR := appRedC_any (l.map redC) A1 c1 wr (cells_own HO2 hsm) hsm (by rw [hml]; exact hn)
      rw [hml] at hR
      clear HO2 hsm hml
      go_wp2_with fail
      refine hR.mono ?_
      rintro e w5 ⟨A5, c5, rfl, hown5, hb5⟩
      have HO5 := Lib.hid hown5
      have HB5 := Lib.hid hb5
      clear hown5 hb5 hR
      go_wp2
      go_ret
      exact ⟨A5, c5, rfl, own_base HO5.out HB.out.size, HB.out.trans (HB5.out.mono HB.out.size)⟩
end Go.Proofs.Ytbcckfggnlmhoaa
