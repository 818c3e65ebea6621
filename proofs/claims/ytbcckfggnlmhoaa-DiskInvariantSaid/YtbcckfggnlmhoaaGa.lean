/-
  Our own text, in the proof of the law DiskAlgebra of package disk (cayleylaw04). Proved here: Join, Turn, Same, Product, Inverse of the reference. Conditions: the arguments lie in memory as the slices say.
-/
import Derived.Test.YtbcckfggnlmhoaaEg
import Derived.Test.YtbcckfggnlmhoaaBb
namespace Go.Proofs.Ytbcckfggnlmhoaa
open Go Go.RowKit

/-- append of one cell; the new block's number given apart. -/
theorem append_oneD {ops : Array Oper} {rest : List Oper} {o : Oper} {a : Act} {Q : Exit → Act → World → Prop} (w : World) (g : Nat) (hg : w.heap.size = g) (hgd : o.guard = none) (s x : Operand)
    (ho : o.op = .call { callee := .builtin .append, args := #[s, x], argTypes := #[25, 25] })
    (B : Nat) (A : Option Addr) (n cap : Nat) (d : List Cel) (c : List UInt8) (r : Int) (i : Bool) (hc : c.length ≤ 140737488351232) (hs : a.eval s = .slice A n cap) (hown : w.ownsRow B 61 3 (.slice A n cap) n (cs3 d))
    (hx : a.eval x = .slice (some ⟨g, 0, none⟩) 1 1) (hn : n ≤ 100000000000) (hB : B ≤ w.heap.size)
    (h : ∀ A' cap' w', w'.ownsRow B 61 3 (.slice A' (n + 1) cap') (n + 1) (cs3 (d ++ [⟨c, r, i⟩])) → w.grownBy w' (blk A) → Moved w A A' → wpList Try.prog ops Q rest (a.put o.dst (.slice A' (n + 1) cap')) w') :
    wpList Try.prog ops Q (o :: rest) a (w.alloc (.cells (celC c r i) 61)) := by
  subst hg
  exact append_oneC w hgd s x ho B A n cap d c r i hc hs hown hx hn hB h

set_option maxHeartbeats 1000000 in
set_option maxRecDepth 100000 in
theorem Same_any (A B : Option Addr) (l : List Cel) (ca cb : Nat) (w : World) (ha : CellsAt w A l) (hb : CellsAt w B l) (hl : l.length ≤ 5000000000000) :
    Calls Try.prog 24 #[.slice A l.length ca, .slice B l.length cb] w fun e w' => e = .returned (.bool true) ∧ Below w.heap.size w w' := by
  have HA := Lib.hid ha
  have HB := Lib.hid hb
  clear ha hb
  go_enter Try.func24, Try.ntmps24
  go_wp2
  go_loopw [5, 13] (fun _ i wr => ∃ k : Nat, k ≤ l.length ∧ i = .int .i64 (k : Int) ∧ Below w.heap.size w wr) (fun _ i _ => l.length - (intOf i).toNat)
  case atStart => exact ⟨0, Nat.zero_le _, rfl, Below.refl _ _⟩
  case round =>
    obtain ⟨k, hk, rfl, hbw⟩ := hrel
    have HBW := Lib.hid hbw
    by_cases hlt : k < l.length
    · have hd : decide ((k : Int) < (l.length : Int)) = true := by simp; omega
      have hd' : decide (k < l.length) = true := by simpa using hlt
      obtain ⟨a, o, hA, hx⟩ := (HA.out.below hbw) k hlt
      obtain ⟨b, o2, hB, hy⟩ := (HB.out.below hbw) k hlt
      subst hA hB
      generalize l[k] = x at *
      obtain ⟨xc, xr, xi⟩ := x
      obtain ⟨x0, x1, x2, _⟩ := hx
      obtain ⟨y0, y1, y2, _⟩ := hy
      simp only at x0 x1 x2 y0 y1 y2
      have hk1 : (k : Int) < (l.length : Int) := by omega
      clear hbw
      go_wp2
      go_quiet (fail)
      go_wp2
      go_roundw
      case rel => exact ⟨k + 1, by omega, by go_num, HBW.out.drewN nq⟩
      case measure => simp [intOf]; omega
    · have hd : decide ((k : Int) < (l.length : Int)) = false := by simp; omega
      have hd' : decide (k < l.length) = false := by simpa using hlt
      clear hbw
      go_wp2
      go_ret
      exact ⟨rfl, HBW.out⟩

set_option maxHeartbeats 2000000 in
set_option maxRecDepth 100000 in
theorem Join_any (A B : Option Addr) (a b : List Cel) (ca cb : Nat) (w : World) (ha : CellsAt w A a) (hb : CellsAt w B b) (hA : A = none → a = [] ∧ ca = 0) (hB : B = none → b = [] ∧ cb = 0) (hn : a.length + b.length ≤ 1000000000) :
    Calls Try.prog 41 #[.slice A a.length ca, .slice B b.length cb] w (CloneC w (a ++ b)) := by
  have HA := Lib.hid ha
  have HB := Lib.hid hb
  have HAN := Lib.hid hA
  have HBN := Lib.hid hB
  have HO := Lib.hid (own_empty w w.heap.size 61 3 (Nat.le_refl _))
  have HBW : Hid (Below w.heap.size w (w.alloc (.cells #[] 61))) := Lib.hid ((Below.refl _ _).alloc (Nat.le_refl _) _)
  clear ha hb hA hB
  go_enter Try.func41, Try.ntmps41
  go_wp2_with (first
    | (at_builtin; refine append_opt (w.alloc (.cells #[] 61)) rfl (.tmp 7) (.tmp 8) rfl w.heap.size (some ⟨w.heap.size, 0, none⟩) 0 0 [] a rfl HO.out A a.length ca rfl rfl (HA.out.below HBW.out) HAN.out (by omega) (by simp) ?_; intro A1 c1 w1 hown1 hb1; simp only [Nat.zero_add, List.nil_append] at hown1; have HO1 := Lib.hid hown1; have HB1 := Lib.hid (HBW.out.trans hb1); clear hown1 hb1)
    | (at_builtin; refine append_opt w1 rfl (.tmp 10) (.tmp 11) rfl w.heap.size A1 a.length c1 a b rfl HO1.out B b.length cb rfl rfl (HB.out.below HB1.out) HBN.out (by omega) HB1.out.size ?_; intro A2 c2 w2 hown2 hb2; have HO2 := Lib.hid hown2; have HB2 := Lib.hid (HB1.out.trans hb2); clear hown2 hb2))
  go_ret
  exact ⟨A2, c2, by rw [List.length_append]; rfl, by rw [List.length_append]; exact HO2.out, HB2.out⟩

set_option maxHeartbeats 2000000 in
set_option maxRecDepth 100000 in
theorem Turn_any (A : Option Addr) (cap : Nat) (l : List Cel) (w : World) (ha : CellsAt w A l) (hn : l.length ≤ 1000000000) :
    Calls Try.prog 43 #[.slice A l.length cap] w (CloneC w (ginv invC l)) := by
  have HA := Lib.hid ha
  have HSZ := Lib.hid (cell_sized ha)
  have HO0 := Lib.hid (own_empty w w.heap.size 61 3 (Nat.le_refl _))
  have HB0 : Hid (Below w.heap.size w (w.alloc (.cells #[] 61))) := Lib.hid ((Below.refl _ _).alloc (Nat.le_refl _) _)
  clear ha
  go_enter Try.func43, Try.ntmps43
  go_wp2
  go_loopw [3, 4, 5] (fun out i _ wr => ∃ (m k : Nat) (q : Int) (O' : Option Addr) (oc' : Nat), m + k = l.length ∧ i = .int .i64 q ∧ q + 1 = (m : Int) ∧ out = .slice O' k oc' ∧ wr.ownsRow w.heap.size 61 3 (.slice O' k oc') k (cs3 (ginv invC (l.drop m))) ∧ Below w.heap.size w wr)
    (fun _ i _ _ => ((intOf i) + 1).toNat)
  case atStart => exact ⟨l.length, 0, _, _, 0, by omega, rfl, by omega, rfl, by rw [List.drop_length]; exact HO0.out, HB0.out⟩
  case round =>
    obtain ⟨m, k, q, O', oc', hk, rfl, hq, rfl, hown, hb⟩ := hrel
    have HOW := Lib.hid hown
    have HB := Lib.hid hb
    clear hown hb
    cases m with
    | succ m =>
      obtain rfl : q = (m : Int) := by omega
      clear hq
      have hlt : m < l.length := by omega
      have HSN : Hid (ginv invC (l.drop m) = ginv invC (l.drop (m + 1)) ++ [invC l[m]]) := Lib.hid (by
        rw [List.drop_eq_getElem_cons hlt]; exact ginv_cons _ _ _)
      obtain ⟨b, o, hA, hx⟩ := (HA.out.below HB.out) m hlt
      subst hA
      have hxs := HSZ.out l[m] (List.getElem_mem _)
      generalize l[m] = x at *
      obtain ⟨xc, xr, xi⟩ := x
      obtain ⟨x0, x1, x2, _⟩ := hx
      simp only at x0 x1 x2 hxs
      have HXS := Lib.hid hxs
      have HK : Hid (m + 1 + k = l.length) := Lib.hid hk
      have hk2 : k ≤ 1000000000 := by omega
      have HBX : Hid (Below w.heap.size w (wr.alloc (.cells (celC xc xr (!xi)) 61))) := Lib.hid (HB.out.alloc HB.out.size _)
      have HO1 := Lib.hid (HOW.out.alloc (.cells (celC xc xr (!xi)) 61))
      have HSN2 : Hid (ginv invC (l.drop m) = ginv invC (l.drop (m + 1)) ++ [⟨xc, xr, !xi⟩]) := HSN
      clear hk hxs
      go_wp2_with (at_builtin; refine append_oneD (wr.alloc (.cells (celC xc xr (!xi)) 61)) (wr.heap.size + 1) (World.size_alloc _ _) rfl (.tmp 22) (.tmp 24) rfl w.heap.size O' k oc' _ xc xr (!xi) HXS.out rfl HO1.out rfl (by omega) HBX.out.size ?_; intro A' cap' w1 hown1 hg1 hm1)
      have H1 := Lib.hid hown1
      have B1 := Lib.hid (below_of_grown HBX.out hg1 HBX.out.size (own_ge HO1.out))
      clear hown1 hg1 hm1
      go_wp2
      go_roundw
      case rel => exact ⟨m, k + 1, _, A', cap', by have := HK.out; omega, rfl, by omega, rfl, by rw [HSN2.out]; exact H1.out, B1.out⟩
      case measure => simp [intOf]
    | zero =>
      obtain rfl : q = -1 := by omega
      obtain rfl : k = l.length := by omega
      have HN := Lib.hid (show (ginv invC l).length = l.length from ginv_len _ _)
      clear hq hk
      go_wp2
      go_ret
      have h := HOW.out
      rw [List.drop_zero] at h
      exact ⟨O', oc', by rw [HN.out]; rfl, by rw [HN.out]; exact h, HB.out⟩

set_option maxHeartbeats 4000000 in
set_option maxRecDepth 100000 in
theorem rProduct_any (p : Pr) (R : Option Addr) (rc : Nat) (D : Option Addr) (dc : Nat) (d : List Cel) (E : Option Addr) (ec : Nat) (e : List Cel) (w : World) (hr : RelsAt w R p.rels) (hm : p.rels.length ≤ maxLen) (hd : CellsAt w D d) (hdm : d.length ≤ 5000000000000) (hD : D = none → d = [] ∧ dc = 0)
    (he : CellsAt w E e) (hem : e.length ≤ 5000000000000) (hE : E = none → e = [] ∧ ec = 0) :
    Calls Try.prog 16 #[prV p.k R p.rels.length rc, .slice D d.length dc, .slice E e.length ec] w (CellsP w (prodL p d e) (prodI p d e)) := by
  have HBX := Lib.hid (Boxd.start w (prC p.k R p.rels.length rc) 24)
  have HB1 := Lib.hid (HBX.out.on (Boxd.start (w.alloc (.cells (prC p.k R p.rels.length rc) 24)) #[.slice D d.length dc, .slice E e.length ec] 25).old)
  have hX := checked_any p R rc none 0 [] (some ⟨(w.alloc (.cells (prC p.k R p.rels.length rc) 24)).heap.size, 0, none⟩) 2 [⟨D, dc, d⟩, ⟨E, ec, e⟩] ((w.alloc (.cells (prC p.k R p.rels.length rc) 24)).alloc (.cells #[.slice D d.length dc, .slice E e.length ec] 25)) (hr.below HB1.out.old) hm (rels_none _ _) (disks_two (hd.below HBX.out.old) (he.below HBX.out.old) hdm hem 25) (by simp) (by simp)
  simp only [World.size_alloc, List.map_cons, List.map_nil, List.length_cons, List.length_nil] at hX
  have HM := Lib.hid hm
  have HREL := Lib.hid hr
  have HCD := Lib.hid hd
  have HCE := Lib.hid he
  have HDN := Lib.hid hD
  have HEN := Lib.hid hE
  clear hr hd he hm hD hE
  by_cases hk : chk p [] [d, e] = 0
  · have HK := Lib.hid hk
    have HPI : Hid (prodI p d e = if diskB p (d ++ e) = true then 0 else 2) := Lib.hid (if_pos hk)
    have hdb := (chk_ok hk).2.2
    have HK1 := Lib.hid (presB_k (chk_ok hk).1).1
    have HK8 := Lib.hid (presB_k (chk_ok hk).1).2.1
    simp only [List.all_cons, List.all_nil, Bool.and_true, Bool.and_eq_true] at hdb
    have hd1 := (diskB_facts hdb.1).1
    have he1 := (diskB_facts hdb.2).1
    have HSD := Lib.hid (show Sized (d ++ e) from fun c hc => by
      rcases List.mem_append.1 hc with hc | hc
      · exact disk_sized hdb.1 c hc
      · exact disk_sized hdb.2 c hc)
    rw [hk] at hX
    clear hk hdb
    go_enter Try.func16, Try.ntmps16
    go_wp2_with fail
    refine hX.mono ?_
    rintro e1 w1 ⟨rfl, hb1⟩
    have HX := Lib.hid (HB1.out.on' (hb1.mono (by omega)))
    have HX2 := Lib.hid HX.out
    have hC := Join_any D E d e dc ec w1 (HCD.out.below HX2.out.old) (HCE.out.below HX2.out.old) HDN.out HEN.out (by omega)
    have HPL0 : Hid (prodI p d e = 0 → prodL p d e = d ++ e) := Lib.hid (fun h => if_pos h)
    have hxl : (d ++ e).length ≤ 200000 := by rw [List.length_append]; omega
    generalize d ++ e = x at *
    clear hX hb1
    go_wp2_with fail
    refine hC.mono ?_
    rintro e2 w2 ⟨A2, c2, rfl, hown2, hb2⟩
    have HX3 := Lib.hid (HX2.out.on hb2)
    have HO2 := Lib.hid hown2
    have hI := IsDisk_any p R rc A2 c2 x w2 (cells_own hown2 HSD.out) HM.out (by omega) HK1.out HK8.out
    have c0 := HX3.out.cell 0
    have c1 := HX3.out.cell 1
    simp only [List.getElem?_toArray, List.getElem?_cons_zero, List.getElem?_cons_succ] at c0 c1
    clear hC hown2 hb2
    cases hb : diskB p x with
    | false =>
      rw [hb] at hI
      have HP2 : Hid (prodI p d e = 2) := Lib.hid (by rw [HPI.out, hb]; rfl)
      have HPL : Hid (prodL p d e = []) := Lib.hid (by unfold prodL; rw [HP2.out]; rfl)
      clear hb
      go_wp2_with fail
      refine hI.mono ?_
      rintro e3 w3 ⟨rfl, hb3⟩
      have HX4 := Lib.hid (HX3.out.on hb3)
      clear hb3 hI c0 c1
      go_wp2
      go_ret2
      rw [HP2.out, HPL.out]
      exact CellsP.no HX4.out.old
    | true =>
      rw [hb] at hI
      have HP2 : Hid (prodI p d e = 0) := Lib.hid (by rw [HPI.out, hb]; rfl)
      have HPL : Hid (prodL p d e = x) := Lib.hid (HPL0.out HP2.out)
      clear hb
      go_wp2_with fail
      refine hI.mono ?_
      rintro e3 w3 ⟨rfl, hb3⟩
      have HX4 := Lib.hid (HX3.out.on hb3)
      have HO4 := Lib.hid (own_below HO2.out hb3)
      clear hb3 hI c0 c1
      go_wp2
      go_ret2
      rw [HP2.out, HPL.out]
      exact CellsP.of_own HO4.out HSD.out HX4.out.old
  · have HPI : Hid (prodI p d e = chk p [] [d, e]) := Lib.hid (if_neg hk)
    have HPL : Hid (prodL p d e = []) := Lib.hid (by unfold prodL; rw [HPI.out, if_neg hk])
    have hne : (chk p [] [d, e] != 0) = true := by simpa using hk
    clear hk
    generalize chk p [] [d, e] = q at *
    go_enter Try.func16, Try.ntmps16
    go_wp2_with fail
    refine hX.mono ?_
    rintro e1 w1 ⟨rfl, hb1⟩
    have HX := Lib.hid (HB1.out.on' (hb1.mono (by omega)))
    clear hb1 hX
    go_wp2
    go_ret2
    rw [HPI.out, HPL.out]
    exact CellsP.no HX.out.old

set_option maxHeartbeats 4000000 in
set_option maxRecDepth 100000 in
theorem rInverse_any (p : Pr) (R : Option Addr) (rc : Nat) (D : Option Addr) (dc : Nat) (d : List Cel) (w : World) (hr : RelsAt w R p.rels) (hm : p.rels.length ≤ maxLen) (hd : CellsAt w D d) (hdm : d.length ≤ 5000000000000) (hD : D = none → d = [] ∧ dc = 0) :
    Calls Try.prog 17 #[prV p.k R p.rels.length rc, .slice D d.length dc] w (CellsP w (invL p d) (chk p [] [d])) := by
  have HBX := Lib.hid (Boxd.start w (prC p.k R p.rels.length rc) 24)
  have HB1 := Lib.hid (HBX.out.on (Boxd.start (w.alloc (.cells (prC p.k R p.rels.length rc) 24)) #[.slice D d.length dc] 25).old)
  have hX := checked_any p R rc none 0 [] (some ⟨(w.alloc (.cells (prC p.k R p.rels.length rc) 24)).heap.size, 0, none⟩) 1 [⟨D, dc, d⟩] ((w.alloc (.cells (prC p.k R p.rels.length rc) 24)).alloc (.cells #[.slice D d.length dc] 25)) (hr.below HB1.out.old) hm (rels_none _ _) (disks_one (hd.below HBX.out.old) hdm 25) (by simp) (by simp)
  simp only [World.size_alloc, List.map_cons, List.map_nil, List.length_cons, List.length_nil] at hX
  have HCD := Lib.hid hd
  have HDN := Lib.hid hD
  clear hr hd hm hD
  by_cases hk : chk p [] [d] = 0
  · have HIL : Hid (invL p d = ginv invC d) := Lib.hid (if_pos hk)
    have HK := Lib.hid hk
    have hdb := (chk_ok hk).2.2
    simp only [List.all_cons, List.all_nil, Bool.and_true] at hdb
    have hd1 := (diskB_facts hdb).1
    have HSD := Lib.hid (disk_sized hdb)
    have HSI := Lib.hid (show Sized (ginv invC d) from fun c hc => by
      simp only [ginv, List.mem_reverse, List.mem_map] at hc
      obtain ⟨x, hx, rfl⟩ := hc
      exact HSD.out x hx)
    rw [hk] at hX
    clear hk hdb
    go_enter Try.func17, Try.ntmps17
    go_wp2_with fail
    refine hX.mono ?_
    rintro e1 w1 ⟨rfl, hb1⟩
    have HX := Lib.hid (HB1.out.on' (hb1.mono (by omega)))
    have hI := Turn_any D dc d w1 (HCD.out.below HX.out.old) (by omega)
    clear hX hb1
    go_wp2_with fail
    refine hI.mono ?_
    rintro e2 w2 ⟨A2, c2, rfl, hown2, hb2⟩
    have HO2 := Lib.hid hown2
    have HX2 := Lib.hid (HX.out.on hb2)
    clear hown2 hb2 hI
    go_wp2
    go_ret2
    rw [HIL.out, HK.out]
    exact CellsP.of_own HO2.out HSI.out HX2.out.old
  · have HIL : Hid (invL p d = []) := Lib.hid (if_neg hk)
    have hne : (chk p [] [d] != 0) = true := by simpa using hk
    clear hk
    generalize chk p [] [d] = q at *
    go_enter Try.func17, Try.ntmps17
    go_wp2_with fail
    refine hX.mono ?_
    rintro e1 w1 ⟨rfl, hb1⟩
    have HX := Lib.hid (HB1.out.on' (hb1.mono (by omega)))
    clear hb1 hX
    go_wp2
    go_ret2
    rw [HIL.out]
    exact CellsP.no HX.out.old

end Go.Proofs.Ytbcckfggnlmhoaa
