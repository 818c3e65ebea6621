/-
  Our own text, in the proof of the law DiskStays of package disk (cayleylaw04). Proved here: the law's walk. No condition but bounds.
-/
import Derived.Test.YtbcckfggnlmhoaaOa
import Derived.Test.YtbcckfggnlmhoaaNi
import Derived.Test.YtbcckfggnlmhoaaLg
namespace Go.Proofs.Ytbcckfggnlmhoaa
open Go Go.RowKit

/-- The law's arguments and its copies lie where they lay. -/
structure Sy (w0 : World) (p : Pr) (R : Option Addr) (rc : Nat) (D : Option Addr) (d : List Cel) (E : Option Addr) (e : List Cel) (M : Option Addr) (ms : List Mv) (RX DX EX MX : Option Addr) (W : World) : Prop where
  box : Boxd w0 (prC p.k R p.rels.length rc) 24 W
  rels : RelsAt W R p.rels
  cd : CellsAt W D d
  ce : CellsAt W E e
  mv : MovesAt W M ms
  rx : RelsAt W RX p.rels
  dx : CellsAt W DX d
  ex : CellsAt W EX e
  mx : MovesAt W MX ms
theorem Sy.on {w0 : World} {p : Pr} {R : Option Addr} {rc : Nat} {D : Option Addr} {d : List Cel} {E : Option Addr} {e : List Cel} {M : Option Addr} {ms : List Mv} {RX DX EX MX : Option Addr} {W W' : World} (h : Sy w0 p R rc D d E e M ms RX DX EX MX W) (hb : Below W.heap.size W W') : Sy w0 p R rc D d E e M ms RX DX EX MX W' :=
  ⟨h.box.on hb, h.rels.below hb, h.cd.below hb, h.ce.below hb, h.mv.below hb, h.rx.below hb, h.dx.below hb, h.ex.below hb, h.mx.below hb⟩
theorem ToMoves_any (p : Pr) (R : Option Addr) (rc : Nat) (D : Option Addr) (dc : Nat) (d : List Cel) (l : List UInt8) (w : World) (hr : RelsAt w R p.rels) (hm : p.rels.length ≤ maxLen) (hd : CellsAt w D d) (hdm : d.length ≤ 5000000000000) (hl : l.length ≤ maxLen) :
    Calls Try.prog 32 #[prV p.k R p.rels.length rc, .slice D d.length dc, .string ⟨l.toArray⟩] w fun e w' => ∃ v, e = .returned v ∧ Below w.heap.size w w' := by
  by_cases hz : tmE p d l = 0
  · exact (ToMoves_yes p R rc D dc d l w hr hm hd hdm hl hz).mono fun _ _ ⟨_, _, h, _, _, hb⟩ => ⟨_, h, hb⟩
  · exact (ToMoves_no p R rc D dc d l w hr hm hd hdm hl hz).mono fun _ _ ⟨_, _, h, _, _, hb⟩ => ⟨_, h, hb⟩

set_option maxHeartbeats 8000000 in
set_option maxRecDepth 100000 in
theorem diskStays_any (p : Pr) (R : Option Addr) (rc : Nat) (D : Option Addr) (dc : Nat) (d : List Cel) (E : Option Addr) (ec : Nat) (e : List Cel) (l : List UInt8) (M : Option Addr) (mc : Nat) (ms : List Mv) (w : World) (hr : RelsAt w R p.rels) (hm : p.rels.length ≤ maxLen) (hR : R = none → p.rels = [] ∧ rc = 0) (hd : CellsAt w D d) (hdm : d.length ≤ 5000000000000) (hD : D = none → d = [] ∧ dc = 0)
    (he : CellsAt w E e) (hem : e.length ≤ 5000000000000) (hE : E = none → e = [] ∧ ec = 0) (hl : l.length ≤ maxLen) (hM : MovesAt w M ms) (hn : ms.length ≤ 5000000000000) (hM0 : M = none → ms = [] ∧ mc = 0) :
    Calls Try.prog 10 #[prV p.k R p.rels.length rc, .slice D d.length dc, .slice E e.length ec, .string ⟨l.toArray⟩, .slice M ms.length mc] w fun x w' => x = .returned (.bool true) ∧ Below w.heap.size w w' := by
  have HX0 := Lib.hid (Boxd.start w (prC p.k R p.rels.length rc) 24)
  have g0 : (w.alloc (.cells (prC p.k R p.rels.length rc) 24)).cell? ⟨w.heap.size, 0, none⟩ = some (.int .i64 p.k) := HX0.out.cell 0
  have g1 : (w.alloc (.cells (prC p.k R p.rels.length rc) 24)).cell? ⟨w.heap.size, 1, none⟩ = some (.slice R p.rels.length rc) := HX0.out.cell 1
  have HSL : (ByteArray.mk l.toArray).size = l.length := size_mk l
  have H1 := Lib.hid hr
  have H2 := Lib.hid hd
  have H3 := Lib.hid he
  have H4 := Lib.hid hM
  have H5 := Lib.hid (And.intro hR (And.intro hD (And.intro hE hM0)))
  have HM := Lib.hid hm
  have HL := Lib.hid hl
  have HN := Lib.hid (And.intro hdm (And.intro hem hn))
  have hS0 := sane_any (w.alloc (.cells (prC p.k R p.rels.length rc) 24))
  clear hr hd he hM hR hD hE hM0 hl
  unfold maxLen at hm
  by_cases hb0 : 100 < p.rels.length
  · have hi0 : decide ((100 : Int) < (p.rels.length : Int)) = true := by simp; omega
    have hj0 : decide (100 < p.rels.length) = true := by simp; omega
    go_enter Try.func10, Try.ntmps10
    go_wp2_with fail
    refine hS0.mono ?_
    rintro e1 w1 ⟨rfl, hb1⟩
    go_wp2
    go_ret
    exact ⟨rfl, (HX0.out.on hb1).old⟩
  have hi0 : decide ((100 : Int) < (p.rels.length : Int)) = false := by simp; omega
  have hj0 : decide (100 < p.rels.length) = false := by simp; omega
  by_cases hb1 : 100 < d.length
  · have hi1 : decide ((100 : Int) < (d.length : Int)) = true := by simp; omega
    have hj1 : decide (100 < d.length) = true := by simp; omega
    go_enter Try.func10, Try.ntmps10
    go_wp2_with fail
    refine hS0.mono ?_
    rintro e1 w1 ⟨rfl, hb1⟩
    go_wp2
    go_ret
    exact ⟨rfl, (HX0.out.on hb1).old⟩
  have hi1 : decide ((100 : Int) < (d.length : Int)) = false := by simp; omega
  have hj1 : decide (100 < d.length) = false := by simp; omega
  by_cases hb2 : 100 < e.length
  · have hi2 : decide ((100 : Int) < (e.length : Int)) = true := by simp; omega
    have hj2 : decide (100 < e.length) = true := by simp; omega
    go_enter Try.func10, Try.ntmps10
    go_wp2_with fail
    refine hS0.mono ?_
    rintro e1 w1 ⟨rfl, hb1⟩
    go_wp2
    go_ret
    exact ⟨rfl, (HX0.out.on hb1).old⟩
  have hi2 : decide ((100 : Int) < (e.length : Int)) = false := by simp; omega
  have hj2 : decide (100 < e.length) = false := by simp; omega
  by_cases hb3 : 200 < l.length
  · have hi3 : decide ((200 : Int) < (l.length : Int)) = true := by simp; omega
    have hj3 : decide (200 < l.length) = true := by simp; omega
    go_enter Try.func10, Try.ntmps10
    go_wp2_with fail
    refine hS0.mono ?_
    rintro e1 w1 ⟨rfl, hb1⟩
    go_wp2
    go_ret
    exact ⟨rfl, (HX0.out.on hb1).old⟩
  have hi3 : decide ((200 : Int) < (l.length : Int)) = false := by simp; omega
  have hj3 : decide (200 < l.length) = false := by simp; omega
  by_cases hb4 : 100 < ms.length
  · have hi4 : decide ((100 : Int) < (ms.length : Int)) = true := by simp; omega
    have hj4 : decide (100 < ms.length) = true := by simp; omega
    go_enter Try.func10, Try.ntmps10
    go_wp2_with fail
    refine hS0.mono ?_
    rintro e1 w1 ⟨rfl, hb1⟩
    go_wp2
    go_ret
    exact ⟨rfl, (HX0.out.on hb1).old⟩
  have hi4 : decide ((100 : Int) < (ms.length : Int)) = false := by simp; omega
  have hj4 : decide (100 < ms.length) = false := by simp; omega
  clear hS0 hm hdm hem hn
  have K0 : Hid (Below w.heap.size w (w.alloc (.cells (prC p.k R p.rels.length rc) 24))) := Lib.hid HX0.out.old
  have K1 := Lib.hid (H1.out.below K0.out)
  have K2 := Lib.hid (H2.out.below K0.out)
  have K3 := Lib.hid (H3.out.below K0.out)
  have K4 := Lib.hid (H4.out.below K0.out)
  go_enter Try.func10, Try.ntmps10
  go_wp2_with (first
    | (at_builtin; refine append_optS (w.alloc (.cells (prC p.k R p.rels.length rc) 24)) rfl (.tmp 42) (.tmp 44) rfl (w.alloc (.cells (prC p.k R p.rels.length rc) 24)).heap.size none 0 0 [] p.rels rfl (World.ownsRow_nil _ _ _ _) R p.rels.length rc rfl rfl K1.out H5.out.1 (by omega) (Nat.le_refl _) ?_; intro RX rxc w2 hown2 hw2)
    | (at_builtin; refine append_opt w2 rfl (.tmp 46) (.tmp 47) rfl w2.heap.size none 0 0 [] d rfl (World.ownsRow_nil _ _ _ _) D d.length dc rfl rfl (K2.out.below hw2) H5.out.2.1 (by omega) (Nat.le_refl _) ?_; intro DX dxc w3 hown3 hw3)
    | (at_builtin; refine append_opt w3 rfl (.tmp 49) (.tmp 50) rfl w3.heap.size none 0 0 [] e rfl (World.ownsRow_nil _ _ _ _) E e.length ec rfl rfl ((K3.out.below hw2).below hw3) H5.out.2.2.1 (by omega) (Nat.le_refl _) ?_; intro EX exc w4 hown4 hw4)
    | (at_builtin; refine append_optM w4 rfl (.tmp 52) (.tmp 53) rfl w4.heap.size none 0 0 [] ms rfl (World.ownsRow_nil _ _ _ _) M ms.length mc rfl rfl (((K4.out.below hw2).below hw3).below hw4) H5.out.2.2.2 (by omega) (Nat.le_refl _) ?_; intro MX mxc w5 hown5 hw5; have c0 : w5.cell? ⟨w.heap.size, 0, none⟩ = some (.int .i64 p.k) := ((((HX0.out.on hw2).on hw3).on hw4).on hw5).cell 0; have c1 : w5.cell? ⟨w.heap.size, 1, none⟩ = some (.slice R p.rels.length rc) := ((((HX0.out.on hw2).on hw3).on hw4).on hw5).cell 1))
  rw [Nat.zero_add, List.nil_append] at hown2 hown3 hown4 hown5
  have HY5 : Hid (Sy w p R rc D d E e M ms RX DX EX MX w5) := Lib.hid
    ⟨(((HX0.out.on hw2).on hw3).on hw4).on hw5, (((K1.out.below hw2).below hw3).below hw4).below hw5, (((K2.out.below hw2).below hw3).below hw4).below hw5, (((K3.out.below hw2).below hw3).below hw4).below hw5, (((K4.out.below hw2).below hw3).below hw4).below hw5,
      (((rels_own hown2 (fun r hr => by obtain ⟨i, hi, rfl⟩ := List.getElem_of_mem hr; obtain ⟨_, _, _, _, h⟩ := K1.out i hi; exact h)).below hw3).below hw4).below hw5, ((cells_own hown3 (cell_sized K2.out)).below hw4).below hw5, (cells_own hown4 (cell_sized K3.out)).below hw5, moves_own hown5 (fun m hm => by obtain ⟨i, hi, rfl⟩ := List.getElem_of_mem hm; obtain ⟨_, _, _, _, h⟩ := K4.out i hi; exact h)⟩
  clear hown2 hown3 hown4 hown5 hw2 hw3 hw4 hw5 K1 K2 K3 K4 g0 g1
  have hC := Boundary_any p R rc D dc d w5 HY5.out.rels HM.out HY5.out.cd HN.out.1
  go_wp2_with fail
  refine hC.mono ?_
  rintro x5 w6 ⟨rfl, hb⟩
  have HY6 := Lib.hid (HY5.out.on hb)
  clear hC c0 c1 hb HY5
  have hC := Proves_any p R rc D dc d l w6 HY6.out.rels HM.out HY6.out.cd HN.out.1 HL.out
  have c0 : w6.cell? ⟨w.heap.size, 0, none⟩ = some (.int .i64 p.k) := HY6.out.box.cell 0
  have c1 : w6.cell? ⟨w.heap.size, 1, none⟩ = some (.slice R p.rels.length rc) := HY6.out.box.cell 1
  go_wp2_with fail
  refine hC.mono ?_
  rintro x6 w7 ⟨rfl, hb⟩
  have HY7 := Lib.hid (HY6.out.on hb)
  clear hC c0 c1 hb HY6
  have hC := Product_any p R rc D dc d E ec e w7 HY7.out.rels HM.out HY7.out.cd HN.out.1 H5.out.2.1 HY7.out.ce HN.out.2.1 H5.out.2.2.1
  have c0 : w7.cell? ⟨w.heap.size, 0, none⟩ = some (.int .i64 p.k) := HY7.out.box.cell 0
  have c1 : w7.cell? ⟨w.heap.size, 1, none⟩ = some (.slice R p.rels.length rc) := HY7.out.box.cell 1
  go_wp2_with fail
  refine hC.mono ?_
  rintro x7 w8 ⟨_, _, rfl, _, _, hb⟩
  have HY8 := Lib.hid (HY7.out.on hb)
  clear hC c0 c1 hb HY7
  have hC := Inverse_any p R rc D dc d w8 HY8.out.rels HM.out HY8.out.cd HN.out.1 H5.out.2.1
  have c0 : w8.cell? ⟨w.heap.size, 0, none⟩ = some (.int .i64 p.k) := HY8.out.box.cell 0
  have c1 : w8.cell? ⟨w.heap.size, 1, none⟩ = some (.slice R p.rels.length rc) := HY8.out.box.cell 1
  go_wp2_with fail
  refine hC.mono ?_
  rintro x8 w9 ⟨_, _, rfl, _, _, hb⟩
  have HY9 := Lib.hid (HY8.out.on hb)
  clear hC c0 c1 hb HY8
  have hC := Conjugate_any p R rc D dc d l w9 HY9.out.rels HM.out HY9.out.cd HN.out.1 H5.out.2.1 HL.out
  have c0 : w9.cell? ⟨w.heap.size, 0, none⟩ = some (.int .i64 p.k) := HY9.out.box.cell 0
  have c1 : w9.cell? ⟨w.heap.size, 1, none⟩ = some (.slice R p.rels.length rc) := HY9.out.box.cell 1
  go_wp2_with fail
  refine hC.mono ?_
  rintro x9 w10 ⟨_, _, rfl, _, _, hb⟩
  have HY10 := Lib.hid (HY9.out.on hb)
  clear hC c0 c1 hb HY9
  have hC := Simplify_any p R rc D dc d w10 HY10.out.rels HM.out HY10.out.cd HN.out.1 H5.out.2.1
  have c0 : w10.cell? ⟨w.heap.size, 0, none⟩ = some (.int .i64 p.k) := HY10.out.box.cell 0
  have c1 : w10.cell? ⟨w.heap.size, 1, none⟩ = some (.slice R p.rels.length rc) := HY10.out.box.cell 1
  go_wp2_with fail
  refine hC.mono ?_
  rintro x10 w11 ⟨_, _, rfl, _, _, hb⟩
  have HY11 := Lib.hid (HY10.out.on hb)
  clear hC c0 c1 hb HY10
  have hC := Apply_any p R rc l M mc ms w11 HY11.out.rels HM.out HL.out HY11.out.mv HN.out.2.2
  have c0 : w11.cell? ⟨w.heap.size, 0, none⟩ = some (.int .i64 p.k) := HY11.out.box.cell 0
  have c1 : w11.cell? ⟨w.heap.size, 1, none⟩ = some (.slice R p.rels.length rc) := HY11.out.box.cell 1
  go_wp2_with fail
  refine hC.mono ?_
  rintro x11 w12 ⟨rfl, hb⟩
  have HY12 := Lib.hid (HY11.out.on hb)
  clear hC c0 c1 hb HY11
  have hC := FromMoves_any p R rc l M mc ms w12 HY12.out.rels HM.out HL.out HY12.out.mv HN.out.2.2
  have c0 : w12.cell? ⟨w.heap.size, 0, none⟩ = some (.int .i64 p.k) := HY12.out.box.cell 0
  have c1 : w12.cell? ⟨w.heap.size, 1, none⟩ = some (.slice R p.rels.length rc) := HY12.out.box.cell 1
  go_wp2_with fail
  refine hC.mono ?_
  rintro x12 w13 ⟨_, _, rfl, _, _, hb⟩
  have HY13 := Lib.hid (HY12.out.on hb)
  clear hC c0 c1 hb HY12
  have hC := ToMoves_any p R rc D dc d l w13 HY13.out.rels HM.out HY13.out.cd HN.out.1 HL.out
  have c0 : w13.cell? ⟨w.heap.size, 0, none⟩ = some (.int .i64 p.k) := HY13.out.box.cell 0
  have c1 : w13.cell? ⟨w.heap.size, 1, none⟩ = some (.slice R p.rels.length rc) := HY13.out.box.cell 1
  go_wp2_with fail
  refine hC.mono ?_
  rintro x13 w14 ⟨_, rfl, hb⟩
  have HY14 := Lib.hid (HY13.out.on hb)
  clear hC c0 c1 hb HY13
  have c1 : w14.cell? ⟨w.heap.size, 1, none⟩ = some (.slice R p.rels.length rc) := HY14.out.box.cell 1
  have hC := Same_any D DX d dc dxc w14 HY14.out.cd HY14.out.dx HN.out.1
  go_wp2_with fail
  refine hC.mono ?_
  rintro x14 w15 ⟨rfl, hb⟩
  have HY15 := Lib.hid (HY14.out.on hb)
  clear hC c1 hb HY14
  have hC := Same_any E EX e ec exc w15 HY15.out.ce HY15.out.ex HN.out.2.1
  go_wp2_with fail
  refine hC.mono ?_
  rintro x15 w16 ⟨rfl, hb⟩
  have HY16 := Lib.hid (HY15.out.on hb)
  clear hC hb HY15
  go_wp2
  go_loopw [15, 115] (fun _ i wr => ∃ k : Nat, k ≤ p.rels.length ∧ i = .int .i64 (k : Int) ∧ Sy w p R rc D d E e M ms RX DX EX MX wr) (fun _ i _ => p.rels.length - (intOf i).toNat)
  case atStart => exact ⟨0, Nat.zero_le _, rfl, HY16.out⟩
  case round =>
    obtain ⟨k, hk, rfl, hsy⟩ := hrel
    have HY := Lib.hid hsy
    by_cases hlt : k < p.rels.length
    · have hd : decide ((k : Int) < (p.rels.length : Int)) = true := by simp; omega
      have hd' : decide (k < p.rels.length) = true := by simpa using hlt
      have c1 : wr.cell? ⟨w.heap.size, 1, none⟩ = some (.slice R p.rels.length rc) := hsy.box.cell 1
      obtain ⟨a, o, hA, hx, _⟩ := hsy.rels k hlt
      obtain ⟨b, o2, hB, hy, _⟩ := hsy.rx k hlt
      subst hA hB
      generalize p.rels[k] = y at *
      have hk1 : (k : Int) < (p.rels.length : Int) := by omega
      clear hsy
      go_wp2
      go_quiet (fail)
      go_wp2
      go_roundw
      case rel => exact ⟨k + 1, by omega, by go_num, HY.out.on ((Below.refl _ _).drewN nq)⟩
      case measure => simp [intOf]; omega
    · have hd : decide ((k : Int) < (p.rels.length : Int)) = false := by simp; omega
      have hd' : decide (k < p.rels.length) = false := by simpa using hlt
      clear hsy
      go_wp2
      go_loopw [16, 131] (fun _ i wr => ∃ k : Nat, k ≤ ms.length ∧ i = .int .i64 (k : Int) ∧ Sy w p R rc D d E e M ms RX DX EX MX wr) (fun _ i _ => ms.length - (intOf i).toNat)
      case atStart => exact ⟨0, Nat.zero_le _, rfl, HY.out⟩
      case round =>
        obtain ⟨j, hj, rfl, hsy⟩ := hrel
        have HZ := Lib.hid hsy
        by_cases hlt2 : j < ms.length
        · have hd2 : decide ((j : Int) < (ms.length : Int)) = true := by simp; omega
          have hd2' : decide (j < ms.length) = true := by simpa using hlt2
          obtain ⟨a, o, hA, hx, _⟩ := hsy.mv j hlt2
          obtain ⟨b, o2, hB, hy, _⟩ := hsy.mx j hlt2
          subst hA hB
          generalize ms[j] = m at *
          obtain ⟨mk, mp, ml, mr, mt, mi⟩ := m
          have x0 : wr.cell? ⟨a, o + j * 6, none⟩ = some (.int .i64 mk) := hx 0 _ rfl
          have x1 : wr.cell? ⟨a, o + j * 6 + 1, none⟩ = some (.int .i64 mp) := hx 1 _ rfl
          have x2 : wr.cell? ⟨a, o + j * 6 + 2, none⟩ = some (.int .i64 ml) := hx 2 _ rfl
          have x3 : wr.cell? ⟨a, o + j * 6 + 3, none⟩ = some (.int .i64 mr) := hx 3 _ rfl
          have x4 : wr.cell? ⟨a, o + j * 6 + 4, none⟩ = some (.int .i64 mt) := hx 4 _ rfl
          have x5 : wr.cell? ⟨a, o + j * 6 + 5, none⟩ = some (.bool mi) := hx 5 _ rfl
          have y0 : wr.cell? ⟨b, o2 + j * 6, none⟩ = some (.int .i64 mk) := hy 0 _ rfl
          have y1 : wr.cell? ⟨b, o2 + j * 6 + 1, none⟩ = some (.int .i64 mp) := hy 1 _ rfl
          have y2 : wr.cell? ⟨b, o2 + j * 6 + 2, none⟩ = some (.int .i64 ml) := hy 2 _ rfl
          have y3 : wr.cell? ⟨b, o2 + j * 6 + 3, none⟩ = some (.int .i64 mr) := hy 3 _ rfl
          have y4 : wr.cell? ⟨b, o2 + j * 6 + 4, none⟩ = some (.int .i64 mt) := hy 4 _ rfl
          have y5 : wr.cell? ⟨b, o2 + j * 6 + 5, none⟩ = some (.bool mi) := hy 5 _ rfl
          have hk1 : (j : Int) < (ms.length : Int) := by omega
          clear hsy hx hy
          go_wp2
          go_quiet (fail)
          go_wp2
          go_roundw
          case rel => exact ⟨j + 1, by omega, by go_num, HZ.out.on ((Below.refl _ _).drewN nq)⟩
          case measure => simp [intOf]; omega
        · have hd2 : decide ((j : Int) < (ms.length : Int)) = false := by simp; omega
          have hd2' : decide (j < ms.length) = false := by simpa using hlt2
          have hS := sane_any wr
          clear hsy
          go_wp2_with fail
          refine hS.mono ?_
          rintro x16 w17 ⟨rfl, hb⟩
          go_wp2
          go_ret
          exact ⟨rfl, (HZ.out.box.on hb).old⟩
end Go.Proofs.Ytbcckfggnlmhoaa
