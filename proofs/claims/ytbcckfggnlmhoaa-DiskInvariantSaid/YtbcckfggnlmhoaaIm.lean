/-
  Our own text, in the proofs of the laws of package disk (cayleylaw04). Proved here: newWalk, examineMoves. Conditions: the presentation is valid; the arguments lie in memory as the slices say.
-/
import Derived.Test.YtbcckfggnlmhoaaIl
import Derived.Test.YtbcckfggnlmhoaaGb
namespace Go.Proofs.Ytbcckfggnlmhoaa
open Go Go.RowKit

theorem wpList_insert_memo (w : World) {ops : Array Oper} {rest : List Oper} {o : Oper} {a : Act} {Q : Exit → Act → World → Prop}
    (hg : o.guard = none) (m x v : Operand) (T : TypeId) (hop : o.op = Op.insert T m x v) (e : TypeId) (ht : Try.prog.underlying T = some (.map 3 e)) (mb n : Nat) (f : Int → Option Value)
    (hm : a.eval m = .map (some mb)) (h : MemoAt w mb n f) (hn : n < maxLen) (k : Int) (hx : a.eval x = .int .i64 k) (hk : (Lit.int .i64 k).wf = true) (val : Value) (hv : a.eval v = val)
    (hK : ∀ w', MemoAt w' mb (n + 1) (putF f k val) → w.grownBy w' (some mb) → wpList Try.prog ops Q rest (a.put o.dst undef) w') :
    wpList Try.prog ops Q (o :: rest) a w := by
  refine wpList_plain hg fun K' hK' => ?_
  obtain ⟨w', hrun, r1, r2⟩ := h.put ht hn k hk val
  unfold Oper.wp
  simp [execOp, hop, hm, hx, hv, hrun, Result.andThen]
  exact hK' _ _ (hK w' r1 r2)

set_option maxHeartbeats 4000000 in
set_option maxRecDepth 100000 in
theorem newWalk_any (w : World) (p : Pr) (R : Option Addr) (rc : Nat) (l : List UInt8) (W : World) (hb : Below w.heap.size w W) (hl : l.length ≤ 100000) :
    Calls Try.prog 60 #[prV p.k R p.rels.length rc, .string ⟨l.toArray⟩] W fun e w' => ∃ kb mb g cap, e = .returned (.pointer (some ⟨kb, 0, none⟩)) ∧ WkAt w p R rc kb mb g cap l w' := by
  have HB := Lib.hid hb
  have hconv := run_bw l (W.alloc (.cells (prC p.k R p.rels.length rc) 24))
  have HW := Lib.hid (bw_wrow (W.alloc (.cells (prC p.k R p.rels.length rc) 24)) l (by omega))
  have HB1 : Hid (Below W.heap.size W (bw (W.alloc (.cells (prC p.k R p.rels.length rc) 24)) l)) := Lib.hid (((Below.refl _ _).alloc (Nat.le_refl _) _).trans ((bw_below _ l).mono (by simp)))
  simp only [World.size_alloc] at HW hconv
  generalize bcap (W.alloc (.cells (prC p.k R p.rels.length rc) 24)) l = cap at *
  generalize bw (W.alloc (.cells (prC p.k R p.rels.length rc) 24)) l = w1 at *
  have HM0 := Lib.hid (memo_made w1)
  have HB2 : Hid (Below w1.heap.size w1 (w1.alloc (.map #[] 0))) := Lib.hid ((Below.refl _ _).alloc (Nat.le_refl _) _)
  have hmk : (Instr.makeMap 81 none).run Try.prog w1 = .ok (.map (some w1.heap.size)) (w1.alloc (.map #[] 0)) := rfl
  go_enter Try.func60, Try.ntmps60
  go_wp2_with (first
    | (refine wpList_insert_memo (w1.alloc (.map #[] 0)) rfl (.tmp 8) _ _ 81 rfl 90 Try.underlying81 w1.heap.size 0 _ rfl HM0.out (by unfold maxLen; omega) 1 rfl (by decide) (.func (.func 84) #[] #[]) rfl ?_; intro wa hma hga; have HMA := Lib.hid hma; have HGA := Lib.hid hga; clear hma hga)
    | (refine wpList_insert_memo wa rfl (.tmp 8) _ _ 81 rfl 90 Try.underlying81 w1.heap.size 1 _ rfl HMA.out (by unfold maxLen; omega) 2 rfl (by decide) (.func (.func 85) #[] #[]) rfl ?_; intro wb hmb hgb; have HMB := Lib.hid hmb; have HGB := Lib.hid hgb; clear hmb hgb)
    | (refine wpList_insert_memo wb rfl (.tmp 8) _ _ 81 rfl 90 Try.underlying81 w1.heap.size 2 _ rfl HMB.out (by unfold maxLen; omega) 3 rfl (by decide) (.func (.func 86) #[] #[]) rfl ?_; intro wc hmc hgc; have HMC := Lib.hid hmc; have HGC := Lib.hid hgc; clear hmc hgc)
    | (refine wpList_insert_memo wc rfl (.tmp 8) _ _ 81 rfl 90 Try.underlying81 w1.heap.size 3 _ rfl HMC.out (by unfold maxLen; omega) 4 rfl (by decide) (.func (.func 87) #[] #[]) rfl ?_; intro wd hmd hgd; have HMD := Lib.hid hmd; have HGD := Lib.hid hgd; clear hmd hgd))
  go_ret
  have s1 : w1.heap.size ≤ (w1.alloc (.map #[] 0)).heap.size := HB2.out.size
  have B0 := HB2.out.grown HGA.out s1 (fun k hk => by cases hk; exact Nat.le_refl _)
  have B1 := B0.grown HGB.out B0.size (fun k hk => by cases hk; exact Nat.le_refl _)
  have B2 := B1.grown HGC.out B1.size (fun k hk => by cases hk; exact Nat.le_refl _)
  have B3 := B2.grown HGD.out B2.size (fun k hk => by cases hk; exact Nat.le_refl _)
  have BZ := B3.alloc B3.size (.cells #[.int .i64 p.k, .slice R p.rels.length rc, .slice (some ⟨W.heap.size + 1, 0, none⟩) l.length cap, .map (some w1.heap.size)] 83)
  have hg := HW.out.lt
  have hm := HMD.out.lt
  have hs := HB.out.size
  have hs1 := HB1.out.size
  have hs2 := B3.size
  exact ⟨wd.heap.size, w1.heap.size, W.heap.size + 1, cap, rfl, HB.out.trans ((HB1.out.trans (BZ.mono hs1)).mono hs), by omega, by simp, by omega, by omega, by omega, by omega,
    by rw [alloc_cell]; rfl, by rw [alloc_cell]; rfl, by rw [alloc_cell]; rfl, by rw [alloc_cell]; rfl, frozen_new _ _ _ _, HW.out.below BZ, HMD.out.kept (World.grownBy_alloc wd _ none) (by simp)⟩

/-- What examineMoves returns. -/
def appI (p : Pr) (l : List UInt8) (n : Nat) : Int := if chk p [l] [] = 0 then (if n ≤ 100000 then 0 else 2) else chk p [l] []

set_option maxHeartbeats 4000000 in
set_option maxRecDepth 100000 in
theorem examineMoves_any (p : Pr) (R : Option Addr) (rc : Nat) (l : List UInt8) (M : Option Addr) (n mc : Nat) (w : World) (hr : RelsAt w R p.rels) (hm : p.rels.length ≤ maxLen) (hl : l.length ≤ maxLen) (hn : n ≤ 5000000000000) :
    Calls Try.prog 58 #[prV p.k R p.rels.length rc, .string ⟨l.toArray⟩, .slice M n mc] w fun e w' => e = .returned (.int .i64 (appI p l n)) ∧ Below w.heap.size w w' := by
  have HBX := Lib.hid (Boxd.start w (prC p.k R p.rels.length rc) 24)
  have HB1 := Lib.hid (HBX.out.on (Boxd.start (w.alloc (.cells (prC p.k R p.rels.length rc) 24)) #[.string ⟨l.toArray⟩] 9).old)
  have hX := examine_any p R rc (some ⟨(w.alloc (.cells (prC p.k R p.rels.length rc) 24)).heap.size, 0, none⟩) 1 [l] none 0 [] ((w.alloc (.cells (prC p.k R p.rels.length rc) 24)).alloc (.cells #[.string ⟨l.toArray⟩] 9)) (hr.below HB1.out.old) hm (rels_one hl 9) (fun i hi => absurd hi (Nat.not_lt_zero i)) (by simp) (by simp)
  simp only [World.size_alloc, List.map_cons, List.map_nil, List.length_cons, List.length_nil] at hX
  by_cases hk : chk p [l] [] = 0
  · have HA : Hid (appI p l n = if n ≤ 100000 then 0 else 2) := Lib.hid (if_pos hk)
    rw [hk] at hX
    clear hr hm hl hk
    go_enter Try.func58, Try.ntmps58
    go_wp2_with fail
    refine hX.mono ?_
    rintro e1 w1 ⟨rfl, hb1⟩
    have HX := Lib.hid (HB1.out.on' (hb1.mono (by omega)))
    clear hb1 hX
    by_cases hq : n ≤ 100000
    · have HA2 : Hid (appI p l n = 0) := Lib.hid (by rw [HA.out, if_pos hq])
      have e1 : decide ((100000 : Int) < (n : Int)) = false := by simp; omega
      have e2 : decide (100000 < n) = false := by simpa using hq
      go_wp2
      go_ret
      exact ⟨ret_int HA2.out.symm, HX.out.old⟩
    · have HA2 : Hid (appI p l n = 2) := Lib.hid (by rw [HA.out, if_neg hq])
      have e1 : decide ((100000 : Int) < (n : Int)) = true := by simp; omega
      have e2 : decide (100000 < n) = true := by simpa using hq
      go_wp2
      go_ret
      exact ⟨ret_int HA2.out.symm, HX.out.old⟩
  · have HA : Hid (appI p l n = chk p [l] []) := Lib.hid (if_neg hk)
    have hne : (chk p [l] [] != 0) = true := by simpa using hk
    clear hr hm hl hk
    generalize chk p [l] [] = q at *
    go_enter Try.func58, Try.ntmps58
    go_wp2_with fail
    refine hX.mono ?_
    rintro e1 w1 ⟨rfl, hb1⟩
    have HX := Lib.hid (HB1.out.on' (hb1.mono (by omega)))
    clear hb1 hX
    go_wp2
    go_ret
    exact ⟨ret_int HA.out.symm, HX.out.old⟩
end Go.Proofs.Ytbcckfggnlmhoaa
