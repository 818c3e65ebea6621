/-
  Our own text, in the proofs of the laws of package pres (cayleylaw03). Proved here: Conjugate returns a conjugator, or none; canonicalRelator and rotations of package pres; strings.Join of package strings laid at this program; list of package pres; Text of package pres; how long the text of a word is (no program); Text of package pres with no condition on texts; rotations of package pres, what its closure yields; the laws of shortlex; what the keys of a set of words are, in ascending order. Conditions: the arguments lie in memory as the slices say; bounds; the listed tables lie as the program lays them.
-/
import Derived.Test.YteephomlnbbjeaaGreatDoorJd
import Derived.Test.YteephomlnbbjeaaGreatDoorJn
import Derived.Shelf.Strings.OnBuilder
import Derived.RangeFuncNested
import Derived.RangeFuncBound
import Derived.RangeFuncCalls
import Derived.RangeFuncLeaves
import Derived.RangeFuncFrom
import Derived.Shelf.Abstract
import Derived.OwnWalkIn
import Derived.TacticsInMore
import Derived.LoopNIn
import Derived.LoopIn
import Derived.Shelf.RegionOpen
import Derived.Sort.KeysCollected
import Derived.Maps.OwnSet
set_option linter.unusedVariables false
set_option linter.unusedSimpArgs false
set_option linter.unusedSectionVars false
namespace Go.Proofs.YteephomlnbbjeaaGreatDoor
open Go Go.RowKit

theorem formW_len (l : List UInt8) : (formW l).length = (coreW (red l)).length := by
  have := lrN_le (coreW (red l))
  unfold formW; simp; omega

def shiftN (u v : List UInt8) : Nat :=
  if (lrN (coreW (red v)) : Int) - lrN (coreW (red u)) < 0 then ((lrN (coreW (red v)) : Int) - lrN (coreW (red u)) + (coreW (red v)).length).toNat else ((lrN (coreW (red v)) : Int) - lrN (coreW (red u))).toNat
def conjX (u v : List UInt8) : List UInt8 :=
  red (conjW (red u) ++ invW ((coreW (red v)).take (shiftN u v)) ++ invW (conjW (red v)))

end Go.Proofs.YteephomlnbbjeaaGreatDoor

namespace Go.Proofs.YteephomlnbbjeaaGreatDoor
open Go Go.RowKit

def canW (r : List UInt8) : List UInt8 := if cmpW (formW (invW r)) (formW r) < 0 then formW (invW r) else formW r

set_option maxHeartbeats 1000000 in
set_option maxRecDepth 100000 in
theorem canonicalRelator_any (r : List UInt8) (w : World) (ht : Tabs w) (hr : isW r = true) (hf : (formW r).length ≤ 100000) (hg : (formW (invW r)).length ≤ 100000) :
    Calls Tryz.prog 71 #[.string ⟨r.toArray⟩] w fun e w' => e = .returned (.string ⟨(canW r).toArray⟩) ∧ Below w.heap.size w w' := by
  have hlen := isW_len hr
  have HT := Lib.hid ht
  have hiw := isW_invW hr
  have HF : Hid (∀ (a : List UInt8) (X : World), isW a = true → Below w.heap.size w X → Calls Tryz.prog 120 #[.string ⟨a.toArray⟩] X (fun e w' => e = .returned (.string ⟨(formW a).toArray⟩) ∧ Below X.heap.size X w')) := Lib.hid (fun a X h1 hX => Form_yes ⟨a.toArray⟩ X (HT.out.on hX) h1 (by have := isW_len h1; rw [size_mk]; omega))
  have HI : Hid (∀ X : World, Below w.heap.size w X → Calls Tryz.prog 75 #[.string ⟨r.toArray⟩] X (fun e w' => e = .returned (.string ⟨(invW r).toArray⟩) ∧ Below X.heap.size X w')) := Lib.hid (fun X hX => Inverse_yes ⟨r.toArray⟩ X (HT.out.on hX) hr (by rw [size_mk]; omega))
  have HC : Hid (∀ X : World, Below w.heap.size w X → Calls Tryz.prog 121 #[.string ⟨(formW (invW r)).toArray⟩, .string ⟨(formW r).toArray⟩] X (fun e w' => e = .returned (.int .i64 (cmpW (formW (invW r)) (formW r))) ∧ ∃ n, w' = X.drewN n)) := Lib.hid (fun X hX => Compare_any ⟨(formW (invW r)).toArray⟩ ⟨(formW r).toArray⟩ X (HT.out.on hX) (by rw [size_mk]; unfold maxLen; omega) (by rw [size_mk]; unfold maxLen; omega))
  have HZ : Hid (canW r = if cmpW (formW (invW r)) (formW r) < 0 then formW (invW r) else formW r) := Lib.hid rfl
  have HF1 := Lib.hid (fun X hX => HF.out r X hr hX)
  have HF2 := Lib.hid (fun X hX => HF.out (invW r) X hiw hX)
  clear ht HF hiw hr hf hg
  generalize formW (invW r) = o at *
  generalize formW r = f at *
  generalize cmpW o f = q at *
  go_enter Tryz.func71, Tryz.ntmps71
  go_wp2_with fail
  refine (HF1.out _ (Below.refl _ _)).mono ?_
  rintro e w1 ⟨rfl, hb1⟩
  have HB1 := Lib.hid hb1
  clear hb1
  go_wp2_with fail
  refine (HI.out _ HB1.out).mono ?_
  rintro e w2 ⟨rfl, hb2⟩
  have HB2 := Lib.hid (HB1.out.trans (hb2.mono HB1.out.size))
  clear hb2
  go_wp2_with fail
  refine (HF2.out _ HB2.out).mono ?_
  rintro e w3 ⟨rfl, hb3⟩
  have HB3 := Lib.hid (HB2.out.trans (hb3.mono HB2.out.size))
  clear hb3
  go_wp2_with fail
  refine (HC.out _ HB3.out).mono ?_
  rintro e w4 ⟨rfl, n, rfl⟩
  have HB4 := Lib.hid (HB3.out.drewN n)
  by_cases hq : q < 0
  · have hd : decide (q < 0) = true := by simpa using hq
    go_wp2
    go_ret
    exact ⟨by rw [HZ.out, if_pos hq]; rfl, HB4.out⟩
  · have hd : decide (q < 0) = false := by simpa using hq
    go_wp2
    go_ret
    exact ⟨by rw [HZ.out, if_neg (by omega)]; rfl, HB4.out⟩
end Go.Proofs.YteephomlnbbjeaaGreatDoor

namespace Go.Proofs
open Go.Shelf Go.RowKit

def Tryz.laysJoin_ren : Go.Shelf.Ren := ⟨fun | 156 => 116 | 165 => 151 | 166 => 152 | 169 => 153 | 240 => 185 | 241 => 186 | 276 => 212 | 277 => 213 | n => n, fun | 31 => 22 | 9 => 9 | 3 => 3 | 4 => 4 | 0 => 0 | 20 => 20 | 72 => 163 | 76 => 167 | 70 => 161 | 37 => 82 | 75 => 166 | 127 => 197 | 164 => 222 | 5 => 5 | 80 => 169 | n => n, fun | n => n⟩
theorem Tryz.laysJoin : Go.Proofs.Lays.n156 Tryz.prog Tryz.laysJoin_ren := {
  mixed := by kernel_rfl
  f156 := Tryz.func116.trans (congrArg some (by kernel_rfl))
  f165 := Tryz.func151.trans (congrArg some (by kernel_rfl))
  f166 := Tryz.func152.trans (congrArg some (by kernel_rfl))
  f169 := Tryz.func153.trans (congrArg some (by kernel_rfl))
  f240 := Tryz.func185.trans (congrArg some (by kernel_rfl))
  f241 := Tryz.func186.trans (congrArg some (by kernel_rfl))
  f276 := Tryz.func212.trans (congrArg some (by kernel_rfl))
  f277 := Tryz.func213.trans (congrArg some (by kernel_rfl))
  t0 := Tryz.underlying0
  a0 := Tryz.isAgg0
  z0 := Tryz.sizeOf0
  v0 := Tryz.zeroValue0
  t3 := Tryz.underlying3
  a3 := Tryz.isAgg3
  z3 := Tryz.sizeOf3
  v3 := Tryz.zeroValue3
  t4 := Tryz.underlying4
  a4 := Tryz.isAgg4
  z4 := Tryz.sizeOf4
  v4 := Tryz.zeroValue4
  t9 := Tryz.underlying9
  a9 := Tryz.isAgg9
  z9 := Tryz.sizeOf9
  v9 := Tryz.zeroValue9
  t20 := Tryz.underlying20
  a20 := Tryz.isAgg20
  z20 := Tryz.sizeOf20
  v20 := Tryz.zeroValue20
  t31 := Tryz.underlying22
  a31 := Tryz.isAgg22
  z31 := Tryz.sizeOf22
  v31 := Tryz.zeroValue22
  t37 := Tryz.underlying82
  a37 := Tryz.isAgg82
  z37 := Tryz.sizeOf82
  v37 := Tryz.zeroValue82
  t70 := Tryz.underlying161
  a70 := Tryz.isAgg161
  z70 := Tryz.sizeOf161
  v70 := Tryz.zeroValue161
  t72 := Tryz.underlying163
  a72 := Tryz.isAgg163
  z72 := Tryz.sizeOf163
  v72 := Tryz.zeroValue163
  t75 := Tryz.underlying166
  a75 := Tryz.isAgg166
  z75 := Tryz.sizeOf166
  v75 := Tryz.zeroValue166
  t76 := Tryz.underlying167
  a76 := Tryz.isAgg167
  z76 := Tryz.sizeOf167
  v76 := Tryz.zeroValue167
  t127 := Tryz.underlying197
  a127 := Tryz.isAgg197
  z127 := Tryz.sizeOf197
  v127 := Tryz.zeroValue197
  t164 := Tryz.underlying222
  a164 := Tryz.isAgg222
  z164 := Tryz.sizeOf222
  v164 := Tryz.zeroValue222 }
theorem Tryz.extraJoin : Builder.Extra Tryz.prog Tryz.laysJoin_ren := {
  sizeBuilder := by kernel_rfl
  liesBuilder := by kernel_rfl
  t5 := Tryz.underlying5
  a5 := Tryz.isAgg5
  z5 := Tryz.sizeOf5
  v5 := Tryz.zeroValue5
  infoByte := by kernel_rfl
  cellsByte := by kernel_rfl
  sizeByte := by kernel_rfl
  neB5 := by decide }
end Go.Proofs
namespace Go.Proofs.YteephomlnbbjeaaGreatDoor
open Go Go.RowKit

def lstW (l : List (List UInt8)) : List UInt8 := Lib.join l [44, 32]
theorem Join_any (A : Option Addr) (cap : Nat) (l : List (List UInt8)) (w : World) (hl : StrsAt w A l) (hA : A = none → l = []) (hn : l.length ≤ 1000000) (hcap : l.length ≤ cap) (hlen : (lstW l).length ≤ 140737488355328) :
    Calls Tryz.prog 116 #[.slice A l.length cap, .string ⟨#[44, 32]⟩] w fun e w' => e = .returned (.string ⟨(lstW l).toArray⟩) ∧ Below w.heap.size w w' := by
  cases l with
  | nil => exact (Any.strings_Join_none Tryz.laysJoin Tryz.extraJoin A cap ⟨#[44, 32]⟩ w).mono (fun e w' h => ⟨h.1, by rw [h.2]; exact Below.refl _ _⟩)
  | cons x r =>
    obtain ⟨b, o, rfl, hc, _⟩ := hl 0 (by simp)
    have e : ((x :: r).map (fun y : List UInt8 => (⟨y.toArray⟩ : ByteArray))).map (·.data.toList) = x :: r := by
      have hf : ((fun x : ByteArray => x.data.toList) ∘ fun y : List UInt8 => (⟨y.toArray⟩ : ByteArray)) = id := funext fun y => by simp
      rw [List.map_map, hf, List.map_id]
    have h := Any.strings_Join Tryz.laysJoin Tryz.extraJoin b o cap ((x :: r).map (fun y : List UInt8 => (⟨y.toArray⟩ : ByteArray))) ⟨#[44, 32]⟩ w (fun j y hj => by
      rw [List.getElem?_map] at hj
      have hjl : j < (x :: r).length := by
        rcases Nat.lt_or_ge j (x :: r).length with h | h
        · exact h
        · rw [List.getElem?_eq_none h] at hj; cases hj
      rw [List.getElem?_eq_getElem hjl] at hj
      cases hj
      obtain ⟨b', o', hA', hc', _⟩ := hl j hjl
      cases hA'
      exact hc') (lt_of_cell hc) (by simp at hn ⊢; omega) (by simpa using hcap) (by rw [e]; exact hlen)
    rw [e, List.length_map] at h
    exact h
theorem list_any (A : Option Addr) (cap : Nat) (l : List (List UInt8)) (w : World) (hl : StrsAt w A l) (hA : A = none → l = []) (hn : l.length ≤ 1000000) (hcap : l.length ≤ cap) (hlen : (lstW l).length ≤ 140737488355328) :
    Calls Tryz.prog 61 #[.slice A l.length cap] w fun e w' => e = .returned (.string ⟨(lstW l).toArray⟩) ∧ Below w.heap.size w w' := by
  have hJ := Join_any A cap l w hl hA hn hcap hlen
  clear hl hA hn hcap hlen
  generalize lstW l = v at *
  go_enter Tryz.func61, Tryz.ntmps61
  go_wp2_with fail
  refine hJ.mono ?_
  rintro e w1 ⟨rfl, hb⟩
  go_wp2
  go_ret
  exact ⟨rfl, hb⟩
end Go.Proofs.YteephomlnbbjeaaGreatDoor

namespace Go.Proofs.YteephomlnbbjeaaGreatDoor
open Go Go.RowKit

theorem lens_le (M : Nat) : ∀ l : List (List UInt8), (∀ x ∈ l, x.length ≤ M) → Lib.lens l ≤ l.length * M
  | [], _ => by simp [Lib.lens]
  | x :: l, h => by
    have h1 := lens_le M l (fun y hy => h y (List.mem_cons_of_mem _ hy))
    have h2 := h x (List.mem_cons_self ..)
    have e : Lib.lens (x :: l) = x.length + Lib.lens l := rfl
    rw [e, List.length_cons, Nat.add_mul]; omega
theorem lstW_le (M : Nat) (l : List (List UInt8)) (h : ∀ x ∈ l, x.length ≤ M) : (lstW l).length ≤ l.length * (M + 2) := by
  cases l with
  | nil => simp [lstW, Lib.join]
  | cons x r =>
    have h1 := lens_le M (x :: r) h
    unfold lstW
    rw [Lib.join_length]
    simp only [List.length_cons, List.length_nil] at *
    rw [Nat.mul_add]; omega
def txtW (p : Pr) : List UInt8 := [60] ++ lstW (letS p.k.toNat) ++ [32, 124, 32] ++ lstW (p.rels.map textW) ++ [62]
/-- The first n texts, then empty strings. -/
def txP (l : List (List UInt8)) (n : Nat) : List (List UInt8) := (l.take n).map textW ++ List.replicate (l.length - n) []
theorem txP_len (l : List (List UInt8)) (n : Nat) (h : n ≤ l.length) : (txP l n).length = l.length := by simp [txP]; omega
theorem txP_set (l : List (List UInt8)) (n : Nat) (h : n < l.length) : (txP l n).set n (textW l[n]) = txP l (n + 1) := by
  unfold txP
  have h1 : ((l.take n).map textW).length = n := by simp; omega
  rw [List.set_append, if_neg (by omega), h1, Nat.sub_self, show l.length - n = (l.length - (n + 1)) + 1 by omega, List.replicate_succ, List.set_cons_zero, List.take_succ_eq_append_getElem h, List.map_append, List.append_assoc]
  rfl
theorem txP_end (l : List (List UInt8)) : txP l l.length = l.map textW := by simp [txP]
theorem txP_start (l : List (List UInt8)) : txP l 0 = List.replicate l.length [] := by simp [txP]

set_option maxHeartbeats 2000000 in
set_option maxRecDepth 100000 in
theorem Text_any (p : Pr) (R : Option Addr) (rc : Nat) (w : World) (ht : Tabs w) (hr : StrsAt w R p.rels) (hm : p.rels.length ≤ maxLen) (htx : chkP p = 0 → ∀ r ∈ p.rels, (textW r).length ≤ 100000) :
    Calls Tryz.prog 16 #[prV p.k R p.rels.length rc] w fun e w' => e = .returned (.tuple #[.string ⟨(if chkP p = 0 then txtW p else []).toArray⟩, .int .i64 (chkP p)]) ∧ Below w.heap.size w w' := by
  have HBX := Lib.hid (Boxd.start w (prC p.k R p.rels.length rc) 24)
  have HT := Lib.hid ht
  have HR := Lib.hid hr
  have hCK := Check_any p R rc (w.alloc (.cells (prC p.k R p.rels.length rc) 24)) (HT.out.on HBX.out.old) (HR.out.below HBX.out.old) hm
  clear ht hr hm
  by_cases hc : chkP p = 0
  · have HTX := Lib.hid (htx hc)
    have HWW := Lib.hid (chkP_words hc)
    have HP := Lib.hid (chkP_rels hc)
    have HZ : Hid ((if chkP p = 0 then txtW p else []) = txtW p) := Lib.hid (if_pos hc)
    rw [if_pos hc, hc]
    rw [hc] at hCK
    clear HZ
    have h60 := HP.out.2.2.1
    obtain ⟨i0, hi, hz0, hz1, hz2⟩ := info_parts Tryz.info9
    clear hc htx
    go_enter Tryz.func16, Tryz.ntmps16
    go_wp2_with fail
    refine hCK.mono ?_
    rintro e w1 ⟨rfl, hb⟩
    have HX := Lib.hid (HBX.out.on hb)
    have c0 := HX.out.cell 0
    have c1 := HX.out.cell 1
    simp only [List.getElem?_toArray, List.getElem?_cons_zero, List.getElem?_cons_succ] at c0 c1
    clear hb hCK
    go_wp2_with (at_make; refine wpList_make_full _ rfl _ _ 22 rfl w1.heap.size 9 i0 (.string ⟨#[]⟩) 1 Tryz.underlying22 hi hz0 hz1 _ _ _ _ p.rels.length rfl rfl rfl rfl ?b2 ?b3 (Nat.le_refl _) ?_)
    case b2 => rw [hz2]; omega
    case b3 => unfold maxLen; omega
    intro w0 hown0 hgrow0
    have HO0 : Hid (w0.ownsRow w1.heap.size 9 1 (.slice (some ⟨w1.heap.size, 0, none⟩) p.rels.length p.rels.length) p.rels.length (ss (txP p.rels 0))) := Lib.hid (by
      have : (madeCells #[Value.string ⟨#[]⟩] p.rels.length).toList = ss (txP p.rels 0) := by
        rw [toList_madeCells_one, txP_start]
        simp [ss]
      rw [← this]; exact hown0)
    have HB0 := Lib.hid ((Below.refl w1.heap.size w1).grown hgrow0 (Nat.le_refl _) (fun k h => by cases h))
    have HX0 := Lib.hid (HX.out.on HB0.out)
    have d0 := HX0.out.cell 0
    have d1 := HX0.out.cell 1
    simp only [List.getElem?_toArray, List.getElem?_cons_zero, List.getElem?_cons_succ] at d0 d1
    clear hown0 hgrow0 hi hz0 hz1 hz2
    go_wp2
    go_loopw [6, 7, 20] (fun _ _ i wr => ∃ n : Nat, n ≤ p.rels.length ∧ i = .int .i64 (n : Int) ∧ Hid (wr.ownsRow w1.heap.size 9 1 (.slice (some ⟨w1.heap.size, 0, none⟩) p.rels.length p.rels.length) p.rels.length (ss (txP p.rels n))) ∧ Hid (Below w1.heap.size w1 wr))
      (fun _ _ i _ => p.rels.length - (intOf i).toNat)
    case atStart => exact ⟨0, Nat.zero_le _, rfl, HO0, HB0⟩
    case round =>
      obtain ⟨n, hn, rfl, HO, HB⟩ := hrel
      have HXr := Lib.hid (HX.out.on HB.out)
      by_cases hlt : n < p.rels.length
      · have hlen : (ss (txP p.rels n)).length = p.rels.length := by rw [ss_len, txP_len p.rels n hn]
        have HSET := Lib.hid (txP_set p.rels n hlt)
        obtain ⟨b, o, hRb, hcl, hsl⟩ := HR.out.below HXr.out.old n hlt
        subst hRb
        have hT := Text_yes ⟨(p.rels[n]).toArray⟩ wr (HT.out.on HXr.out.old) (HWW.out _ (List.getElem_mem hlt))
        change Calls Tryz.prog 60 #[.string ⟨(p.rels[n]).toArray⟩] wr (fun e w' => e = .returned (.string ⟨(textW p.rels[n]).toArray⟩) ∧ Below wr.heap.size wr w') at hT
        generalize textW p.rels[n] = tx at *
        generalize p.rels[n] = r at *
        go_wp2_with fail
        refine hT.mono ?_
        rintro e w2 ⟨rfl, hb2⟩
        have HO2 := Lib.hid (own_on HO.out hb2)
        have HB2 := Lib.hid (HB.out.trans (hb2.mono HB.out.size))
        have hc := HO2.out.cellAt n (by omega)
        have hf := HO2.out.frozenAt n
        have HST := Lib.hid (HO2.out.stored n (.string ⟨tx.toArray⟩))
        rw [List.getElem?_eq_getElem (by omega)] at hc
        have hg2 := (HO2.out.lt _ rfl).2
        generalize (ss (txP p.rels n))[n]'(by omega) = v0 at hc
        clear hb2 hT hlen
        go_wp2
        go_roundw
        case rel => exact ⟨n + 1, by omega, by go_num, Lib.hid (by rw [← HSET.out, ss_set]; exact HST.out.1), Lib.hid (HB2.out.trans (below_set HST.out.2 w1.heap.size (Nat.le_refl _) (Nat.le_of_lt hg2)))⟩
        case measure => simp [intOf]; omega
      · obtain rfl : n = p.rels.length := by omega
        have HO2 : Hid (wr.ownsRow w1.heap.size 9 1 (.slice (some ⟨w1.heap.size, 0, none⟩) p.rels.length p.rels.length) p.rels.length (ss (p.rels.map textW))) := Lib.hid (by rw [← txP_end]; exact HO.out)
        have HTL : Hid (∀ x ∈ p.rels.map textW, x.length ≤ 100000) := Lib.hid (fun x hx => by obtain ⟨y, hy, rfl⟩ := List.mem_map.1 hx; exact HTX.out y hy)
        have HML : Hid ((p.rels.map textW).length = p.rels.length) := Lib.hid (by simp)
        obtain ⟨k, hk⟩ := Int.eq_ofNat_of_zero_le (show 0 ≤ p.k by have := HP.out.1; omega)
        have hk8 : k ≤ 8 := by have := HP.out.2.1; omega
        have HTW : Hid (txtW p = [60] ++ lstW (letS k) ++ [32, 124, 32] ++ lstW (p.rels.map textW) ++ [62]) := Lib.hid (by unfold txtW; rw [hk]; rfl)
        have hl1 : (lstW (letS k)).length ≤ 10000000 := by
          have h := lstW_le 100000 (letS k) (fun x hx => isW_len (letS_isW hk8 x hx))
          rw [letS_len] at h
          have : k * 100002 ≤ 8 * 100002 := Nat.mul_le_mul_right _ hk8
          omega
        have hl2 : (lstW (p.rels.map textW)).length ≤ 10000000 := by
          have h := lstW_le 100000 _ HTL.out
          rw [HML.out] at h
          have : p.rels.length * 100002 ≤ 60 * 100002 := Nat.mul_le_mul_right _ h60
          omega
        have hLT := letters_any k wr (HT.out.on HXr.out.old) hk8
        have e0 := HXr.out.cell 0
        simp only [List.getElem?_toArray, List.getElem?_cons_zero, List.getElem?_cons_succ] at e0
        rw [hk] at e0
        have hLL := letS_len k
        have HLS : Hid (∀ (A : Option Addr) (c : Nat) (X : World), X.ownsRow wr.heap.size 9 1 (.slice A k c) k (ss (letS k)) → Calls Tryz.prog 61 #[.slice A k c] X fun e w' => e = .returned (.string ⟨(lstW (letS k)).toArray⟩) ∧ Below X.heap.size X w') := Lib.hid (fun A c X h => by
          have h2 := list_any A c (letS k) X (strsAt_own h (letS_short hk8)) (fun hA => by subst hA; have := own_none h; subst this; rfl) (by omega) (by
            rw [hLL]
            rcases own_shape h with ⟨_, h3, h4⟩ | ⟨g, h3, _⟩
            · omega
            · subst h3; exact (own_cap0 h).1) (by omega)
          rw [hLL] at h2; exact h2)
        have HLR : Hid (∀ X : World, Below wr.heap.size wr X → Calls Tryz.prog 61 #[.slice (some ⟨w1.heap.size, 0, none⟩) p.rels.length p.rels.length] X fun e w' => e = .returned (.string ⟨(lstW (p.rels.map textW)).toArray⟩) ∧ Below X.heap.size X w') := Lib.hid (fun X hX => by
          have h2 := list_any (some ⟨w1.heap.size, 0, none⟩) p.rels.length (p.rels.map textW) X ((strsAt_own HO2.out (fun x hx => by have := HTL.out x hx; omega)).below hX) (fun hA => by cases hA) (by rw [HML.out]; omega) (by rw [HML.out]; exact Nat.le_refl _) (by omega)
          rw [HML.out] at h2; exact h2)
        generalize lstW (letS k) = g1 at *
        generalize lstW (p.rels.map textW) = g2 at *
        have f1 : ∀ w, (Op.stringOp .add ⟨#[60]⟩ ⟨g1.toArray⟩).run Tryz.prog w = .ok (.string ⟨([60] ++ g1).toArray⟩) w := fun w => by
          rw [run_string_add_sum w _ _ (by rw [size_mk g1]; have : (ByteArray.mk #[60]).size = 1 := rfl; omega)]; congr 2
        have f2 : ∀ w, (Op.stringOp .add ⟨([60] ++ g1).toArray⟩ ⟨#[32, 124, 32]⟩).run Tryz.prog w = .ok (.string ⟨([60] ++ g1 ++ [32, 124, 32]).toArray⟩) w := fun w => by
          rw [run_string_add_sum w _ _ (by rw [size_mk]; have : (ByteArray.mk #[32, 124, 32]).size = 3 := rfl; simp; omega)]; congr 2
        have f3 : ∀ w, (Op.stringOp .add ⟨([60] ++ g1 ++ [32, 124, 32]).toArray⟩ ⟨g2.toArray⟩).run Tryz.prog w = .ok (.string ⟨([60] ++ g1 ++ [32, 124, 32] ++ g2).toArray⟩) w := fun w => by
          rw [run_string_add_sum w _ _ (by rw [size_mk, size_mk]; simp; omega)]; congr 2
        have f4 : ∀ w, (Op.stringOp .add ⟨([60] ++ g1 ++ [32, 124, 32] ++ g2).toArray⟩ ⟨#[62]⟩).run Tryz.prog w = .ok (.string ⟨([60] ++ g1 ++ [32, 124, 32] ++ g2 ++ [62]).toArray⟩) w := fun w => by
          rw [run_string_add_sum w _ _ (by rw [size_mk]; have : (ByteArray.mk #[62]).size = 1 := rfl; simp; omega)]; congr 2
        have HF2 := Lib.hid f2
        have HF3 := Lib.hid f3
        have HF4 := Lib.hid f4
        clear f2 f3 f4
        go_wp2_with fail
        refine hLT.mono ?_
        rintro e w2 ⟨A, cap, rfl, hown, hb2⟩
        rw [hLL] at hown
        have HOL := Lib.hid hown
        have HB2 := Lib.hid hb2
        clear hown hb2 hLT
        rw [hLL]
        go_wp2_with fail
        refine (HLS.out A cap w2 HOL.out).mono ?_
        rintro e w3 ⟨rfl, hb3⟩
        have HB3 := Lib.hid (HB2.out.trans (hb3.mono HB2.out.size))
        clear hb3
        have f2 := HF2.out
        generalize [60] ++ g1 = a1 at *
        have f3 := HF3.out
        generalize a1 ++ [32, 124, 32] = a2 at *
        have f4 := HF4.out
        generalize a2 ++ g2 = a3 at *
        go_wp2_with fail
        refine (HLR.out w3 HB3.out).mono ?_
        rintro e w4 ⟨rfl, hb4⟩
        have HB4 := Lib.hid (HXr.out.on (HB3.out.trans (hb4.mono HB3.out.size)))
        clear hb4
        go_wp2
        go_ret2
        exact ⟨by rw [HTW.out]; rfl, HB4.out.old⟩
  · have hne : (chkP p != 0) = true := by simpa using hc
    have HZ : Hid ((if chkP p = 0 then txtW p else []) = []) := Lib.hid (if_neg hc)
    clear htx
    generalize (if chkP p = 0 then txtW p else []) = z at *
    generalize chkP p = c at *
    clear hc
    go_enter Tryz.func16, Tryz.ntmps16
    go_wp2_with fail
    refine hCK.mono ?_
    rintro e w1 ⟨rfl, hb⟩
    have HX := Lib.hid (HBX.out.on hb)
    clear hb hCK
    go_wp2
    go_ret2
    exact ⟨by rw [HZ.out]; rfl, HX.out.old⟩
end Go.Proofs.YteephomlnbbjeaaGreatDoor

namespace Go.Proofs.YteephomlnbbjeaaGreatDoor
open Go Go.RowKit

theorem textF_len : ∀ (f : Nat) (b : Bool) (l : List UInt8), l.length ≤ 1000000 → (textF f b l).length ≤ 23 * l.length
  | 0, _, _, _ => by simp [textF]
  | _ + 1, _, [], _ => by simp [textF]
  | f + 1, b, c :: t, h => by
    have hr1 := runN_pos c t
    have hr2 := runN_le (c :: t)
    have hd : ((c :: t).drop (runN (c :: t))).length = (c :: t).length - runN (c :: t) := List.length_drop
    have ih := textF_len f false ((c :: t).drop (runN (c :: t))) (by omega)
    have hit := itoa_len (runN (c :: t)) (by omega)
    have e1 : (if b then ([] : List UInt8) else [32]).length ≤ 1 := by split <;> simp
    have e2 : (if 1 < runN (c :: t) then (94 : UInt8) :: Lib.itoa (runN (c :: t)) else []).length ≤ 21 := by split <;> simp; omega
    unfold textF
    simp only [List.length_append, List.length_cons, List.length_nil] at *
    omega
theorem textW_len (l : List UInt8) (h : l.length ≤ 1000000) : (textW l).length ≤ 23 * l.length + 1 := by
  unfold textW
  split
  · simp
  · have := textF_len l.length true l h; omega
theorem Text_all (p : Pr) (R : Option Addr) (rc : Nat) (w : World) (ht : Tabs w) (hr : StrsAt w R p.rels) (hm : p.rels.length ≤ maxLen) :
    Calls Tryz.prog 16 #[prV p.k R p.rels.length rc] w fun e w' => e = .returned (.tuple #[.string ⟨(if chkP p = 0 then txtW p else []).toArray⟩, .int .i64 (chkP p)]) ∧ Below w.heap.size w w' :=
  Text_any p R rc w ht hr hm (fun hc r hr2 => by
    have h2 := List.any_eq_false.1 (chkP_rels hc).2.2.2.1 r hr2
    have h3 : r.length ≤ 200 := by simpa [longB] using h2
    have := textW_len r (by omega)
    omega)
end Go.Proofs.YteephomlnbbjeaaGreatDoor

namespace Go.Proofs.YteephomlnbbjeaaGreatDoor
open Go Go.RowKit Go.Shelf
attribute [local go_sem] Oper.semAt_some

theorem rotations_any (s : ByteArray) (w : World) :
    Calls Tryz.prog 74 #[.string s] w fun e w' => e = .returned (.func (.func 126) #[] #[.pointer (some ⟨w.heap.size, 0, none⟩)]) ∧ w' = w.alloc (.cells #[.string s] 9) := by
  go_enter Tryz.func74, Tryz.ntmps74
  go_wp2
  go_ret
  exact ⟨rfl, rfl⟩
abbrev Kr (s : ByteArray) := { k : Nat // k < s.size }
def rotA (l : List UInt8) (k : Nat) : List UInt8 := l.drop k ++ l.take k

set_option maxRecDepth 100000 in
set_option maxHeartbeats 2000000 in
theorem rotr_in (n : Nat) (hn : 1 ≤ n) (s : ByteArray) (hs : s.size ≤ 1000000) (l Bn n₀ : Nat) (J Jx : List (Kr s) → World → Prop)
    (hY : ∀ pre x W, J pre W → pre.length < s.size → YieldAt Fence.wide (n - 1) Tryz.prog l #[.string ⟨(rotA s.data.toList x.1).toArray⟩] W fun e W' =>
      (e = .returned (.bool true) ∧ J (pre ++ [x]) W' ∧ Below n₀ W W') ∨ (e = .returned (.bool false) ∧ Jx (pre ++ [x]) W'))
    (hJd : ∀ pre W, J pre W → J pre W.drew)
    (W : World) (hBn0 : Bn < n₀) (hBn : W.cell? ⟨Bn, 0, none⟩ = some (.string s)) (h0 : J [] W) :
    CallsIn Fence.wide n Tryz.prog 126 #[.func (.yield l) #[] #[], .pointer (some ⟨Bn, 0, none⟩)] W fun e W' => (∃ v, e = .returned v) ∧
      ((∃ ys : List (Kr s), ys.map (·.1) = List.range' 0 s.size ∧ J ys W') ∨ (∃ pre : List (Kr s), pre.map (·.1) = List.range' 0 pre.length ∧ 0 < pre.length ∧ Jx pre W')) := by
  refine callsIn_of_wp Tryz.func126 rfl trivial ?_ rfl
  simp only [Tryz.ntmps126, List.size_toArray, List.length_cons, List.length_nil, Nat.reduceAdd, Nat.reduceSub, Array.replicate_succ, Array.replicate_zero, List.push_toArray, List.append_toArray, List.nil_append, List.cons_append]
  gi_wp2
  gi_loopw [3, 6] (fun _ p wr => ∃ (pre : List (Kr s)), pre.length ≤ s.size ∧ p = .int .i64 pre.length ∧ pre.map (·.1) = List.range' 0 pre.length ∧ wr.cell? ⟨Bn, 0, none⟩ = some (.string s) ∧ J pre wr)
    (fun _ p wr => s.size - (intOf p).toNat)
  case atStart =>
    exact ⟨[], by simp, rfl, rfl, hBn, h0⟩
  case round =>
    obtain ⟨pre, hpl, rfl, hpm, hc, hJs⟩ := hrel
    by_cases hlt : pre.length < s.size
    · obtain ⟨fn, tmps, assign, body, hy, hR⟩ := hY pre ⟨pre.length, hlt⟩ wr.drew (hJd _ _ hJs) hlt
      have HPM := Lib.hid hpm
      have HNEW : Hid ((pre ++ [(⟨pre.length, hlt⟩ : Kr s)]).map (·.1) = List.range' 0 (pre ++ [(⟨pre.length, hlt⟩ : Kr s)]).length) := Lib.hid (by rw [List.map_append, HPM.out, List.length_append, List.length_cons, List.length_nil, List.range'_concat]; simp)
      have hd : wr.drew.cell? ⟨Bn, 0, none⟩ = some (.string s) := hc
      clear hpm
      have hsl : ((pre.length : Nat) : Int) ≤ (s.size : Int) := by omega
      have hsl2 : pre.length ≤ s.size := hpl
      have fadd : ∀ w, (Op.stringOp .add (s.extract pre.length s.size) (s.extract 0 pre.length)).run Tryz.prog w = .ok (.string ⟨(rotA s.data.toList pre.length).toArray⟩) w := fun w => by
        rw [run_string_add_sum w _ _ (by simp; omega)]
        congr 2
        refine ba_ext ?_
        simp [rotA]
        exact List.take_of_length_le (by simp)
      gi_wp2
      have hmi : Tryz.prog.follows .mixedOrders = true := by kernel_rfl
      gi_region_with_o (refine hR.mono ?_; intro e W3 hE; obtain ⟨bq, rfl, hbq⟩ : ∃ bq : Bool, e = .returned (.bool bq) ∧ ((bq = true ∧ J (pre ++ [⟨pre.length, hlt⟩]) W3 ∧ Below n₀ wr.drew W3) ∨ (bq = false ∧ Jx (pre ++ [⟨pre.length, hlt⟩]) W3)) := (by
        rcases hE with ⟨h1, h2, h3⟩ | ⟨h1, h2⟩
        · exact ⟨true, h1, .inl ⟨rfl, h2, h3⟩⟩
        · exact ⟨false, h1, .inr ⟨rfl, h2⟩⟩))
      all_goals (
        rcases hbq with ⟨rfl, hJ3, hk3⟩ | ⟨rfl, hJx3⟩
        · have hc3 : W3.cell? ⟨Bn, 0, none⟩ = some (.string s) := (hk3.cell (p := ⟨Bn, 0, none⟩) hBn0).trans hc
          gi_wp2
          go_roundw
          case rel => exact ⟨pre ++ [⟨pre.length, hlt⟩], by simp; omega, by simp, HNEW.out, hc3, hJ3⟩
          case measure => simp [intOf]; omega
        · gi_wp2
          refine bodyPost_ret (results_none rfl _ _ _) rfl ?_
          exact ⟨⟨_, rfl⟩, .inr ⟨pre ++ [(⟨pre.length, hlt⟩ : Kr s)], (by have h := HNEW.out; simpa only [List.unattach] using h), by simp, hJx3⟩⟩)
    · have he : pre.length = s.size := by omega
      have HE := Lib.hid he
      have HPM := Lib.hid hpm
      clear he hpm
      gi_wp2
      go_end0
      exact ⟨⟨_, rfl⟩, .inl ⟨pre, by rw [HPM.out, HE.out], hJs⟩⟩

theorem rotr_stops (n : Nat) (hn : 1 ≤ n) (s : ByteArray) (hs : s.size ≤ 1000000) (Bn n₀ : Nat) (w : World) (hw : w.heap.size = n₀) (hBn0 : Bn < n₀) (hBn : w.cell? ⟨Bn, 0, none⟩ = some (.string s)) :
    SeqStopsK Fence.wide n Tryz.prog 126 #[.pointer (some ⟨Bn, 0, none⟩)] (fun x : Kr s => #[.string ⟨(rotA s.data.toList x.1).toArray⟩]) (Below n₀)
      (fun ys => ys.map (·.1) = List.range' 0 s.size) (fun pre => pre.map (·.1) = List.range' 0 pre.length ∧ 0 < pre.length) s.size w := by
  intro l J Jx W hW hJ hJx hY h0
  refine (rotr_in n hn s hs l Bn n₀ J Jx hY (fun pre W1 h => ?_) W hBn0 ((hW.cell (p := ⟨Bn, 0, none⟩) (by rw [hw]; exact hBn0)).trans hBn) h0).mono ?_
  · exact hJ pre W1 W1.drew none h ⟨rfl, rfl, rfl, Nat.le_refl _, fun _ _ _ => rfl⟩ (fun r hr => by cases hr)
  · rintro e W' ⟨he, h⟩
    refine ⟨he, ?_⟩
    rcases h with ⟨ys, h1, h2⟩ | ⟨pre, h1, h2, h3⟩
    · exact .inl ⟨ys, h1, h2⟩
    · exact .inr ⟨pre, ⟨h1, h2⟩, h3⟩
end Go.Proofs.YteephomlnbbjeaaGreatDoor

namespace Go.Proofs.YteephomlnbbjeaaGreatDoor
open Go Go.RowKit Go.Maps Go.Sort

theorem idx_inj : ∀ c d : UInt8, 0 ≤ idx c → idx c = idx d → c = d := by
  have h : ∀ n : Nat, n < 256 → 0 ≤ idx (UInt8.ofNat n) → let_ (idx (UInt8.ofNat n)) = UInt8.ofNat n := by decide +kernel
  intro c d hc he
  have h1 := h c.toNat c.toNat_lt (by simpa using hc)
  have h2 := h d.toNat d.toNat_lt (by rw [he] at hc; simpa using hc)
  simp at h1 h2
  rw [← h1, ← h2, he]

theorem cI_lt {x y : Int} (h : x < y) : Lib.compareInt x y = -1 := by simp [Lib.compareInt, h]
theorem cI_gt {x y : Int} (h : y < x) : Lib.compareInt x y = 1 := by simp [Lib.compareInt, h]; omega
theorem cI_eq {x : Int} : Lib.compareInt x x = 0 := by simp [Lib.compareInt]
theorem cI_neg (x y : Int) : Lib.compareInt y x = -Lib.compareInt x y := by
  rcases Int.lt_trichotomy x y with h | h | h
  · rw [cI_lt h, cI_gt h]; rfl
  · subst h; rw [cI_eq]; rfl
  · rw [cI_lt h, cI_gt h]
theorem cI_bd (x y : Int) : Lib.compareInt x y = -1 ∨ Lib.compareInt x y = 0 ∨ Lib.compareInt x y = 1 := by
  rcases Int.lt_trichotomy x y with h | h | h
  · exact .inl (cI_lt h)
  · subst h; exact .inr (.inl cI_eq)
  · exact .inr (.inr (cI_gt h))
theorem cI_zero {x y : Int} (h : Lib.compareInt x y = 0) : x = y := by
  rcases Int.lt_trichotomy x y with k | k | k
  · rw [cI_lt k] at h; simp at h
  · exact k
  · rw [cI_gt k] at h; simp at h
theorem cI_le {x y : Int} : Lib.compareInt x y ≤ 0 ↔ x ≤ y := by
  rcases Int.lt_trichotomy x y with k | k | k
  · rw [cI_lt k]; simp; omega
  · subst k; rw [cI_eq]; simp
  · rw [cI_gt k]; simp; omega

theorem lexI_cons (c d : UInt8) (u v : List UInt8) : lexI (c :: u) (d :: v) = if c = d then lexI u v else Lib.compareInt (idx c) (idx d) := rfl
theorem lexI_neg : ∀ u v : List UInt8, lexI v u = -lexI u v
  | [], [] => rfl
  | [], _ :: _ => rfl
  | _ :: _, [] => rfl
  | c :: u, d :: v => by
    rw [lexI_cons, lexI_cons]
    by_cases h : c = d
    · rw [if_pos h, if_pos h.symm]; exact lexI_neg u v
    · rw [if_neg h, if_neg (fun e => h e.symm)]; exact cI_neg _ _
theorem lexI_bd : ∀ u v : List UInt8, lexI u v = -1 ∨ lexI u v = 0 ∨ lexI u v = 1
  | [], [] => .inr (.inl rfl)
  | [], _ :: _ => .inr (.inl rfl)
  | _ :: _, [] => .inr (.inl rfl)
  | c :: u, d :: v => by
    rw [lexI_cons]
    split
    · exact lexI_bd u v
    · exact cI_bd _ _
theorem lexI_self : ∀ u : List UInt8, lexI u u = 0
  | [] => rfl
  | c :: u => by rw [lexI_cons, if_pos rfl]; exact lexI_self u
def Ltr (u : List UInt8) : Prop := ∀ c ∈ u, 0 ≤ idx c
theorem lexI_zero : ∀ u v : List UInt8, Ltr u → u.length = v.length → lexI u v = 0 → u = v
  | [], [], _, _, _ => rfl
  | [], _ :: _, _, h, _ => by simp at h
  | _ :: _, [], _, h, _ => by simp at h
  | c :: u, d :: v, hu, hl, h => by
    rw [lexI_cons] at h
    split at h
    · rename_i e
      subst e
      rw [lexI_zero u v (fun x hx => hu x (List.mem_cons_of_mem _ hx)) (by simpa using hl) h]
    · rename_i hn
      exact absurd (idx_inj c d (hu c (List.mem_cons_self ..)) (cI_zero h)) hn
theorem lexI_trans : ∀ u v w : List UInt8, Ltr u → Ltr v → u.length = v.length → v.length = w.length → lexI u v ≤ 0 → lexI v w ≤ 0 → lexI u w ≤ 0
  | [], [], _, _, _, _, _, _, _ => by simp [lexI]
  | [], _ :: _, _, _, _, h, _, _, _ => by simp at h
  | _ :: _, [], _, _, _, h, _, _, _ => by simp at h
  | _ :: _, _ :: _, [], _, _, _, h, _, _ => by simp at h
  | c :: u, d :: v, e :: w, hu, hv, h1, h2, k1, k2 => by
    rw [lexI_cons] at k1 k2 ⊢
    by_cases p : c = d
    · subst p
      rw [if_pos rfl] at k1
      by_cases q : c = e
      · rw [if_pos q] at k2 ⊢
        exact lexI_trans u v w (fun x hx => hu x (List.mem_cons_of_mem _ hx)) (fun x hx => hv x (List.mem_cons_of_mem _ hx)) (by simpa using h1) (by simpa using h2) k1 k2
      · rw [if_neg q] at k2 ⊢; exact k2
    · rw [if_neg p] at k1
      have hcd := cI_le.1 k1
      have hc := hu c (List.mem_cons_self ..)
      by_cases q : d = e
      · subst q; rw [if_neg p]; exact k1
      · rw [if_neg q] at k2
        have hde := cI_le.1 k2
        by_cases r : c = e
        · subst r
          exact absurd (idx_inj c d hc (by omega)) p
        · rw [if_neg r]; exact cI_le.2 (by omega)
theorem lexI_pre : ∀ x u v : List UInt8, lexI (x ++ u) (x ++ v) = lexI u v
  | [], _, _ => rfl
  | c :: x, u, v => by rw [List.cons_append, List.cons_append, lexI_cons, if_pos rfl]; exact lexI_pre x u v
theorem lexI_post : ∀ u v y : List UInt8, u.length = v.length → lexI (u ++ y) (v ++ y) = lexI u v
  | [], [], y, _ => by simp [lexI_self, lexI]
  | [], _ :: _, _, h => by simp at h
  | _ :: _, [], _, h => by simp at h
  | c :: u, d :: v, y, h => by
    rw [List.cons_append, List.cons_append, lexI_cons, lexI_cons]
    split
    · exact lexI_post u v y (by simpa using h)
    · rfl

theorem isW_ltr {u : List UInt8} (h : isW u = true) : Ltr u := by
  unfold isW at h
  simp only [Bool.and_eq_true, List.all_eq_true, letterB, decide_eq_true_eq] at h
  exact fun c hc => (h.2 c hc).1
theorem isW_of {u : List UInt8} (hl : u.length ≤ 100000) (h : u.all (letterB 8) = true) : isW u = true := by simp [isW, hl, h]
theorem isW_all {u : List UInt8} (h : isW u = true) : u.all (letterB 8) = true := by unfold isW at h; simp only [Bool.and_eq_true] at h; exact h.2

theorem cmp_of {u v : List UInt8} (hu : isW u = true) (hv : isW v = true) : cmpW u v = if u.length = v.length then lexI u v else Lib.compareInt u.length v.length := by
  unfold cmpW; rw [if_pos ⟨hu, hv⟩]
theorem cmp_neg {u v : List UInt8} (hu : isW u = true) (hv : isW v = true) : cmpW v u = -cmpW u v := by
  rw [cmp_of hu hv, cmp_of hv hu]
  by_cases h : u.length = v.length
  · rw [if_pos h, if_pos h.symm]; exact lexI_neg u v
  · rw [if_neg h, if_neg (fun e => h e.symm)]; exact cI_neg _ _
theorem cmp_bd {u v : List UInt8} (hu : isW u = true) (hv : isW v = true) : cmpW u v = -1 ∨ cmpW u v = 0 ∨ cmpW u v = 1 := by
  rw [cmp_of hu hv]
  split
  · exact lexI_bd u v
  · exact cI_bd _ _
theorem cmp_zero {u v : List UInt8} (hu : isW u = true) (hv : isW v = true) (h : cmpW u v = 0) : u = v := by
  rw [cmp_of hu hv] at h
  split at h
  · rename_i e; exact lexI_zero u v (isW_ltr hu) e h
  · rename_i e; exact absurd (by exact_mod_cast cI_zero h) e
theorem cmp_self {u : List UInt8} (hu : isW u = true) : cmpW u u = 0 := by rw [cmp_of hu hu, if_pos rfl]; exact lexI_self u
theorem cmp_len {u v : List UInt8} (hu : isW u = true) (hv : isW v = true) (h : cmpW u v ≤ 0) : u.length ≤ v.length := by
  rw [cmp_of hu hv] at h
  split at h
  · omega
  · have := cI_le.1 h; omega
theorem cmp_trans {u v w : List UInt8} (hu : isW u = true) (hv : isW v = true) (hw : isW w = true) (h1 : cmpW u v ≤ 0) (h2 : cmpW v w ≤ 0) : cmpW u w ≤ 0 := by
  have l1 := cmp_len hu hv h1
  have l2 := cmp_len hv hw h2
  rw [cmp_of hu hw]
  split
  · rename_i e
    rw [cmp_of hu hv, if_pos (by omega)] at h1
    rw [cmp_of hv hw, if_pos (by omega)] at h2
    exact lexI_trans u v w (isW_ltr hu) (isW_ltr hv) (by omega) (by omega) h1 h2
  · exact cI_le.2 (by omega)
abbrev Wrd := { l : List UInt8 // isW l = true }
instance : Inhabited Wrd := ⟨⟨[], by decide⟩⟩
def encW (x : Wrd) : Value := .string ⟨x.1.toArray⟩
def cfW (a b : Wrd) : Int := cmpW a.1 b.1
theorem ltOf_yes (x y : Wrd) : Go.Proofs.ltOf cfW x y = true ↔ cmpW x.1 y.1 < 0 := by unfold Go.Proofs.ltOf cfW; exact decide_eq_true_iff
theorem ltOf_no (x y : Wrd) : Go.Proofs.ltOf cfW x y = false ↔ ¬ cmpW x.1 y.1 < 0 := by unfold Go.Proofs.ltOf cfW; exact decide_eq_false_iff_not
theorem swoW : SWO (Go.Proofs.ltOf cfW) where
  irrefl x := by rw [ltOf_no, cmp_self x.2]; omega
  trans x y z h1 h2 := by
    rw [ltOf_yes] at *
    have h := cmp_trans x.2 y.2 z.2 (by omega) (by omega)
    rcases Int.lt_or_eq_of_le h with h3 | h3
    · exact h3
    · have e := cmp_zero x.2 z.2 h3
      have h4 := cmp_neg x.2 y.2
      have h5 : cmpW y.1 z.1 = cmpW y.1 x.1 := by rw [e]
      omega
  ntrans x y z h1 h2 := by
    rw [ltOf_no] at *
    have n1 := cmp_neg x.2 y.2
    have n2 := cmp_neg y.2 z.2
    have n3 := cmp_neg x.2 z.2
    have h := cmp_trans z.2 y.2 x.2 (by omega) (by omega)
    omega

/-- Ahead in shortlex. -/
def ltW (a b : List UInt8) : Prop := isW a = true ∧ isW b = true ∧ cmpW a b < 0
theorem ltW_irr (a : List UInt8) : ¬ ltW a a := fun h => by have := cmp_self h.1; have := h.2.2; omega
theorem ltW_asymm {a b : List UInt8} (h : ltW a b) : ¬ ltW b a := fun k => by have := cmp_neg h.1 h.2.1; have := h.2.2; have := k.2.2; omega
theorem ltW_trans {a b c : List UInt8} (h : ltW a b) (k : ltW b c) : ltW a c := by
  refine ⟨h.1, k.2.1, ?_⟩
  exact (ltOf_yes ⟨a, h.1⟩ ⟨c, k.2.1⟩).1 (swoW.trans ⟨a, h.1⟩ ⟨b, h.2.1⟩ ⟨c, k.2.1⟩ ((ltOf_yes ⟨a, h.1⟩ ⟨b, h.2.1⟩).2 h.2.2) ((ltOf_yes ⟨b, h.2.1⟩ ⟨c, k.2.1⟩).2 k.2.2))

theorem asc_one : ∀ l m : List (List UInt8), l.Pairwise ltW → m.Pairwise ltW → (∀ x, x ∈ l ↔ x ∈ m) → l = m
  | [], [], _, _, _ => rfl
  | [], b :: s, _, _, h => by have := (h b).2 (by simp); simp at this
  | a :: t, [], _, _, h => by have := (h a).1 (by simp); simp at this
  | a :: t, b :: s, h1, h2, h => by
    obtain ⟨ha, ht⟩ := List.pairwise_cons.1 h1
    obtain ⟨hb, hs⟩ := List.pairwise_cons.1 h2
    have e : a = b := by
      rcases List.mem_cons.1 ((h a).1 (by simp)) with e | k1
      · exact e
      · rcases List.mem_cons.1 ((h b).2 (by simp)) with e | k2
        · exact e.symm
        · exact absurd (ha b k2) (ltW_asymm (hb a k1))
    subst e
    refine congrArg _ (asc_one t s ht hs fun x => ⟨fun hx => ?_, fun hx => ?_⟩)
    · rcases List.mem_cons.1 ((h x).1 (List.mem_cons_of_mem _ hx)) with e | k
      · subst e; exact absurd (ha x hx) (ltW_irr x)
      · exact k
    · rcases List.mem_cons.1 ((h x).2 (List.mem_cons_of_mem _ hx)) with e | k
      · subst e; exact absurd (hb x hx) (ltW_irr x)
      · exact k

/-- Words in ascending order, each once. -/
def insA (x : List UInt8) : List (List UInt8) → List (List UInt8)
  | [] => [x]
  | y :: t => if cmpW x y < 0 then x :: y :: t else if cmpW x y = 0 then y :: t else y :: insA x t
def ascA (l : List (List UInt8)) : List (List UInt8) := l.foldr insA []

theorem insA_mem {x : List UInt8} (hx : isW x = true) : ∀ (l : List (List UInt8)), (∀ y ∈ l, isW y = true) → ∀ z, z ∈ insA x l ↔ z = x ∨ z ∈ l
  | [], _, z => by simp [insA]
  | y :: t, hl, z => by
    unfold insA
    split
    · simp
    · split
      · rename_i h0
        have e := cmp_zero hx (hl y (by simp)) h0
        subst e
        simp
      · rw [List.mem_cons, insA_mem hx t (fun y hy => hl y (List.mem_cons_of_mem _ hy)) z, List.mem_cons]
        constructor
        · rintro (h | h | h) <;> simp [h]
        · rintro (h | h | h) <;> simp [h]
theorem insA_asc {x : List UInt8} (hx : isW x = true) : ∀ (l : List (List UInt8)), (∀ y ∈ l, isW y = true) → l.Pairwise ltW → (insA x l).Pairwise ltW
  | [], _, _ => by simp [insA]
  | y :: t, hl, hp => by
    obtain ⟨hy, ht⟩ := List.pairwise_cons.1 hp
    have hyw := hl y (by simp)
    unfold insA
    split
    · rename_i h0
      refine List.pairwise_cons.2 ⟨fun z hz => ?_, hp⟩
      rcases List.mem_cons.1 hz with e | k
      · subst e; exact ⟨hx, hyw, h0⟩
      · exact ltW_trans ⟨hx, hyw, h0⟩ (hy z k)
    · split
      · exact hp
      · rename_i h0 h1
        have hn := cmp_neg hx hyw
        refine List.pairwise_cons.2 ⟨fun z hz => ?_, insA_asc hx t (fun y hy => hl y (List.mem_cons_of_mem _ hy)) ht⟩
        rcases (insA_mem hx t (fun y hy => hl y (List.mem_cons_of_mem _ hy)) z).1 hz with e | k
        · subst e; exact ⟨hyw, hx, by omega⟩
        · exact hy z k
theorem ascA_mem : ∀ (l : List (List UInt8)), (∀ y ∈ l, isW y = true) → (∀ z, z ∈ ascA l ↔ z ∈ l)
  | [], _, z => by simp [ascA]
  | x :: t, hl, z => by
    have ht := ascA_mem t (fun y hy => hl y (List.mem_cons_of_mem _ hy))
    show z ∈ insA x (ascA t) ↔ _
    rw [insA_mem (hl x (by simp)) _ (fun y hy => hl y (List.mem_cons_of_mem _ ((ht y).1 hy))), ht z, List.mem_cons]
theorem ascA_asc : ∀ (l : List (List UInt8)), (∀ y ∈ l, isW y = true) → (ascA l).Pairwise ltW
  | [], _ => by simp [ascA]
  | x :: t, hl => by
    have ht := ascA_mem t (fun y hy => hl y (List.mem_cons_of_mem _ hy))
    exact insA_asc (hl x (by simp)) _ (fun y hy => hl y (List.mem_cons_of_mem _ ((ht y).1 hy))) (ascA_asc t (fun y hy => hl y (List.mem_cons_of_mem _ hy)))
/-- What is sorted, and has no word twice, is the ascending list of its members. -/
theorem asc_of {l m : List (List UInt8)} (hw : ∀ y ∈ l, isW y = true) (hn : l.Nodup) (hs : l.Pairwise fun a b => cmpW b a ≥ 0) (hm : ∀ x, x ∈ l ↔ x ∈ m) : l = ascA m := by
  have hmw : ∀ y ∈ m, isW y = true := fun y hy => hw y ((hm y).2 hy)
  refine asc_one l _ ?_ (ascA_asc m hmw) fun x => (hm x).trans (ascA_mem m hmw x).symm
  refine (hn.and hs).imp_of_mem fun {a b} ha hb h => ⟨hw a ha, hw b hb, ?_⟩
  have n1 := cmp_neg (hw a ha) (hw b hb)
  rcases Int.lt_or_eq_of_le (show cmpW a b ≤ 0 by have := h.2; omega) with k | k
  · exact k
  · exact absurd (cmp_zero (hw a ha) (hw b hb) k) h.1

/-! The set of some words, as a map's datum. -/
def setD (l : List (List UInt8)) : DataW Unit := l.foldl (fun D x => D.put (.string x) (.lit (.bool true))) (.map [])
theorem setD_snoc (l : List (List UInt8)) (x : List UInt8) : setD (l ++ [x]) = (setD l).put (.string x) (.lit (.bool true)) := by simp [setD]
theorem key_string (x : List UInt8) : WideAt.IsKeyLit (.string x) := by simp [WideAt.IsKeyLit]
theorem setD_map (l : List (List UInt8)) : IsMap (setD l) := by
  have : ∀ (l : List (List UInt8)) (D : DataW Unit), IsMap D → IsMap (l.foldl (fun D x => D.put (.string x) (.lit (.bool true))) D) := by
    intro l
    induction l with
    | nil => exact fun D h => h
    | cons x t ih => exact fun D h => ih _ (h.put _ _)
  exact this l _ isMap_empty
theorem setD_has2 : ∀ (l : List (List UInt8)) (D : DataW Unit), IsMap D → ∀ x : List UInt8, has (l.foldl (fun D x => D.put (.string x) (.lit (.bool true))) D) (.string x) = true ↔ has D (.string x) = true ∨ x ∈ l
  | [], D, _, x => by simp
  | y :: t, D, h, x => by
    rw [List.foldl_cons, setD_has2 t _ (h.put _ _) x]
    by_cases e : x = y
    · subst e; rw [has_put_same h (key_string x)]; simp
    · rw [has_put_other (by simpa using e)]; simp [e]
theorem setD_has (l : List (List UInt8)) (x : List UInt8) : has (setD l) (.string x) = true ↔ x ∈ l := by
  have := setD_has2 l (.map []) isMap_empty x
  simpa [setD, has] using this
end Go.Proofs.YteephomlnbbjeaaGreatDoor
