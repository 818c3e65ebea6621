/-
  Our own text, in the proofs of the laws of package pres (cayleylaw03). Proved here: rows of strings of the call's own; newHomomorphism, of, image and Substitute of package pres; image of a homomorphism; Substitute of package pres; appendReduced of package pres; isRel, areCells; areCells, boundary and isDisk of package pres. Conditions: the arguments lie in memory as the slices say; bounds; the listed tables lie as the program lays them.
-/
import Derived.Test.YteephomlnbbjeaaGreatDoorJe
set_option linter.unusedVariables false
set_option linter.unusedSimpArgs false
set_option linter.unusedSectionVars false
namespace Go.Proofs.YteephomlnbbjeaaGreatDoor
open Go Go.RowKit

theorem own_on {w w' : World} {B e s n : Nat} {v : Value} {xs : List Value} (h : w.ownsRow B e s v n xs) (hb : Below w.heap.size w w') : w'.ownsRow B e s v n xs :=
  h.kept (row := none) ⟨hb.os, hb.tape, hb.output, hb.size, fun q hq _ => hb.block q hq⟩ (Classical.em _)
/-- The cells of a row of strings. -/
def ss (l : List (List UInt8)) : List Value := l.map fun x => Value.string ⟨x.toArray⟩
theorem ss_append (l m : List (List UInt8)) : ss (l ++ m) = ss l ++ ss m := by simp [ss]
theorem ss_len (l : List (List UInt8)) : (ss l).length = l.length := by simp [ss]
theorem ss_get (l : List (List UInt8)) (i : Nat) (h : i < l.length) : (ss l)[i]? = some (.string ⟨(l[i]).toArray⟩) := by simp [ss, h]
def Short (l : List (List UInt8)) : Prop := ∀ x ∈ l, x.length ≤ 140737488351232
theorem Short.app {l m : List (List UInt8)} (h1 : Short l) (h2 : Short m) : Short (l ++ m) := by
  intro x hx; rcases List.mem_append.1 hx with h | h
  · exact h1 x h
  · exact h2 x h
theorem StrsAt.short {w : World} {A : Option Addr} {l : List (List UInt8)} (h : StrsAt w A l) : Short l := by
  intro x hx
  obtain ⟨i, hi, rfl⟩ := List.getElem_of_mem hx
  obtain ⟨_, _, _, _, h⟩ := h i hi
  exact h
theorem Tryz.info9 : (Tryz.prog.info? 9).map (fun i => (i.zero, i.size, i.bytes)) = some (some (.string ⟨#[]⟩), 1, 16) := by kernel_rfl

theorem strsAt_own {w : World} {B n cap : Nat} {A : Option Addr} {l : List (List UInt8)} (h : w.ownsRow B 9 1 (.slice A n cap) n (ss l)) (hs : Short l) : StrsAt w A l := by
  intro i hi
  have hl : l.length = n := by have := h.1; simpa [ss_len] using this
  rcases h.2 with ⟨h2, h3⟩ | ⟨g, c', cur, hv, hg, hh, hnc, hcm, hcs, ht⟩
  · omega
  · simp only [Value.slice.injEq, true_and] at hv
    obtain ⟨rfl, rfl⟩ := hv
    refine ⟨g, 0, rfl, ?_, hs _ (List.getElem_mem hi)⟩
    rw [Nat.zero_add, cell_of_row w g i cur 9 (0, 0) hh]
    have : (cur.toList.take (n * 1))[i]? = (ss l)[i]? := by rw [ht]
    rw [List.getElem?_take, if_pos (by omega), ss_get l i hi] at this
    simpa using this

theorem news_two (w : World) (u v : Value) (t : TypeId) : ∀ (j : Nat) x, ([u, v] : List Value)[j]? = some x → (w.alloc (.cells #[u, v] t)).cell? ((⟨w.heap.size, 0, none⟩ : Addr).add j) = some x := by
  intro j x hx
  have hb : (w.alloc (.cells #[u, v] t)).heap[w.heap.size]? = some (.cells #[u, v] t (0, 0)) := heap_alloc_new w _
  match j, hx with
  | 0, hx =>
    simp at hx; subst hx
    have := cell_of_row (w.alloc (.cells #[u, v] t)) w.heap.size 0 #[u, v] t (0, 0) hb
    simp [Addr.add, this]
  | 1, hx =>
    simp at hx; subst hx
    have := cell_of_row (w.alloc (.cells #[u, v] t)) w.heap.size 1 #[u, v] t (0, 0) hb
    simp [Addr.add, this]

/-- append of two strings, by their literal slice, to a row of the call's own. -/
theorem append_two {ops : Array Oper} {rest : List Oper} {o : Oper} {a : Act} {Q : Exit → Act → World → Prop} (w : World) (hgd : o.guard = none) (s x : Operand)
    (ho : o.op = .call { callee := .builtin .append, args := #[s, x], argTypes := #[113, 113] })
    (B : Nat) (A : Option Addr) (n cap : Nat) (l : List (List UInt8)) (u v : List UInt8) (hs : a.eval s = .slice A n cap) (hown : w.ownsRow B 9 1 (.slice A n cap) n (ss l))
    (hx : a.eval x = .slice (some ⟨w.heap.size, 0, none⟩) 2 2) (hn : n ≤ 1000000000) (hB : B ≤ w.heap.size)
    (h : ∀ A' cap' w', w'.ownsRow B 9 1 (.slice A' (n + 2) cap') (n + 2) (ss (l ++ [u, v])) → w.grownBy w' (blk A) → Moved w A A' → wpList Tryz.prog ops Q rest (a.put o.dst (.slice A' (n + 2) cap')) w') :
    wpList Tryz.prog ops Q (o :: rest) a (w.alloc (.cells #[.string ⟨u.toArray⟩, .string ⟨v.toArray⟩] 9)) := by
  obtain ⟨i0, hi, hz0, hz1, hz2⟩ := info_parts Tryz.info9
  refine append_gen _ hgd s x 113 ho 9 i0 (.string ⟨#[]⟩) 1 16 Tryz.underlying113 hi hz0 hz1 hz2 rfl (by decide) B A n cap (ss l) hs (hown.alloc _) ⟨w.heap.size, 0, none⟩ 2 2 [.string ⟨u.toArray⟩, .string ⟨v.toArray⟩] hx rfl (news_two w _ _ _) (by intro u hu; simp at hu; rcases hu with rfl | rfl <;> rfl) (by unfold maxLen; omega) (by omega) (by simp; omega) ?_
  intro A' cap' w' hown' hgrow hm
  refine h A' cap' w' (by rw [ss_append]; exact hown') (grown_trans (World.grownBy_alloc w _ (blk A)) hgrow (.inl rfl)) ?_
  rcases hm with hm | hm
  · exact .inl hm
  · exact .inr fun k hk => by have := hm k hk; simp at this; omega

/-! HOMOMORPHISMS. -/
def homL (l : List (List UInt8)) : List (List UInt8) := l.flatMap fun x => [x, invW x]
def homOf (h : List (List UInt8)) (c : UInt8) : List UInt8 := h.getD (idx c).toNat []
def imgL (h : List (List UInt8)) (u : List UInt8) : List UInt8 := u.flatMap (homOf h)
def imgR (h : List (List UInt8)) (u : List UInt8) : List UInt8 := if 100000 < (imgL h u).length then [] else red (imgL h u)
def imgE (h : List (List UInt8)) (u : List UInt8) : Int := if 100000 < (imgL h u).length then 2 else 0
theorem homL_len (l : List (List UInt8)) : (homL l).length = 2 * l.length := by
  induction l with
  | nil => rfl
  | cons x t ih => simp only [homL, List.flatMap_cons, List.length_append, List.length_cons, List.length_nil] at *; omega
theorem homL_take (l : List (List UInt8)) (n : Nat) (h : n < l.length) : homL (l.take (n + 1)) = homL (l.take n) ++ [l[n], invW l[n]] := by
  unfold homL; rw [List.take_succ_eq_append_getElem h, List.flatMap_append]; simp
theorem isW_short {l : List UInt8} (h : isW l = true) : l.length ≤ 100000 := isW_len h

/-- A row of strings that a call hands back: it is the call's own. -/
def StrsP (B : Nat) (w : World) (l : List (List UInt8)) (e : Ending) (w' : World) : Prop :=
  ∃ A cap, e = .returned (.slice A l.length cap) ∧ w'.ownsRow B 9 1 (.slice A l.length cap) l.length (ss l) ∧ Below B w w'

set_option maxHeartbeats 1000000 in
set_option maxRecDepth 100000 in
theorem newHom_any (A : Option Addr) (cap : Nat) (l : List (List UInt8)) (w : World) (ht : Tabs w) (h : StrsAt w A l) (hw : ∀ x ∈ l, isW x = true) (hm : l.length ≤ 1000000) :
    Calls Tryz.prog 77 #[.slice A l.length cap] w (StrsP w.heap.size w (homL l)) := by
  have HT := Lib.hid ht
  have HH := Lib.hid h
  have HW := Lib.hid hw
  clear ht h hw
  go_enter Tryz.func77, Tryz.ntmps77
  go_wp2
  go_loopw [3, 5, 8] (fun out _ i wr => ∃ (k n : Nat) (O : Option Addr) (oc : Nat), k ≤ l.length ∧ i = .int .i64 (k : Int) ∧ n = 2 * k ∧ out = .slice O n oc ∧ wr.ownsRow w.heap.size 9 1 (.slice O n oc) n (ss (homL (l.take k))) ∧ Below w.heap.size w wr)
    (fun _ _ i _ => l.length - (intOf i).toNat)
  case atStart => exact ⟨0, 0, none, 0, Nat.zero_le _, rfl, rfl, rfl, World.ownsRow_nil _ _ _ _, Below.refl _ _⟩
  case round =>
    obtain ⟨k, n, O, oc, hk, rfl, hn, rfl, hown, hb⟩ := hrel
    have HOW := Lib.hid hown
    have HB := Lib.hid hb
    have HN := Lib.hid hn
    have hn2 : n ≤ 2000000 := by omega
    clear hown hb hn
    by_cases hlt : k < l.length
    · have HS := Lib.hid (homL_take l k hlt)
      obtain ⟨b, o, rfl, hc, hl⟩ := (HH.out.below HB.out) k hlt
      have hI := Inverse_yes ⟨(l[k]).toArray⟩ wr (HT.out.on HB.out) (HW.out _ (List.getElem_mem hlt)) (by rw [size_mk]; omega)
      change Calls Tryz.prog 75 #[.string ⟨(l[k]).toArray⟩] wr (fun e w' => e = .returned (.string ⟨(invW l[k]).toArray⟩) ∧ Below wr.heap.size wr w') at hI
      clear hl
      generalize invW l[k] = v at *
      generalize l[k] = u at *
      go_wp2_with fail
      refine hI.mono ?_
      rintro e w1 ⟨rfl, hb1⟩
      have HB1 := Lib.hid hb1
      have HBB := Lib.hid (HB.out.trans (hb1.mono HB.out.size))
      have HO1 : Hid (w1.ownsRow w.heap.size 9 1 (.slice O n oc) n (ss (homL (l.take k)))) := Lib.hid (own_on HOW.out hb1)
      clear hb1
      go_wp2_with (at_builtin; refine append_two w1 rfl (.tmp 12) (.tmp 16) rfl w.heap.size O n oc _ u v rfl HO1.out rfl (by omega) HBB.out.size ?_; intro A' cap' w2 hown2 hg2 hm2)
      have H1 := Lib.hid hown2
      have B2 := Lib.hid (below_of_grown HBB.out hg2 HBB.out.size (own_ge HO1.out))
      clear hown2 hg2 hm2
      go_wp2
      go_roundw
      case rel => exact ⟨k + 1, n + 2, A', cap', by omega, by go_num, by rw [HN.out]; omega, rfl, by rw [HS.out]; exact H1.out, B2.out⟩
      case measure => simp [intOf]; omega
    · obtain rfl : k = l.length := by omega
      have HZ : Hid (homL (l.take l.length) = homL l) := Lib.hid (by rw [List.take_length])
      have HL : Hid (n = (homL l).length) := Lib.hid (by rw [homL_len, HN.out])
      go_wp2
      go_ret
      refine ⟨O, oc, by rw [← HL.out]; rfl, ?_, HB.out⟩
      rw [← HL.out, ← HZ.out]
      exact HOW.out

theorem homOf_at {h : List (List UInt8)} {c : UInt8} (h0 : 0 ≤ idx c) (n : Nat) (hn : idx c = (n : Int)) (hlt : n < h.length) : homOf h c = h[n] := by
  unfold homOf; rw [hn]; simp [List.getD, hlt]

set_option maxHeartbeats 400000 in
theorem of_any (A : Option Addr) (cap : Nat) (h : List (List UInt8)) (c : UInt8) (w : World) (ht : Tabs w) (hs : StrsAt w A h) (h0 : 0 ≤ idx c) (h1 : idx c < h.length) :
    Calls Tryz.prog 129 #[.slice A h.length cap, .int .u8 c.toNat] w fun e w' => e = .returned (.string ⟨(homOf h c).toArray⟩) ∧ w = w' := by
  have hI := index_any c w ht
  obtain ⟨n, hn⟩ := Int.eq_ofNat_of_zero_le h0
  have hlt : n < h.length := by omega
  rw [homOf_at h0 n hn hlt]
  obtain ⟨b, o, rfl, hc, hl⟩ := hs n hlt
  rw [hn] at hI
  generalize h[n] = r at *
  clear hs hl hn h0 h1
  go_enter Tryz.func129, Tryz.ntmps129
  go_wp2_with fail
  refine hI.mono ?_
  rintro e w1 ⟨rfl, rfl⟩
  go_wp2
  go_ret
  exact ⟨rfl, rfl⟩
end Go.Proofs.YteephomlnbbjeaaGreatDoor

namespace Go.Proofs.YteephomlnbbjeaaGreatDoor
open Go Go.RowKit

theorem imgL_take (h : List (List UInt8)) (s : ByteArray) (k : Nat) (hk : k < s.size) : imgL h (s.data.toList.take (k + 1)) = imgL h (s.data.toList.take k) ++ homOf h s[k] := by
  have e : s.data.toList.take (k + 1) = s.data.toList.take k ++ [s[k]] := by rw [List.take_succ_eq_append_getElem (by simpa using hk)]; rfl
  unfold imgL; rw [e, List.flatMap_append]; simp
theorem mem_hom {h : List (List UInt8)} {c : UInt8} (h0 : 0 ≤ idx c) (h1 : idx c < h.length) : homOf h c ∈ h := by
  obtain ⟨n, hn⟩ := Int.eq_ofNat_of_zero_le h0
  rw [homOf_at h0 n hn (by omega)]; exact List.getElem_mem _
theorem imgL_len {h : List (List UInt8)} (hl : ∀ x ∈ h, x.length ≤ 100000) : ∀ u : List UInt8, (∀ c ∈ u, 0 ≤ idx c ∧ idx c < h.length) → (imgL h u).length ≤ u.length * 100000
  | [], _ => by simp [imgL]
  | c :: u, hu => by
    have h1 := imgL_len hl u (fun x hx => hu x (List.mem_cons_of_mem _ hx))
    have h2 := hl _ (mem_hom (hu c (List.mem_cons_self ..)).1 (hu c (List.mem_cons_self ..)).2)
    simp only [imgL, List.flatMap_cons, List.length_append, List.length_cons] at *
    omega
theorem isW_img {h : List (List UInt8)} (hw : ∀ x ∈ h, isW x = true) (u : List UInt8) (hu : ∀ c ∈ u, 0 ≤ idx c ∧ idx c < h.length) (hl : (imgL h u).length ≤ 100000) : isW (imgL h u) = true := by
  simp only [isW, Bool.and_eq_true, decide_eq_true_eq]
  refine ⟨hl, ?_⟩
  rw [List.all_eq_true]
  intro c hc
  obtain ⟨d, hd, hc⟩ := List.mem_flatMap.1 hc
  have := hw _ (mem_hom (hu d hd).1 (hu d hd).2)
  simp only [isW, Bool.and_eq_true] at this
  exact List.all_eq_true.1 this.2 c hc
theorem mem_take_ba {s : ByteArray} {p : UInt8 → Prop} (hu : ∀ c ∈ s.data.toList, p c) (k : Nat) : ∀ c ∈ s.data.toList.take k, p c := fun c hc => hu c (List.mem_of_mem_take hc)

/-- What image hands back. -/
def ImgP (w : World) (v : List UInt8) (n : Int) (e : Ending) (w' : World) : Prop := e = .returned (.tuple #[.string ⟨v.toArray⟩, .int .i64 n]) ∧ Below w.heap.size w w'

set_option maxHeartbeats 1000000 in
set_option maxRecDepth 100000 in
theorem image_any (A : Option Addr) (cap : Nat) (h : List (List UInt8)) (s : ByteArray) (w : World) (ht : Tabs w) (hs : StrsAt w A h) (hw : ∀ x ∈ h, isW x = true)
    (hu : ∀ c ∈ s.data.toList, 0 ≤ idx c ∧ idx c < h.length) (hsz : s.size ≤ 100000) :
    Calls Tryz.prog 78 #[.slice A h.length cap, .string s] w (ImgP w (imgR h s.data.toList) (imgE h s.data.toList)) := by
  have HT := Lib.hid ht
  have HS := Lib.hid hs
  have HW := Lib.hid hw
  have HU := Lib.hid hu
  have HLEN : Hid (∀ k, (imgL h (s.data.toList.take k)).length ≤ 10000000000) := Lib.hid (fun k => by
    have h1 := imgL_len (fun x hx => isW_len (hw x hx)) (s.data.toList.take k) (mem_take_ba hu k)
    have h2 : (s.data.toList.take k).length ≤ 100000 := by simp; omega
    omega)
  obtain ⟨i0, hi, hz0, hz1, hz2⟩ := info_parts Tryz.info5
  clear ht hs hw hu
  go_enter Tryz.func78, Tryz.ntmps78
  go_wp2
  go_loop [6, 7, 12] (fun t _ i => ∃ (k m : Nat), k ≤ s.size ∧ i = .int .i64 (k : Int) ∧ t = .int .i64 (m : Int) ∧ m = (imgL h (s.data.toList.take k)).length) (fun _ _ i => s.size - (intOf i).toNat)
  case atStart => exact ⟨0, 0, Nat.zero_le _, rfl, rfl, rfl⟩
  case round =>
    obtain ⟨k, m, hk, rfl, rfl, hm⟩ := hrel
    have HM := Lib.hid hm
    have hmb : m ≤ 10000000000 := by rw [hm]; exact HLEN.out k
    clear hm
    by_cases hlt : k < s.size
    · have HST := Lib.hid (imgL_take h s k hlt)
      have hc0 := HU.out s[k] (mem_ba s k hlt)
      have hO := of_any A cap h s[k] w HT.out HS.out hc0.1 hc0.2
      have hob : (homOf h s[k]).length ≤ 100000 := isW_len (HW.out _ (mem_hom hc0.1 hc0.2))
      have HSZ : (ByteArray.mk (homOf h s[k]).toArray).size = (homOf h s[k]).length := size_mk _
      clear hc0
      generalize homOf h s[k] = r at *
      go_wp2_with fail
      refine hO.mono ?_
      rintro e w1 ⟨rfl, rfl⟩
      go_wp2
      go_round
      case rel => exact ⟨k + 1, m + r.length, by omega, by go_num, by go_num, by rw [HST.out, List.length_append, HM.out]⟩
      case measure => simp [intOf]; omega
    · obtain rfl : k = s.size := by omega
      have HF : Hid (s.data.toList.take s.size = s.data.toList) := Lib.hid (List.take_of_length_le (by simp))
      have HM2 : Hid (m = (imgL h s.data.toList).length) := Lib.hid (by rw [HM.out, HF.out])
      by_cases hbig : 100000 < m
      · have hd : decide ((100000 : Int) < (m : Int)) = true := by simp; omega
        have hd2 : decide (100000 < m) = true := by simpa using hbig
        have HR1 : Hid (imgR h s.data.toList = []) := Lib.hid (by unfold imgR; rw [if_pos (by rw [← HM2.out]; exact hbig)])
        have HR2 : Hid (imgE h s.data.toList = 2) := Lib.hid (by unfold imgE; rw [if_pos (by rw [← HM2.out]; exact hbig)])
        go_wp2
        go_ret2
        exact ⟨by rw [HR1.out, HR2.out]; rfl, Below.refl _ _⟩
      · have hd : decide ((100000 : Int) < (m : Int)) = false := by simp; omega
        have hd2 : decide (100000 < m) = false := by simpa using hbig
        have HR1 : Hid (imgR h s.data.toList = red (imgL h s.data.toList)) := Lib.hid (by unfold imgR; rw [if_neg (by rw [← HM2.out]; exact hbig)])
        have HR2 : Hid (imgE h s.data.toList = 0) := Lib.hid (by unfold imgE; rw [if_neg (by rw [← HM2.out]; exact hbig)])
        go_wp2_with (at_make; refine wpList_make_own _ rfl _ _ 82 rfl w.heap.size 5 i0 (.int .u8 0) 1 Tryz.underlying82 hi hz0 hz1 _ _ _ m rfl rfl rfl ?b2 ?b3 (Nat.le_refl _) ?_)
        case b2 => omega
        case b3 => unfold maxLen; omega
        intro w0 hown0 hgrow0
        have HO0 : Hid (ownT w0 w.heap.size (.slice (some ⟨w.heap.size, 0, none⟩) 0 m) 0 []) := Lib.hid (ownT_of (l := []) hown0)
        have HB0 := Lib.hid ((Below.refl w.heap.size w).grown hgrow0 (Nat.le_refl _) (fun k h => by cases h))
        clear hown0 hgrow0 hi hz0 hz1 hz2
        have HMM := Lib.hid hbig
        clear hbig hd hd2
        go_wp2
        go_loopw [8, 9, 30] (fun out _ i wr => ∃ (k n : Nat) (O : Option Addr) (oc : Nat), k ≤ s.size ∧ i = .int .i64 (k : Int) ∧ Hid (n = (imgL h (s.data.toList.take k)).length) ∧ out = .slice O n oc ∧ ownT wr w.heap.size (.slice O n oc) n (imgL h (s.data.toList.take k)) ∧ Below w.heap.size w wr)
          (fun _ _ i _ => s.size - (intOf i).toNat)
        case atStart => exact ⟨0, 0, _, m, Nat.zero_le _, rfl, Lib.hid rfl, rfl, HO0.out, HB0.out⟩
        case round =>
          obtain ⟨k, n, O, oc, hk, rfl, HN, rfl, hown, hb⟩ := hrel
          have HOW := Lib.hid hown
          have HB := Lib.hid hb
          have hnb : n ≤ 10000000000 := by rw [HN.out]; exact HLEN.out k
          clear hown hb
          by_cases hlt : k < s.size
          · have HST := Lib.hid (imgL_take h s k hlt)
            have hc0 := HU.out s[k] (mem_ba s k hlt)
            have hO := of_any A cap h s[k] wr (HT.out.on HB.out) (HS.out.below HB.out) hc0.1 hc0.2
            have hob : (homOf h s[k]).length ≤ 100000 := isW_len (HW.out _ (mem_hom hc0.1 hc0.2))
            clear hc0
            generalize homOf h s[k] = r at *
            go_wp2_with fail
            refine hO.mono ?_
            rintro e w1 ⟨rfl, rfl⟩
            go_wp2_with (at_builtin; refine append_T wr rfl (.tmp 33) (.tmp 38) rfl w.heap.size _ n _ r rfl HOW.out rfl (by omega) HB.out.size ?_; intro A' cap' w2 hown2 hb2)
            have H1 := Lib.hid hown2
            have B2 := Lib.hid (HB.out.trans hb2)
            clear hown2 hb2
            go_wp2
            go_roundw
            case rel => exact ⟨k + 1, n + r.length, A', cap', by omega, by go_num, Lib.hid (by rw [HST.out, List.length_append, HN.out]), rfl, by rw [HST.out]; exact H1.out, B2.out⟩
            case measure => simp [intOf]; omega
          · obtain rfl : k = s.size := by omega
            have hrun := run_string_T wr w.heap.size O n oc _ HOW.out
            rw [HF.out] at hrun
            have hlen : (imgL h s.data.toList).length ≤ 100000 := by have := HM2.out; have := HMM.out; omega
            have hR := Reduce_yes ⟨(imgL h s.data.toList).toArray⟩ wr (HT.out.on HB.out) (isW_img HW.out _ HU.out hlen) (by rw [size_mk]; omega)
            change Calls Tryz.prog 118 #[.string ⟨(imgL h s.data.toList).toArray⟩] wr (fun e w' => e = .returned (.string ⟨(red (imgL h s.data.toList)).toArray⟩) ∧ Below wr.heap.size wr w') at hR
            clear hlen
            generalize imgL h s.data.toList = q at *
            generalize red q = q2 at *
            go_wp2_with fail
            refine hR.mono ?_
            rintro e w1 ⟨rfl, hb1⟩
            have HB1 := Lib.hid (HB.out.trans (hb1.mono HB.out.size))
            clear hb1
            go_wp2
            go_ret2
            exact ⟨by rw [HR1.out, HR2.out]; rfl, HB1.out⟩
end Go.Proofs.YteephomlnbbjeaaGreatDoor

namespace Go.Proofs.YteephomlnbbjeaaGreatDoor
open Go Go.RowKit

theorem idx_invc : ∀ c : UInt8, 0 ≤ idx c → 0 ≤ idx (invc c) ∧ idx (invc c) / 2 = idx c / 2 := by
  intro c h
  have h1 := invc_idx c h
  split at h1 <;> omega
theorem letterB_invc {k : Int} {c : UInt8} (h : letterB k c = true) : letterB k (invc c) = true := by
  simp only [letterB, Bool.and_eq_true, decide_eq_true_eq] at *
  have := idx_invc c h.1
  omega
theorem all_invW {k : Int} {l : List UInt8} (h : l.all (letterB k) = true) : (invW l).all (letterB k) = true := by
  rw [List.all_eq_true] at *
  intro c hc
  unfold invW at hc
  rw [List.mem_reverse, List.mem_map] at hc
  obtain ⟨d, hd, rfl⟩ := hc
  exact letterB_invc (h d hd)
theorem isW_invW {l : List UInt8} (h : isW l = true) : isW (invW l) = true := by
  simp only [isW, Bool.and_eq_true, decide_eq_true_eq] at *
  exact ⟨by rw [invW_len]; exact h.1, all_invW h.2⟩
theorem homL_isW {l : List (List UInt8)} (h : ∀ x ∈ l, isW x = true) : ∀ x ∈ homL l, isW x = true := by
  intro x hx
  obtain ⟨y, hy, hx⟩ := List.mem_flatMap.1 hx
  simp only [List.mem_cons, List.not_mem_nil, or_false] at hx
  rcases hx with rfl | rfl
  · exact h _ hy
  · exact isW_invW (h _ hy)
theorem checkI_ok {k : Int} {u : List UInt8} (h : (checkI k u == 0) = true) : 1 ≤ k ∧ k ≤ 8 ∧ u.length ≤ 100000 ∧ u.all (letterB k) = true := by
  unfold checkI at h
  split at h
  · simp at h
  · split at h
    · simp at h
    · rename_i h1 h2
      split at h
      · rename_i h3
        exact ⟨by omega, by omega, by omega, h3⟩
      · simp at h
theorem idx_of_check {n : Nat} {u : List UInt8} (h : (checkI n u == 0) = true) : ∀ c ∈ u, 0 ≤ idx c ∧ idx c < 2 * (n : Int) := by
  intro c hc
  have := List.all_eq_true.1 (checkI_ok h).2.2.2 c hc
  simpa [letterB] using this

/-- Is it a word of k generators? -/
def okB (k : Int) (l : List UInt8) : Bool := checkI k l == 0
/-- What Substitute answers. -/
def subP (k : Int) (l : List (List UInt8)) (u : List UInt8) : List UInt8 × Int :=
  if k < 1 ∨ 8 < k ∨ l.length < 1 ∨ 8 < l.length then ([], 1) else if okB l.length u = false then ([], 4) else if l.all (okB k) = false then ([], 4) else (imgR (homL l) u, imgE (homL l) u)

set_option maxHeartbeats 1000000 in
set_option maxRecDepth 100000 in
theorem Substitute_any (k : Int) (A : Option Addr) (cap : Nat) (l : List (List UInt8)) (u : List UInt8) (w : World) (ht : Tabs w) (hs : StrsAt w A l) (hm : l.length ≤ maxLen) (hu : u.length ≤ 140737488351232) :
    Calls Tryz.prog 27 #[.int .i64 k, .slice A l.length cap, .string ⟨u.toArray⟩] w (ImgP w (subP k l u).1 (subP k l u).2) := by
  have HT := Lib.hid ht
  have HS := Lib.hid hs
  unfold maxLen at hm
  clear ht hs
  by_cases h1 : k < 1
  · have HR : Hid (subP k l u = ([], 1)) := Lib.hid (by unfold subP; rw [if_pos (.inl h1)])
    have hd : decide (k < 1) = true := by simpa using h1
    rw [HR.out]
    go_enter Tryz.func27, Tryz.ntmps27
    go_wp2
    go_ret2
    exact ⟨rfl, Below.refl _ _⟩
  have hd1 : decide (k < 1) = false := by simpa using h1
  by_cases h2 : 8 < k
  · have HR : Hid (subP k l u = ([], 1)) := Lib.hid (by unfold subP; rw [if_pos (.inr (.inl h2))])
    have hd : decide (8 < k) = true := by simpa using h2
    rw [HR.out]
    go_enter Tryz.func27, Tryz.ntmps27
    go_wp2
    go_ret2
    exact ⟨rfl, Below.refl _ _⟩
  have hd2 : decide (8 < k) = false := by simpa using h2
  by_cases h3 : l.length < 1
  · have HR : Hid (subP k l u = ([], 1)) := Lib.hid (by unfold subP; rw [if_pos (.inr (.inr (.inl h3)))])
    have hd : decide ((l.length : Int) < 1) = true := by simp; omega
    have hd' : decide (l.length < 1) = true := by simpa using h3
    rw [HR.out]
    go_enter Tryz.func27, Tryz.ntmps27
    go_wp2
    go_ret2
    exact ⟨rfl, Below.refl _ _⟩
  have hd3 : decide ((l.length : Int) < 1) = false := by simp; omega
  have hd3' : decide (l.length < 1) = false := by simpa using h3
  by_cases h4 : 8 < l.length
  · have HR : Hid (subP k l u = ([], 1)) := Lib.hid (by unfold subP; rw [if_pos (.inr (.inr (.inr h4)))])
    have hd : decide ((8 : Int) < (l.length : Int)) = true := by simp; omega
    have hd' : decide (8 < l.length) = true := by simpa using h4
    rw [HR.out]
    go_enter Tryz.func27, Tryz.ntmps27
    go_wp2
    go_ret2
    exact ⟨rfl, Below.refl _ _⟩
  have hd4 : decide ((8 : Int) < (l.length : Int)) = false := by simp; omega
  have hd4' : decide (8 < l.length) = false := by simpa using h4
  have HR0 : Hid (subP k l u = if okB l.length u = false then ([], 4) else if l.all (okB k) = false then ([], 4) else (imgR (homL l) u, imgE (homL l) u)) := Lib.hid (by unfold subP; rw [if_neg (by omega)])
  have hC := check_any l.length ⟨u.toArray⟩ w HT.out (by rw [size_mk]; unfold maxLen; omega)
  change Calls Tryz.prog 76 #[.int .i64 l.length, .string ⟨u.toArray⟩] w (fun e w' => e = .returned (.int .i64 (checkI l.length u)) ∧ w = w') at hC
  cases hok : okB l.length u with
  | false =>
    have HR : Hid (subP k l u = ([], 4)) := Lib.hid (by rw [HR0.out, if_pos hok])
    unfold okB at hok
    have hne : (!(checkI l.length u == 0)) = true := by simp [hok]
    rw [HR.out]
    clear HR0
    generalize checkI l.length u = c at *
    go_enter Tryz.func27, Tryz.ntmps27
    go_wp2_with fail
    refine hC.mono ?_
    rintro e w1 ⟨rfl, rfl⟩
    go_wp2
    go_ret2
    exact ⟨rfl, Below.refl _ _⟩
  | true =>
    have HR1 : Hid (subP k l u = if l.all (okB k) = false then ([], 4) else (imgR (homL l) u, imgE (homL l) u)) := Lib.hid (by rw [HR0.out, if_neg (by rw [hok]; decide)])
    unfold okB at hok
    have HOK := Lib.hid hok
    have hc0 : checkI l.length u = 0 := by simpa using hok
    rw [hc0] at hC
    clear HR0 hc0 hok
    go_enter Tryz.func27, Tryz.ntmps27
    go_wp2_with fail
    refine hC.mono ?_
    rintro e w1 ⟨rfl, rfl⟩
    go_wp2
    go_loop [9, 33] (fun _ i => ∃ n : Nat, n ≤ l.length ∧ i = .int .i64 (n : Int) ∧ Hid ((l.take n).all (okB k) = true)) (fun _ i => l.length - (intOf i).toNat)
    case atStart => exact ⟨0, Nat.zero_le _, rfl, Lib.hid rfl⟩
    case round =>
      obtain ⟨n, hn, rfl, HA⟩ := hrel
      by_cases hlt : n < l.length
      · have HSS := Lib.hid (all_take_succL l (okB k) n hlt)
        have HN := Lib.hid (all_noL l (okB k) n hlt)
        obtain ⟨b, o, rfl, hc, hl⟩ := HS.out n hlt
        have hI := check_any k ⟨(l[n]).toArray⟩ w HT.out (by rw [size_mk]; unfold maxLen; omega)
        change Calls Tryz.prog 76 #[.int .i64 k, .string ⟨(l[n]).toArray⟩] w (fun e w' => e = .returned (.int .i64 (checkI k l[n])) ∧ w = w') at hI
        clear hl
        have HK : Hid (okB k l[n] = (checkI k l[n] == 0)) := Lib.hid rfl
        cases hb : okB k l[n] with
        | false =>
          have HZ : Hid (subP k l u = ([], 4)) := Lib.hid (by rw [HR1.out, if_pos (HN.out hb)])
          rw [hb] at HK
          have hne : (checkI k l[n] == 0) = false := HK.out.symm
          have hne2 : (!(checkI k l[n] == 0)) = true := by rw [hne]; rfl
          clear hb HK
          generalize checkI k l[n] = c at *
          generalize l[n] = r at *
          go_wp2_with fail
          refine hI.mono ?_
          rintro e w1 ⟨rfl, rfl⟩
          go_wp2
          go_ret2
          rw [HZ.out]
          exact ⟨rfl, Below.refl _ _⟩
        | true =>
          rw [hb] at HSS HK
          have hc0 : checkI k l[n] = 0 := by simpa using HK.out.symm
          rw [hc0] at hI
          clear hb HK hc0
          generalize l[n] = r at *
          go_wp2_with fail
          refine hI.mono ?_
          rintro e w1 ⟨rfl, rfl⟩
          go_wp2
          go_round
          case rel => exact ⟨n + 1, by omega, by go_num, Lib.hid (by rw [HSS.out, HA.out]; rfl)⟩
          case measure => simp [intOf]; omega
      · obtain rfl : n = l.length := by omega
        have HALL : Hid (l.all (okB k) = true) := Lib.hid (by have := HA.out; rwa [List.take_length] at this)
        have HZ : Hid (subP k l u = (imgR (homL l) u, imgE (homL l) u)) := Lib.hid (by rw [HR1.out, if_neg (by rw [HALL.out]; decide)])
        have hW : ∀ x ∈ l, isW x = true := fun x hx => isW_of_check (List.all_eq_true.1 HALL.out x hx)
        have hN := newHom_any A cap l w HT.out HS.out hW (by omega)
        have HSH : Hid (Short (homL l)) := Lib.hid (fun x hx => by have := isW_len (homL_isW hW x hx); omega)
        have HHW := Lib.hid (homL_isW hW)
        have HUU : Hid (∀ c ∈ u, 0 ≤ idx c ∧ idx c < (homL l).length) := Lib.hid (fun c hc => by have := idx_of_check HOK.out c hc; rw [homL_len]; omega)
        have HUL : Hid (u.length ≤ 100000) := Lib.hid (checkI_ok HOK.out).2.2.1
        clear hW
        go_wp2_with fail
        refine hN.mono ?_
        rintro e w1 ⟨A', cap', rfl, hown, hb1⟩
        have hI := image_any A' cap' (homL l) ⟨u.toArray⟩ w1 (HT.out.on hb1) (strsAt_own hown HSH.out) HHW.out HUU.out (by rw [size_mk]; exact HUL.out)
        change Calls Tryz.prog 78 #[.slice A' (homL l).length cap', .string ⟨u.toArray⟩] w1 (ImgP w1 (imgR (homL l) u) (imgE (homL l) u)) at hI
        have HB1 := Lib.hid hb1
        clear hown hb1
        generalize imgR (homL l) u = v at *
        generalize imgE (homL l) u = z at *
        generalize (homL l).length = hn at *
        go_wp2_with fail
        refine hI.mono ?_
        rintro e w2 ⟨rfl, hb2⟩
        have HB2 := Lib.hid (HB1.out.trans (hb2.mono HB1.out.size))
        clear hb2
        go_wp2
        go_ret2
        exact ⟨by rw [HZ.out]; rfl, HB2.out⟩
end Go.Proofs.YteephomlnbbjeaaGreatDoor

namespace Go.Proofs.YteephomlnbbjeaaGreatDoor
open Go Go.RowKit

def runR (r l : List UInt8) : List UInt8 := l.foldl stp r
theorem runR_take (r : List UInt8) (s : ByteArray) (k : Nat) (h : k < s.size) : runR r (s.data.toList.take (k + 1)) = stp (runR r (s.data.toList.take k)) s[k] := by
  have e : s.data.toList.take (k + 1) = s.data.toList.take k ++ [s[k]] := by rw [List.take_succ_eq_append_getElem (by simpa using h)]; rfl
  unfold runR; rw [e, List.foldl_append]; rfl
theorem stp_le (r : List UInt8) (c : UInt8) : (stp r c).length ≤ r.length + 1 := stp_len r c
theorem runR_len (l : List UInt8) : ∀ r, (runR r l).length ≤ r.length + l.length := by
  induction l with
  | nil => intro r; simp [runR]
  | cons c l ih =>
    intro r
    have h1 := ih (stp r c); have h2 := stp_len r c
    simp only [runR, List.foldl_cons, List.length_cons] at *; omega

theorem xor32 (x y : UInt8) : (bits BinOp.xor IntKind.u8 (x.toNat : Int) (y.toNat : Int) == 32) = (x ^^^ y == 32) := by
  rw [xor_u8, Bool.eq_iff_iff]
  simp only [beq_iff_eq]
  constructor
  · intro h; apply UInt8.toNat_inj.1; simpa using (by exact_mod_cast h : (x ^^^ y).toNat = 32)
  · intro h; rw [h]; rfl

/-- A row of bytes that has grown, or shrunk, at its end. -/
def AppP (w : World) (B : Nat) (A : Option Addr) (l : List UInt8) (e : Ending) (w' : World) : Prop :=
  ∃ A' cap', e = .returned (.slice A' l.length cap') ∧ w'.ownsRow B 5 1 (.slice A' l.length cap') l.length (bs l.reverse) ∧ w.grownBy w' (blk A) ∧ Moved w A A'

theorem own_takeA {w : World} {B e n cap m : Nat} {A : Option Addr} {xs : List Value} (hm : m ≤ n) (h : w.ownsRow B e 1 (.slice A n cap) n xs) : w.ownsRow B e 1 (.slice A m cap) m (xs.take m) := ownsRow_take' hm h

set_option maxHeartbeats 2000000 in
set_option maxRecDepth 100000 in
theorem appRed_any (B : Nat) (O : Option Addr) (oc : Nat) (r : List UInt8) (l : ByteArray) (w : World) (hown : w.ownsRow B 5 1 (.slice O r.length oc) r.length (bs r.reverse))
    (hn : r.length + l.size ≤ 100000000000) (hB : B ≤ w.heap.size) :
    Calls Tryz.prog 224 #[.slice O r.length oc, .string l] w (AppP w B O (runR r l.data.toList)) := by
  have HO := Lib.hid hown
  clear hown
  go_enter Tryz.func224, Tryz.ntmps224
  go_wp2
  go_loopw [0, 5, 6, 9] (fun out _ _ i wr => ∃ (k : Nat) (s : List UInt8) (O' : Option Addr) (n oc' : Nat), k ≤ l.size ∧ i = .int .i64 (k : Int) ∧ Hid (s = runR r (l.data.toList.take k)) ∧ n = s.length ∧ n ≤ r.length + k ∧ out = .slice O' n oc' ∧ Hid (wr.ownsRow B 5 1 (.slice O' n oc') n (bs s.reverse)) ∧ Hid (w.grownBy wr (blk O)) ∧ Hid (Moved w O O'))
    (fun _ _ _ i _ => l.size - (intOf i).toNat)
  case atStart => exact ⟨0, r, O, r.length, oc, Nat.zero_le _, rfl, Lib.hid rfl, rfl, by omega, rfl, HO, Lib.hid (grown_refl _ _), Lib.hid (Moved.refl _ _)⟩
  case round =>
    obtain ⟨k, s, O', n, oc', hk, rfl, HS, hns, hnk, rfl, HOW, HG, HMV⟩ := hrel
    by_cases hlt : k < l.size
    · have HSN : Hid (stp s l[k] = runR r (l.data.toList.take (k + 1))) := Lib.hid (by rw [HS.out]; exact (runR_take r l k hlt).symm)
      have HBW := Lib.hid HG.out.size
      cases s with
      | nil =>
        obtain rfl : n = 0 := by simpa using hns
        clear hns
        have hd : decide ((0 : Int) ≤ 0 - 1) = false := by decide
        go_wp2
        go_quiet (fail)
        go_wp2_with (at_builtin; refine append_one (wr.drewN nq) rfl (.tmp 31) (.tmp 35) rfl B O' 0 oc' [] l[k] rfl (show (wr.drewN nq).ownsRow _ _ _ _ _ _ from HOW.out) _ rfl rfl (by omega) (Nat.le_trans hB HBW.out) ?_; intro A' cap' w1 hown1 hg1 hm1)
        have H1 := Lib.hid hown1
        have G1 := Lib.hid hg1
        have M1 := Lib.hid hm1
        clear hown1 hg1 hm1
        go_wp2
        go_roundw
        case rel => exact ⟨k + 1, [l[k]], A', 1, cap', by omega, by go_num, Lib.hid HSN.out, rfl, by omega, rfl, H1, Lib.hid (grown_trans (grown_drewN HG.out nq) G1.out HMV.out), Lib.hid (HMV.out.trans M1.out HBW.out)⟩
        case measure => simp [intOf]; omega
      | cons x t =>
        obtain rfl : n = t.length + 1 := by simpa using hns
        clear hns
        obtain ⟨g, o2, hO, hx⟩ := rowAt_own HOW.out t.length (by simp)
        obtain rfl : o2 = 0 := by
          rcases own_shape HOW.out with ⟨h, _⟩ | ⟨g', h, _⟩
          · rw [hO] at h; cases h
          · rw [hO] at h; cases h; rfl
        subst hO
        have he : (x :: t).reverse[t.length]'(by simp) = x := by simp
        rw [he, Nat.zero_add] at hx
        clear he
        have hd : decide ((0 : Int) ≤ (t.length : Int)) = true := by simp
        have hcp := own_cap HOW.out
        have hE := xor32 x l[k]
        cases hcc : (x ^^^ l[k] == 32) with
        | true =>
          rw [hcc] at hE
          have HSN2 : Hid (t = runR r (l.data.toList.take (k + 1))) := Lib.hid (by rw [← HSN.out]; simp only [stp, hcc, if_true])
          have HT := Lib.hid (own_takeA (m := t.length) (by omega) HOW.out)
          clear hcc
          go_wp2
          go_quiet (fail)
          go_wp2
          go_roundw
          case rel => exact ⟨k + 1, t, _, t.length, oc', by omega, by go_num, HSN2, rfl, by omega, rfl, Lib.hid (by show wr.ownsRow _ _ _ _ _ _; have := HT.out; simpa [bs] using this), Lib.hid (grown_drewN HG.out nq), HMV⟩
          case measure => simp [intOf]; omega
        | false =>
          rw [hcc] at hE
          have HSN2 : Hid (l[k] :: x :: t = runR r (l.data.toList.take (k + 1))) := Lib.hid (by rw [← HSN.out]; simp [stp, hcc])
          clear hcc
          go_wp2
          go_quiet (fail)
          go_wp2_with (at_builtin; refine append_one (wr.drewN nq) rfl (.tmp 31) (.tmp 35) rfl B _ (t.length + 1) oc' (x :: t).reverse l[k] rfl (show (wr.drewN nq).ownsRow _ _ _ _ _ _ from HOW.out) _ rfl rfl (by omega) (Nat.le_trans hB HBW.out) ?_; intro A' cap' w1 hown1 hg1 hm1)
          have H1 := Lib.hid hown1
          have G1 := Lib.hid hg1
          have M1 := Lib.hid hm1
          clear hown1 hg1 hm1
          go_wp2
          go_roundw
          case rel => exact ⟨k + 1, l[k] :: x :: t, A', t.length + 1 + 1, cap', by omega, by go_num, HSN2, rfl, by omega, rfl, Lib.hid (by have := H1.out; simpa [bs] using this), Lib.hid (grown_trans (grown_drewN HG.out nq) G1.out HMV.out), Lib.hid (HMV.out.trans M1.out HBW.out)⟩
          case measure => simp [intOf]; omega
    · obtain rfl : k = l.size := by omega
      have HR : Hid (s = runR r l.data.toList) := Lib.hid (by rw [HS.out, List.take_of_length_le (by simp)])
      go_wp2
      go_ret
      rw [← HR.out]
      subst hns
      exact ⟨O', oc', rfl, HOW.out, HG.out, HMV.out⟩

/-! CELLS IN MEMORY. -/
abbrev celC (c : List UInt8) (r : Int) (i : Bool) : Array Value := #[.string ⟨c.toArray⟩, .int .i64 r, .bool i]
structure CelAt (w : World) (b o : Nat) (c : Cel) : Prop where
  conj : w.cell? ⟨b, o, none⟩ = some (.string ⟨c.conj.toArray⟩)
  rel : w.cell? ⟨b, o + 1, none⟩ = some (.int .i64 c.rel)
  inv : w.cell? ⟨b, o + 2, none⟩ = some (.bool c.inv)
  len : c.conj.length ≤ 140737488351232
def CellsAt (w : World) (D : Option Addr) (d : List Cel) : Prop :=
  ∀ i (h : i < d.length), ∃ b o, D = some ⟨b, o, none⟩ ∧ CelAt w b (o + i * 3) d[i]
theorem CelAt.below {w w' : World} {b o : Nat} {c : Cel} (h : CelAt w b o c) (hb : Below w.heap.size w w') : CelAt w' b o c :=
  ⟨(hb.cell (p := ⟨b, o, none⟩) (lt_of_cell h.conj)).trans h.conj, (hb.cell (p := ⟨b, o + 1, none⟩) (lt_of_cell h.rel)).trans h.rel, (hb.cell (p := ⟨b, o + 2, none⟩) (lt_of_cell h.inv)).trans h.inv, h.len⟩
theorem CellsAt.below {w w' : World} {D : Option Addr} {d : List Cel} (h : CellsAt w D d) (hb : Below w.heap.size w w') : CellsAt w' D d := by
  intro i hi
  obtain ⟨b, o, hA, hc⟩ := h i hi
  exact ⟨b, o, hA, hc.below hb⟩
def relIn (p : Pr) (i : Int) : Bool := decide (0 ≤ i) && decide (i < p.rels.length)
def celB (p : Pr) (c : Cel) : Bool := relIn p c.rel && okB p.k c.conj
def celsB (p : Pr) (d : List Cel) : Bool := decide (d.length ≤ 100000) && d.all (celB p)

set_option maxHeartbeats 400000 in
theorem isRel_any (p : Pr) (R : Option Addr) (rc : Nat) (i : Int) (w : World) (hm : p.rels.length ≤ maxLen) :
    Calls Tryz.prog 137 #[prV p.k R p.rels.length rc, .int .i64 i] w fun e w' => e = .returned (.bool (relIn p i)) ∧ Below w.heap.size w w' := by
  unfold maxLen at hm
  have HBX := Lib.hid (Boxd.start w (prC p.k R p.rels.length rc) 24)
  by_cases h0 : 0 ≤ i
  · have hd : decide (0 ≤ i) = true := by simpa using h0
    have HR : Hid (relIn p i = decide (i < (p.rels.length : Int))) := Lib.hid (by simp [relIn, h0])
    generalize p.rels.length = n at *
    go_enter Tryz.func137, Tryz.ntmps137
    go_wp2
    go_ret
    exact ⟨ret_bool HR.out.symm, HBX.out.old⟩
  · have hd : decide (0 ≤ i) = false := by simpa using h0
    have HR : Hid (relIn p i = false) := Lib.hid (by simp [relIn, h0])
    generalize p.rels.length = n at *
    go_enter Tryz.func137, Tryz.ntmps137
    go_wp2
    go_ret
    exact ⟨ret_bool HR.out.symm, HBX.out.old⟩
end Go.Proofs.YteephomlnbbjeaaGreatDoor

namespace Go.Proofs.YteephomlnbbjeaaGreatDoor
open Go Go.RowKit

theorem celsB_long {p : Pr} {d : List Cel} (h : 100000 < d.length) : celsB p d = false := by
  have : ¬ d.length ≤ 100000 := by omega
  simp [celsB, this]
theorem celsB_short {p : Pr} {d : List Cel} (h : ¬ 100000 < d.length) : celsB p d = d.all (celB p) := by
  have : d.length ≤ 100000 := by omega
  simp [celsB, this]

set_option maxHeartbeats 2000000 in
set_option maxRecDepth 100000 in
theorem areCells_any (p : Pr) (R : Option Addr) (rc : Nat) (D : Option Addr) (dc : Nat) (d : List Cel) (w : World) (ht : Tabs w) (hd : CellsAt w D d) (hm : p.rels.length ≤ maxLen) (hdm : d.length ≤ maxLen) :
    Calls Tryz.prog 88 #[prV p.k R p.rels.length rc, .slice D d.length dc] w fun e w' => e = .returned (.bool (celsB p d)) ∧ Below w.heap.size w w' := by
  have HM := Lib.hid hm
  have HT := Lib.hid ht
  have HBX := Lib.hid (Boxd.start w (prC p.k R p.rels.length rc) 24)
  have HD := Lib.hid hd
  clear hm hd ht
  unfold maxLen at hdm
  by_cases hlong : 100000 < d.length
  · have HR := Lib.hid (celsB_long (p := p) hlong)
    have hd1 : decide ((100000 : Int) < (d.length : Int)) = true := by simp; omega
    have hd2 : decide (100000 < d.length) = true := by simpa using hlong
    go_enter Tryz.func88, Tryz.ntmps88
    go_wp2
    go_ret
    exact ⟨ret_bool HR.out.symm, HBX.out.old⟩
  have hd1 : decide ((100000 : Int) < (d.length : Int)) = false := by simp; omega
  have hd2 : decide (100000 < d.length) = false := by simpa using hlong
  have HR := Lib.hid (celsB_short (p := p) hlong)
  go_enter Tryz.func88, Tryz.ntmps88
  go_wp2
  go_loopw [6, 12] (fun _ i wr => ∃ n : Nat, n ≤ d.length ∧ i = .int .i64 (n : Int) ∧ Hid ((d.take n).all (celB p) = true) ∧ Hid (Boxd w (prC p.k R p.rels.length rc) 24 wr)) (fun _ i _ => d.length - (intOf i).toNat)
  case atStart => exact ⟨0, Nat.zero_le _, rfl, Lib.hid rfl, HBX⟩
  case round =>
    obtain ⟨n, hn, rfl, HA, HX⟩ := hrel
    by_cases hlt : n < d.length
    · have HS := Lib.hid (all_take_succL d (celB p) n hlt)
      have HN := Lib.hid (all_noL d (celB p) n hlt)
      obtain ⟨b, o, hD, hcel⟩ := (HD.out.below HX.out.old) n hlt
      obtain ⟨q1, q2, q3, q4⟩ := hcel
      subst hD
      generalize d[n] = x at *
      obtain ⟨c, rel, inv⟩ := x
      simp only at q1 q2 q3 q4
      have HCB : Hid (celB p ⟨c, rel, inv⟩ = (relIn p rel && okB p.k c)) := Lib.hid rfl
      have hsz := HX.out.size
      have HX2 := Lib.hid (Boxd.start wr (celC c rel inv) 89)
      have HX1 := Lib.hid (HX.out.on HX2.out.old)
      have hI := isRel_any p R rc rel (wr.alloc (.cells (celC c rel inv) 89)) HM.out
      have c0 := HX1.out.cell 0
      have c1 := HX1.out.cell 1
      simp only [List.getElem?_toArray, List.getElem?_cons_zero, List.getElem?_cons_succ] at c0 c1
      cases hrel : relIn p rel with
      | false =>
        rw [hrel] at hI
        have HZ := Lib.hid (HN.out (by rw [HCB.out, hrel]; rfl))
        clear hrel
        go_wp2_with fail
        refine hI.mono ?_
        rintro e w1 ⟨rfl, hb1⟩
        have HB := Lib.hid (HX1.out.on hb1).old
        clear hb1
        go_wp2
        go_ret
        exact ⟨ret_bool (by rw [HR.out, HZ.out]), HB.out⟩
      | true =>
        rw [hrel] at hI HCB
        clear hrel
        go_wp2_with fail
        refine hI.mono ?_
        rintro e w1 ⟨rfl, hb1⟩
        have HX3 := Lib.hid (HX1.out.on hb1)
        have HX4 := Lib.hid (HX2.out.on hb1)
        have k0 := HX3.out.cell 0
        have k1 := HX4.out.cell 0
        simp only [List.getElem?_toArray, List.getElem?_cons_zero, List.getElem?_cons_succ] at k0 k1
        have hW := check_any p.k ⟨c.toArray⟩ w1 (HT.out.on HX3.out.old) (by rw [size_mk]; unfold maxLen; omega)
        change Calls Tryz.prog 76 #[.int .i64 p.k, .string ⟨c.toArray⟩] w1 (fun e w' => e = .returned (.int .i64 (checkI p.k c)) ∧ w1 = w') at hW
        have HK : Hid (okB p.k c = (checkI p.k c == 0)) := Lib.hid rfl
        clear hb1 c0 c1 q1 q2 q3 hI
        cases hw : okB p.k c with
        | false =>
          rw [hw] at HK HCB
          have hne : (checkI p.k c == 0) = false := HK.out.symm
          have hne2 : (!(checkI p.k c == 0)) = true := by rw [hne]; rfl
          have HZ := Lib.hid (HN.out HCB.out)
          clear hw HK
          generalize checkI p.k c = z at *
          go_wp2_with fail
          refine hW.mono ?_
          rintro e w2 ⟨rfl, rfl⟩
          go_wp2
          go_ret
          exact ⟨ret_bool (by rw [HR.out, HZ.out]), HX3.out.old⟩
        | true =>
          rw [hw] at HK HCB
          have hc0 : checkI p.k c = 0 := by simpa using HK.out.symm
          rw [hc0] at hW
          clear hw HK hc0
          go_wp2_with fail
          refine hW.mono ?_
          rintro e w2 ⟨rfl, rfl⟩
          go_wp2
          go_roundw
          case rel => exact ⟨n + 1, by omega, by go_num, Lib.hid (by rw [HS.out, HA.out, HCB.out]; rfl), HX3⟩
          case measure => simp [intOf]; omega
    · obtain rfl : n = d.length := by omega
      have HZ : Hid (d.all (celB p) = true) := Lib.hid (by have := HA.out; rwa [List.take_length] at this)
      go_wp2
      go_ret
      exact ⟨ret_bool (by rw [HR.out, HZ.out]), HX.out.old⟩

/-! BOUNDARIES. -/
def relP (p : Pr) (i : Int) (inv : Bool) : List UInt8 := if inv then invW (p.rels.getD i.toNat []) else p.rels.getD i.toNat []
def cellW (p : Pr) (c : Cel) : List UInt8 := c.conj ++ relP p c.rel c.inv ++ invW c.conj
def bndR (p : Pr) (d : List Cel) : List UInt8 := d.foldl (fun r c => runR r (cellW p c)) []
def bnd (p : Pr) (d : List Cel) : List UInt8 := (bndR p d).reverse
theorem runR_app (r a b : List UInt8) : runR r (a ++ b) = runR (runR r a) b := List.foldl_append
theorem bndR_take (p : Pr) (d : List Cel) (n : Nat) (h : n < d.length) : bndR p (d.take (n + 1)) = runR (runR (runR (bndR p (d.take n)) (d[n]).conj) (relP p (d[n]).rel (d[n]).inv)) (invW (d[n]).conj) := by
  unfold bndR; rw [List.take_succ_eq_append_getElem h, List.foldl_append]; simp only [List.foldl_cons, List.foldl_nil, cellW, runR_app]
end Go.Proofs.YteephomlnbbjeaaGreatDoor
