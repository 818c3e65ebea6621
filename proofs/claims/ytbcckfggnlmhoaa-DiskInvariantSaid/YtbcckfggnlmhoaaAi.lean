/-
  Our own text, in the proofs of the laws of package disk (cayleylaw04). Proved here: slices.Clone of bytes, inverseOf of bytes, reduced of the program. Conditions: none but bounds.
-/
import Derived.Test.YtbcckfggnlmhoaaAh
namespace Go.Proofs.Ytbcckfggnlmhoaa
open Go Go.RowKit

theorem rowAt_cells {w : World} {ad : Addr} {l : List UInt8} (h : RowAt w (some ad) l) : ∀ j u, (bs l)[j]? = some u → w.cell? (ad.add j) = some u := by
  intro j u hu
  have hj : j < l.length := by
    rcases Nat.lt_or_ge j (bs l).length with h | h
    · simpa [bs_len] using h
    · rw [List.getElem?_eq_none h] at hu; cases hu
  obtain ⟨b, o, he, hc⟩ := h j hj
  simp only [Option.some.injEq] at he
  subst he
  rw [add_lit, hc, ← hu, bs_get _ _ hj]
theorem bs_one (l : List UInt8) : ∀ u ∈ bs l, u.oneCell' = true := by
  intro u hu; simp [bs] at hu; obtain ⟨x, _, rfl⟩ := hu; rfl

/-- append(x, y...), bytes. -/
theorem append_row {ops : Array Oper} {rest : List Oper} {o : Oper} {a : Act} {Q : Exit → Act → World → Prop} (w : World) (hgd : o.guard = none) (s x : Operand)
    (ho : o.op = .call { callee := .builtin .append, args := #[s, x], argTypes := #[58, 58] })
    (B : Nat) (A : Option Addr) (n cap : Nat) (l m : List UInt8) (hs : a.eval s = .slice A n cap) (hown : w.ownsRow B 5 1 (.slice A n cap) n (bs l))
    (ad : Addr) (c : Nat) (hx : a.eval x = .slice (some ad) m.length c) (hm : RowAt w (some ad) m) (hn : n + m.length ≤ 1000000000000) (hB : B ≤ w.heap.size)
    (h : ∀ A' cap' w', w'.ownsRow B 5 1 (.slice A' (n + m.length) cap') (n + m.length) (bs (l ++ m)) → w.grownBy w' (blk A) → Moved w A A' → wpList Try.prog ops Q rest (a.put o.dst (.slice A' (n + m.length) cap')) w') :
    wpList Try.prog ops Q (o :: rest) a w := by
  obtain ⟨i0, hi, hz0, hz1, hz2⟩ := info_parts Try.info5
  refine append_gen _ hgd s x 58 ho 5 i0 (.int .u8 0) 1 1 Try.underlying58 hi hz0 hz1 hz2 rfl (by decide) B A n cap (bs l) hs hown ad m.length c (bs m) hx (by simp [bs_len]) (rowAt_cells hm) (bs_one m) (by unfold maxLen; omega) (by omega) hB ?_
  intro A' cap' w' hown' hgrow hm
  exact h A' cap' w' (by rw [bs_append]; exact hown') hgrow hm

def CloneP (w : World) (l : List UInt8) (e : Ending) (w' : World) : Prop :=
  ∃ A' cap', e = .returned (.slice A' l.length cap') ∧ w'.ownsRow w.heap.size 5 1 (.slice A' l.length cap') l.length (bs l) ∧ Below w.heap.size w w'

set_option maxHeartbeats 1000000 in
theorem Clone_any (A : Option Addr) (cap : Nat) (l : List UInt8) (w : World) (hl : RowAt w A l) (hA : A = none → l = []) (hn : l.length ≤ 1000000000) :
    Calls Try.prog 51 #[.slice A l.length cap] w (CloneP w l) := by
  have he : ∀ wx, (binOp .eql 58 (.slice A l.length cap) (.slice none 0 0)).run Try.prog wx = .ok (.bool A.isNone) wx := fun wx => Lib.run_eql_slice_nil wx 58 5 A _ _ _ _ Try.underlying58
  cases A with
  | none =>
    obtain rfl := hA rfl
    have he2 : ∀ wx, (binOp .eql 58 (.slice none 0 cap) (.slice none 0 0)).run Try.prog wx = .ok (.bool true) wx := fun wx => Lib.run_eql_slice_nil wx 58 5 none _ _ _ _ Try.underlying58
    show Calls Try.prog 51 #[.slice none 0 cap] w (CloneP w [])
    clear hl hA he hn
    go_enter Try.func51, Try.ntmps51
    go_wp2
    go_ret
    exact ⟨none, 0, rfl, World.ownsRow_nil _ _ _ _, Below.refl _ _⟩
  | some ad =>
    have HL := Lib.hid hl
    have HO := Lib.hid (own_empty w w.heap.size 5 1 (Nat.le_refl _))
    have HB : Hid (Below w.heap.size w (w.alloc (.cells #[] 5))) := Lib.hid ((Below.refl _ _).alloc (Nat.le_refl _) _)
    clear hl hA
    go_enter Try.func51, Try.ntmps51
    go_wp2_with (at_builtin; refine append_row (w.alloc (.cells #[] 5)) rfl (.tmp 5) (.tmp 6) rfl w.heap.size (some ⟨w.heap.size, 0, none⟩) 0 0 [] l rfl HO.out ad cap rfl (HL.out.below HB.out) (by omega) (by simp) ?_; intro A' cap' w1 hown1 hg1 hm1)
    have H1 := Lib.hid hown1
    have B1 := Lib.hid (below_of_grown HB.out hg1 (by simp) (fun a ha => by cases ha; exact Nat.le_refl _))
    clear hown1 hg1 hm1
    go_wp2
    go_ret
    have h1 := H1.out
    simp only [Nat.zero_add, List.nil_append] at h1
    exact ⟨A', cap', by simp, h1, B1.out⟩

/-- The first k elements turned by f. -/
theorem map_take_set {α : Type} (f : α → α) (l : List α) (k : Nat) (hk : k < l.length) : ((l.take k).map f ++ l.drop k).set k (f l[k]) = (l.take (k + 1)).map f ++ l.drop (k + 1) := by
  have h0 : ((l.take k).map f).length = k := by rw [List.length_map, List.length_take]; omega
  rw [List.set_append, if_neg (by omega), show k - ((l.take k).map f).length = 0 by omega, List.drop_eq_getElem_cons hk, List.set_cons_zero, List.take_succ_eq_append_getElem hk, List.map_append, List.append_assoc]
  rfl
theorem map_take_get {α : Type} (f : α → α) (l : List α) (k : Nat) (hk : k < l.length) (h : k < ((l.take k).map f ++ l.drop k).length) : ((l.take k).map f ++ l.drop k)[k] = l[k] := by
  rw [List.getElem_append_right (by simp; omega)]
  simp [List.length_take, Nat.min_eq_left (Nat.le_of_lt hk)]
theorem map_take_len {α : Type} (f : α → α) (l : List α) (k : Nat) : ((l.take k).map f ++ l.drop k).length = l.length := by
  rw [List.length_append, List.length_map, ← List.length_append, List.take_append_drop]

set_option maxHeartbeats 2000000 in
set_option maxRecDepth 100000 in
theorem inverseOf_any (A : Option Addr) (cap : Nat) (l : List UInt8) (w : World) (hl : RowAt w A l) (hA : A = none → l = []) (hn : l.length ≤ 1000000000) :
    Calls Try.prog 77 #[.slice A l.length cap, .func (.func 52) #[] #[]] w (CloneP w (invW l)) := by
  have hC := Clone_any A cap l w hl hA hn
  have HN := Lib.hid (show (invW l).length = l.length from ginv_len _ _)
  clear hl hA
  go_enter Try.func77, Try.ntmps77
  go_wp2_with fail
  refine hC.mono ?_
  rintro e w1 ⟨A1, c1, rfl, hown1, hb1⟩
  have HB1 := Lib.hid hb1
  have hR := Reverse_any w.heap.size A1 c1 l w1 hown1 hn hb1.size
  clear hown1 hb1 hC
  go_wp2_with fail
  refine hR.mono ?_
  rintro e w2 ⟨rfl, hown2, hb2⟩
  have HB2 := Lib.hid (HB1.out.trans hb2)
  have hlr : l.reverse.length = l.length := List.length_reverse
  have HO2 := Lib.hid hown2
  have HRL := Lib.hid hlr
  generalize hr : l.reverse = r at *
  have HR' : Hid (l.reverse = r) := Lib.hid hr
  clear hown2 hb2 hlr hr hR
  go_wp2
  go_loopw [6, 7, 14] (fun _ _ i wr => ∃ (k : Nat), k ≤ l.length ∧ i = .int .i64 (k : Int) ∧ wr.ownsRow w.heap.size 5 1 (.slice A1 l.length c1) l.length (bs ((r.take k).map invc ++ r.drop k)) ∧ Below w.heap.size w wr)
    (fun _ _ i _ => l.length - (intOf i).toNat)
  case atStart => exact ⟨0, Nat.zero_le _, rfl, by simpa using HO2.out, HB2.out⟩
  case round =>
    obtain ⟨k, hk, rfl, hown, hb⟩ := hrel
    have HOW := Lib.hid hown
    have HB := Lib.hid hb
    clear hown hb
    by_cases hlt : k < l.length
    · have hkr : k < r.length := by rw [HRL.out]; exact hlt
      obtain ⟨g, o, hA, hx⟩ := rowAt_own HOW.out k (by rw [map_take_len, HRL.out]; exact hlt)
      obtain rfl : o = 0 := by
        rcases own_shape HOW.out with ⟨h, _⟩ | ⟨g', h, _⟩
        · rw [hA] at h; cases h
        · rw [hA] at h; cases h; rfl
      subst hA
      rw [Nat.zero_add, map_take_get invc r k hkr] at hx
      have HST := Lib.hid (HOW.out.stored k (.int .u8 (invc r[k]).toNat))
      have HMS := Lib.hid (map_take_set invc r k hkr)
      have hf := HOW.out.frozenAt k
      generalize r[k] = x at *
      have hI := inverseLetter_any x wr
      clear hkr
      go_wp2_with fail
      refine hI.mono ?_
      rintro e w' ⟨rfl, rfl⟩
      go_wp2
      go_roundw
      case rel =>
        refine ⟨k + 1, by omega, by go_num, ?_, HB.out.trans ((Below.refl _ wr).setCell (p := ⟨g, k, none⟩) (show w.heap.size ≤ g from own_ge HOW.out ⟨g, 0, none⟩ rfl) _)⟩
        rw [← HMS.out, bs_set]
        exact (HST.out).1
      case measure => simp [intOf]; omega
    · obtain rfl : k = l.length := by omega
      have HE : Hid ((r.take l.length).map invc ++ r.drop l.length = invW l) := Lib.hid (by
        rw [← HRL.out, List.take_length, List.drop_length, List.append_nil, ← HR'.out]; simp [ginv])
      go_wp2
      go_ret
      refine ⟨A1, c1, ?_, ?_, HB.out⟩
      · rw [HN.out]; rfl
      · rw [HN.out, ← HE.out]; exact HOW.out
end Go.Proofs.Ytbcckfggnlmhoaa
