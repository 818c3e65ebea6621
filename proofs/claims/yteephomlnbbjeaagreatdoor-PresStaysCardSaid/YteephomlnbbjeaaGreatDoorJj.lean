/-
  Our own text, in the proofs of the laws of package pres (cayleylaw03). Proved here: solve of package pres; the method place of package pres: the dropGen in its box, its two rows of the call's own; the method place of package pres where the image is not empty; newDropGen of package pres. Conditions: the arguments lie in memory as the slices say; bounds; the listed tables lie as the program lays them.
-/
import Derived.Test.YteephomlnbbjeaaGreatDoorJi
import Derived.Deep.AppendLies
set_option linter.unusedVariables false
set_option linter.unusedSimpArgs false
set_option linter.unusedSectionVars false
namespace Go.Proofs.YteephomlnbbjeaaGreatDoor
open Go Go.RowKit

/-- The word that is equal to a letter by a relator that has it once. -/
def solL (l : List UInt8) (x : UInt8) : Option (List UInt8) :=
  if Lib.indexAny l [x, x ^^^ 32] < 0 ∨ Lib.indexAny l [x, x ^^^ 32] ≠ lastAny l [x, x ^^^ 32] then none
  else if l.getD (Lib.indexAny l [x, x ^^^ 32]).toNat 0 = x then some (red (invW (l.take (Lib.indexAny l [x, x ^^^ 32]).toNat) ++ invW (l.drop ((Lib.indexAny l [x, x ^^^ 32]).toNat + 1))))
  else some (red (l.drop ((Lib.indexAny l [x, x ^^^ 32]).toNat + 1) ++ l.take (Lib.indexAny l [x, x ^^^ 32]).toNat))
def solV : Option (List UInt8) → Value
  | none => .tuple #[.string ⟨#[]⟩, .bool false]
  | some u => .tuple #[.string ⟨u.toArray⟩, .bool true]

theorem indexAny_lt (c : List UInt8) : ∀ l : List UInt8, Lib.indexAny l c < l.length
  | [] => by simp [Lib.indexAny]
  | b :: l => by
    have ih := indexAny_lt c l
    unfold Lib.indexAny
    simp only [List.length_cons]
    split
    · omega
    · split
      · omega
      · omega
theorem isW_take {l : List UInt8} (h : isW l = true) (n : Nat) : isW (l.take n) = true := by
  simp only [isW, Bool.and_eq_true, decide_eq_true_eq, List.all_eq_true] at h ⊢
  exact ⟨by simp; omega, fun x hx => h.2 x (List.mem_of_mem_take hx)⟩
theorem isW_drop {l : List UInt8} (h : isW l = true) (n : Nat) : isW (l.drop n) = true := by
  simp only [isW, Bool.and_eq_true, decide_eq_true_eq, List.all_eq_true] at h ⊢
  exact ⟨by simp; omega, fun x hx => h.2 x (List.mem_of_mem_drop hx)⟩
theorem isW_app {l m : List UInt8} (h1 : isW l = true) (h2 : isW m = true) (hl : l.length + m.length ≤ 100000) : isW (l ++ m) = true := by
  simp only [isW, Bool.and_eq_true, decide_eq_true_eq, List.all_eq_true] at h1 h2 ⊢
  refine ⟨by simpa using hl, fun x hx => ?_⟩
  rcases List.mem_append.1 hx with h | h
  · exact h1.2 x h
  · exact h2.2 x h

set_option maxHeartbeats 4000000 in
set_option maxRecDepth 100000 in
theorem solve_any (l : List UInt8) (x : UInt8) (w : World) (ht : Tabs w) (hl : isW l = true) (hx : isW [x] = true) (hlen : l.length ≤ 1000) :
    Calls Tryz.prog 165 #[.string ⟨l.toArray⟩, .int .u8 x.toNat] w fun e w' => e = .returned (solV (solL l x)) ∧ Below w.heap.size w w' := by
  have hxs := small_of_isW hx x (by simp)
  have hys : (x ^^^ 32).toNat < 128 := by
    have h : ∀ n : Fin 256, n.1 < 128 → (UInt8.ofNat n.1 ^^^ 32).toNat < 128 := by decide +kernel
    have := h ⟨x.toNat, UInt8.toNat_lt x⟩ hxs
    simpa using this
  have hX : bits BinOp.xor IntKind.u8 (x.toNat : Int) 32 = ((x ^^^ 32).toNat : Int) := xor_u8 x 32
  have HT := Lib.hid ht
  have HW := Lib.hid hl
  have HS := Lib.hid (rfl : solL l x = solL l x)
  have hac : ∀ (j : Nat) b, (ByteArray.mk [x, x ^^^ 32].toArray).data.toList[j]? = some b → b.toNat < 128 := fun j b hb => by
    have := List.mem_of_getElem? hb
    simp at this
    rcases this with rfl | rfl
    · exact hxs
    · exact hys
  have HI : Hid (∀ X : World, Calls Tryz.prog 192 #[.string ⟨l.toArray⟩, .string ⟨[x, x ^^^ 32].toArray⟩] X fun e w' => e = .returned (.int .i64 (Lib.indexAny l [x, x ^^^ 32])) ∧ Below X.heap.size X w') := Lib.hid (fun X => IndexAny_any l ⟨[x, x ^^^ 32].toArray⟩ X HW.out rfl hac)
  have HLA : Hid (∀ X : World, Calls Tryz.prog 193 #[.string ⟨l.toArray⟩, .string ⟨[x, x ^^^ 32].toArray⟩] X fun e w' => e = .returned (.int .i64 (lastAny l [x, x ^^^ 32])) ∧ Below X.heap.size X w') := Lib.hid (fun X => LastAny_any l ⟨[x, x ^^^ 32].toArray⟩ X HW.out rfl hac)
  have hcv : (convert 82 9 (.slice (some ⟨w.heap.size, 0, none⟩) 2 2)).run Tryz.prog (w.alloc (.cells #[.int .u8 (x.toNat : Int), .int .u8 ((x.toNat ^^^ 32 : Nat) : Int)] 5)) = .ok (.string ⟨[x, x ^^^ 32].toArray⟩) (w.alloc (.cells #[.int .u8 (x.toNat : Int), .int .u8 ((x.toNat ^^^ 32 : Nat) : Int)] 5)) := by
    refine run_string_row _ _ 2 [x, x ^^^ 32] ?_
    intro i hi
    have hy : (x ^^^ 32).toNat = x.toNat ^^^ 32 := by rw [UInt8.toNat_xor]; rfl
    have h2 := blk2 (heap_alloc_new w (.cells #[.int .u8 (x.toNat : Int), .int .u8 ((x.toNat ^^^ 32 : Nat) : Int)] 5))
    refine ⟨w.heap.size, 0, rfl, ?_⟩
    rcases i with _ | _ | i
    · exact h2.1
    · rw [show ([x, x ^^^ 32])[1] = x ^^^ 32 from rfl, hy]; exact h2.2.1
    · simp at hi; omega
  have HB0 := Lib.hid ((Below.refl w.heap.size w).alloc (Nat.le_refl _) (.cells #[.int .u8 (x.toNat : Int), .int .u8 ((x.toNat ^^^ 32 : Nat) : Int)] 5))
  have hsz := size_mk l
  have HGE := Lib.hid (Lib.indexAny_ge [x, x ^^^ 32] l)
  have HLT := Lib.hid (indexAny_lt [x, x ^^^ 32] l)
  generalize hch : (⟨[x, x ^^^ 32].toArray⟩ : ByteArray) = ch at *
  have HSOL : Hid (solL l x = if Lib.indexAny l [x, x ^^^ 32] < 0 ∨ Lib.indexAny l [x, x ^^^ 32] ≠ lastAny l [x, x ^^^ 32] then none
  else if l.getD (Lib.indexAny l [x, x ^^^ 32]).toNat 0 = x then some (red (invW (l.take (Lib.indexAny l [x, x ^^^ 32]).toNat) ++ invW (l.drop ((Lib.indexAny l [x, x ^^^ 32]).toNat + 1))))
  else some (red (l.drop ((Lib.indexAny l [x, x ^^^ 32]).toNat + 1) ++ l.take (Lib.indexAny l [x, x ^^^ 32]).toNat))) := Lib.hid rfl
  generalize Lib.indexAny l [x, x ^^^ 32] = f at *
  generalize lastAny l [x, x ^^^ 32] = g at *
  generalize solL l x = sol at *
  clear ht hl hx hxs hys hac
  go_enter Tryz.func165, Tryz.ntmps165
  go_wp2_with fail
  refine (HI.out _).mono ?_
  rintro e w1 ⟨rfl, hb1⟩
  have HB1 := Lib.hid (HB0.out.trans (hb1.mono HB0.out.size))
  clear hb1 hcv hX
  by_cases hf : f < 0
  · have hd : decide (f < 0) = true := by simpa using hf
    go_wp2
    go_ret2
    exact ⟨by rw [HSOL.out, if_pos (.inl hf)]; rfl, HB1.out⟩
  · have hd : decide (f < 0) = false := by simpa using hf
    obtain ⟨n, rfl⟩ := Int.eq_ofNat_of_zero_le (show 0 ≤ f by omega)
    clear hf
    go_wp2_with fail
    refine (HLA.out _).mono ?_
    rintro e w2 ⟨rfl, hb2⟩
    have HB2 := Lib.hid (HB1.out.trans (hb2.mono HB1.out.size))
    clear hb2
    by_cases hg : (n : Int) = g
    · subst hg
      have hn : n < l.length := by have := HLT.out; omega
      have hne : ((n : Int) != (n : Int)) = false := by simp
      have hns : (n : Int) < ((ByteArray.mk l.toArray).size : Int) := by rw [hsz]; omega
      have hns0 : n < (ByteArray.mk l.toArray).size := by rw [hsz]; omega
      have hns1 : (n : Int) ≤ ((ByteArray.mk l.toArray).size : Int) := by omega
      have hns2 : ((n + 1 : Nat) : Int) ≤ ((ByteArray.mk l.toArray).size : Int) := by omega
      have hns3 : (n : Int) + 1 ≤ ((ByteArray.mk l.toArray).size : Int) := by omega
      have hw1 : IntKind.i64.wrap ((n : Int) + 1) = (n : Int) + 1 := IntWalk.i64_in _ (by omega)
      have hx1 : (ByteArray.mk l.toArray).extract 0 n = ⟨(l.take n).toArray⟩ := ba_ext (by simp)
      have hx2 : (ByteArray.mk l.toArray).extract (n + 1) l.length = ⟨(l.drop (n + 1)).toArray⟩ := ba_ext (by simp [size_mk]; exact List.take_of_length_le (by simp))
      have hxg : (ByteArray.mk l.toArray)[n]'hns0 = l.getD n 0 := by
        rw [List.getD_eq_getElem?_getD, List.getElem?_eq_getElem hn]; rfl
      have HD : Hid (sol = if l.getD n 0 = x then some (red (invW (l.take n) ++ invW (l.drop (n + 1)))) else some (red (l.drop (n + 1) ++ l.take n))) := Lib.hid (by
        rw [HSOL.out, if_neg (fun h => by rcases h with h | h; omega; exact h rfl)]; rfl)
      have HU := Lib.hid (isW_take HW.out n)
      have HV := Lib.hid (isW_drop HW.out (n + 1))
      have hul : (l.take n).length ≤ 1000 := by simp; omega
      have hvl : (l.drop (n + 1)).length ≤ 1000 := by simp; omega
      have fadd : ∀ a b : List UInt8, a.length ≤ 1000 → b.length ≤ 1000 → ∀ w, (Op.stringOp .add ⟨a.toArray⟩ ⟨b.toArray⟩).run Tryz.prog w = .ok (.string ⟨(a ++ b).toArray⟩) w := fun a b ha hb w => by
        rw [run_string_add_sum w _ _ (by rw [size_mk, size_mk]; omega)]
        congr 2
      have HF := Lib.hid fadd
      clear fadd
      have HIN : Hid (∀ (a : List UInt8) (X : World), isW a = true → a.length ≤ 1000 → Below w.heap.size w X → Calls Tryz.prog 75 #[.string ⟨a.toArray⟩] X (fun e w' => e = .returned (.string ⟨(invW a).toArray⟩) ∧ Below X.heap.size X w')) := Lib.hid (fun a X h1 h2 hX => Inverse_yes ⟨a.toArray⟩ X (HT.out.on hX) h1 (by rw [size_mk]; omega))
      have HRD : Hid (∀ (a : List UInt8) (X : World), isW a = true → Below w.heap.size w X → Calls Tryz.prog 118 #[.string ⟨a.toArray⟩] X (fun e w' => e = .returned (.string ⟨(red a).toArray⟩) ∧ Below X.heap.size X w')) := Lib.hid (fun a X h1 hX => Reduce_yes ⟨a.toArray⟩ X (HT.out.on hX) h1 (by have := isW_len h1; rw [size_mk]; omega))
      clear HLT HGE HSOL HI HLA hch HS hsz
      generalize l.take n = u at *
      generalize l.drop (n + 1) = v at *
      cases hq : ((ByteArray.mk l.toArray)[n]'hns0 == x) with
      | true =>
        have HZ : Hid (sol = some (red (invW u ++ invW v))) := Lib.hid (by rw [HD.out, if_pos]; rw [← hxg]; simpa using hq)
        have hq2 : (((ByteArray.mk l.toArray)[n]'hns0).toNat : Int) = (x.toNat : Int) := by rw [show (ByteArray.mk l.toArray)[n]'hns0 = x by simpa using hq]
        have hq3 : ((((ByteArray.mk l.toArray)[n]'hns0).toNat : Int) == (x.toNat : Int)) = true := by rw [hq2]; simp
        clear hxg hq
        go_wp2
        go_quiet (fail)
        have HBC := Lib.hid (HB2.out.drewN nq)
        generalize w2.drewN nq = w3 at *
        go_wp2_with fail
        refine (HIN.out u _ HU.out hul HBC.out).mono ?_
        rintro e w4 ⟨rfl, hb4⟩
        have HB4 := Lib.hid (HBC.out.trans (hb4.mono HBC.out.size))
        clear hb4
        go_wp2_with fail
        refine (HIN.out v _ HV.out hvl HB4.out).mono ?_
        rintro e w5 ⟨rfl, hb5⟩
        have HB5 := Lib.hid (HB4.out.trans (hb5.mono HB4.out.size))
        clear hb5
        have f1 := HF.out (invW u) (invW v) (by rw [invW_len]; exact hul) (by rw [invW_len]; exact hvl)
        have hR := HRD.out (invW u ++ invW v) w5 (isW_app (isW_invW HU.out) (isW_invW HV.out) (by rw [invW_len, invW_len]; omega)) HB5.out
        generalize invW u ++ invW v = uv at *
        go_wp2_with fail
        refine hR.mono ?_
        rintro e w6 ⟨rfl, hb6⟩
        have HB6 := Lib.hid (HB5.out.trans (hb6.mono HB5.out.size))
        clear hb6 hR f1
        go_wp2
        go_ret2
        exact ⟨by rw [HZ.out]; rfl, HB6.out⟩
      | false =>
        have HZ : Hid (sol = some (red (v ++ u))) := Lib.hid (by rw [HD.out, if_neg]; rw [← hxg]; simpa using hq)
        have hq2 : ¬ (((ByteArray.mk l.toArray)[n]'hns0).toNat : Int) = (x.toNat : Int) := fun h => by
          have h2 : ((ByteArray.mk l.toArray)[n]'hns0).toNat = x.toNat := by omega
          have h3 := UInt8.toNat_inj.1 h2
          rw [h3] at hq; simp at hq
        have hq3 : ((((ByteArray.mk l.toArray)[n]'hns0).toNat : Int) == (x.toNat : Int)) = false := beq_eq_false_iff_ne.2 hq2
        clear hxg hq
        go_wp2
        go_quiet (fail)
        have HBC := Lib.hid (HB2.out.drewN nq)
        generalize w2.drewN nq = w3 at *
        have f1 := HF.out v u hvl hul
        have hR := HRD.out (v ++ u) w3 (isW_app HV.out HU.out (by omega)) HBC.out
        generalize v ++ u = uv at *
        go_wp2_with fail
        refine hR.mono ?_
        rintro e w6 ⟨rfl, hb6⟩
        have HB6 := Lib.hid (HBC.out.trans (hb6.mono HBC.out.size))
        clear hb6 hR f1
        go_wp2
        go_ret2
        exact ⟨by rw [HZ.out]; rfl, HB6.out⟩
    · have hne : ((n : Int) != g) = true := by simpa using hg
      go_wp2
      go_ret2
      exact ⟨by rw [HSOL.out, if_pos (.inr hg)]; rfl, HB2.out⟩
end Go.Proofs.YteephomlnbbjeaaGreatDoor

namespace Go.Proofs.YteephomlnbbjeaaGreatDoor
open Go Go.RowKit

theorem Tryz.info3 : (Tryz.prog.info? 3).map (fun i => (i.zero, i.size, i.bytes)) = some (some (.int .i64 0), 1, 8) := by kernel_rfl
def intsV (l : List Int) : List Value := l.map (Value.int .i64)
theorem intsV_len (l : List Int) : (intsV l).length = l.length := by simp [intsV]
theorem intsV_app (l m : List Int) : intsV (l ++ m) = intsV l ++ intsV m := by simp [intsV]
theorem intsV_one (l : List Int) : ∀ u ∈ intsV l, u.oneCell' = true := by
  intro u hu; simp [intsV] at hu; obtain ⟨x, _, rfl⟩ := hu; rfl
theorem intOne (w : World) (x : Int) : ∀ (j : Nat) u, (intsV [x])[j]? = some u → (w.alloc (.cells #[.int .i64 x] 3)).cell? ((⟨w.heap.size, 0, none⟩ : Addr).add j) = some u := by
  intro j u hu
  have hj : j = 0 := by
    rcases j with _ | j
    · rfl
    · simp [intsV] at hu
  subst hj
  simp [intsV] at hu
  rw [add_lit, ← hu]
  exact (HasCells.new w #[.int .i64 x] 3).cell 0

/-- A dropGen in its box, with the rows that grow. -/
structure DG (w : World) (B g : Nat) (k : Int) (FV : Value) (rl : List (List UInt8)) (pl : List Int) (A : Option Addr) (cap : Nat) (L : Option Addr) (lc : Nat) : Prop where
  heap : w.heap[g]? = some (.cells #[.int .i64 k, .slice A rl.length cap, FV, .slice L pl.length lc] 133 (0, 0))
  gb : g < B
  bw : B ≤ w.heap.size
  ownR : w.ownsRow B 9 1 (.slice A rl.length cap) rl.length (ss rl)
  ownP : w.ownsRow B 3 1 (.slice L pl.length lc) pl.length (intsV pl)
  ne : ∀ b, blk A = some b → blk L ≠ some b

theorem heap_setAt {w : World} {g i : Nat} {cs : Array Value} {t : TypeId} {fr : Nat × Nat} (h : w.heap[g]? = some (.cells cs t fr)) (v : Value) : (w.setCell ⟨g, i, none⟩ v).heap[g]? = some (.cells (cs.setIfInBounds i v) t fr) := by
  simp only [World.setCell, Array.getElem?_modify, if_pos, h, Option.map_some]
  rfl
theorem blk4 {w : World} {g : Nat} {v0 v1 v2 v3 : Value} {t : TypeId} (h : w.heap[g]? = some (.cells #[v0, v1, v2, v3] t (0, 0))) :
    w.cell? ⟨g, 0, none⟩ = some v0 ∧ w.cell? ⟨g, 1, none⟩ = some v1 ∧ w.cell? ⟨g, 2, none⟩ = some v2 ∧ w.cell? ⟨g, 3, none⟩ = some v3 ∧ w.frozen? ⟨g, 1, none⟩ = false ∧ w.frozen? ⟨g, 3, none⟩ = false := by
  refine ⟨?_, ?_, ?_, ?_, ?_, ?_⟩
  · rw [cell_of_row w g 0 _ t (0, 0) h]; rfl
  · rw [cell_of_row w g 1 _ t (0, 0) h]; rfl
  · rw [cell_of_row w g 2 _ t (0, 0) h]; rfl
  · rw [cell_of_row w g 3 _ t (0, 0) h]; rfl
  · simp [World.frozen?, h]
  · simp [World.frozen?, h]
theorem own_blk_lt {w : World} {B e s n cap : Nat} {A : Option Addr} {xs : List Value} (h : w.ownsRow B e s (.slice A n cap) n xs) : ∀ b, blk A = some b → B ≤ b ∧ b < w.heap.size := by
  intro b hb
  rcases own_shape h with ⟨h1, _⟩ | ⟨g, h1, hg⟩
  · subst h1; cases hb
  · subst h1; cases hb; exact hg
theorem below_gb {w w' : World} {B g : Nat} {A : Option Addr} (hg : w.grownBy w' (blk A)) (hA : ∀ b, blk A = some b → B ≤ b) (hgB : g < B) (hB : B ≤ w.heap.size) : Below g w w' :=
  ((Below.refl B w).grown hg hB (fun k hk => hA k hk)).mono (Nat.le_of_lt hgB)

/-- Below B only block g may have changed. -/
def Far (B g : Nat) (w w' : World) : Prop := Below g w w' ∧ ∀ k, k < B → k ≠ g → w'.heap[k]? = w.heap[k]?
theorem Far.trans {B g : Nat} {a b c : World} (h1 : Far B g a b) (h2 : Far B g b c) : Far B g a c := ⟨h1.1.trans h2.1, fun k hk hne => (h2.2 k hk hne).trans (h1.2 k hk hne)⟩
theorem Far.of_below {B g : Nat} {a b : World} (hB : B ≤ a.heap.size) (hg : g < B) (h : Below a.heap.size a b) : Far B g a b := ⟨h.mono (by omega), fun k hk _ => h.block k (by omega)⟩
theorem far_step {w wn : World} {B g i : Nat} {A : Option Addr} (hg : w.grownBy wn (blk A)) (hA : ∀ b, blk A = some b → B ≤ b) (hB : B ≤ w.heap.size) (hgB : g < B) (v : Value) : Far B g w (wn.setCell ⟨g, i, none⟩ v) := by
  refine ⟨(below_gb hg hA hgB hB).setCell (Nat.le_refl _) v, fun k hk hne => ?_⟩
  have e : (wn.setCell ⟨g, i, none⟩ v).heap[k]? = wn.heap[k]? := by
    simp only [World.setCell, Array.getElem?_modify]
    rw [if_neg (fun e => hne e.symm)]
  rw [e]
  exact hg.block k (by omega) (fun e => by have := hA k e.symm; omega)
theorem StrsAt.far {w w' : World} {B g : Nat} {A : Option Addr} {l : List (List UInt8)} (h : StrsAt w A l) (hf : Far B g w w') (hA : ∀ a, A = some a → a.block < B ∧ a.block ≠ g) : StrsAt w' A l := by
  intro i hi
  obtain ⟨b, o, rfl, hc, hl⟩ := h i hi
  have h2 := hA _ rfl
  exact ⟨b, o, rfl, (World.cell?_of_block (w := w) (a := ⟨b, o + i, none⟩) (hf.2 b h2.1 h2.2)).trans hc, hl⟩

variable {w wn : World} {B g : Nat} {k : Int} {FV : Value} {rl : List (List UInt8)} {pl : List Int} {A L A' L' : Option Addr} {cap lc cap' lc' : Nat}
theorem DG.places (h : DG w B g k FV rl pl A cap L lc) (x : Int) (hg : w.grownBy wn (blk L)) (hm : Moved w L L') (ho : wn.ownsRow B 3 1 (.slice L' (pl.length + 1) lc') (pl.length + 1) (intsV (pl ++ [x]))) :
    DG (wn.setCell ⟨g, 3, none⟩ (.slice L' (pl.length + 1) lc')) B g k FV rl (pl ++ [x]) A cap L' lc' ∧ Far B g w (wn.setCell ⟨g, 3, none⟩ (.slice L' (pl.length + 1) lc')) := by
  have hL := own_blk_lt h.ownP
  have hA := own_blk_lt h.ownR
  have hgw : g < w.heap.size := Nat.lt_of_lt_of_le h.gb h.bw
  have hne : blk L ≠ some g := fun e => by have := (hL g e).1; have := h.gb; omega
  have hh := heap_grown h.heap hg hne
  refine ⟨⟨?_, h.gb, ?_, ?_, ?_, ?_⟩, far_step hg (fun b hb => (hL b hb).1) h.bw h.gb _⟩
  · rw [heap_setAt hh]; simp
  · rw [World.size_setCell]; exact Nat.le_trans h.bw hg.size
  · exact own_set (h.ownR.kept hg (by
      rw [ownBlock_slice]
      cases hq : blk A with
      | none => exact .inl rfl
      | some b => exact .inr (fun e => h.ne b hq e.symm))) _ _ h.gb
  · have := own_set ho ⟨g, 3, none⟩ (.slice L' (pl.length + 1) lc') h.gb
    simpa using this
  · intro b hb2 e
    rcases hm with hm | hm
    · rw [hm] at e; exact h.ne b hb2 e
    · have := hm b e; have := (hA b hb2).2; omega
theorem DG.rels (h : DG w B g k FV rl pl A cap L lc) (x : List UInt8) (hg : w.grownBy wn (blk A)) (hm : Moved w A A') (ho : wn.ownsRow B 9 1 (.slice A' (rl.length + 1) cap') (rl.length + 1) (ss (rl ++ [x]))) :
    DG (wn.setCell ⟨g, 1, none⟩ (.slice A' (rl.length + 1) cap')) B g k FV (rl ++ [x]) pl A' cap' L lc ∧ Far B g w (wn.setCell ⟨g, 1, none⟩ (.slice A' (rl.length + 1) cap')) := by
  have hL := own_blk_lt h.ownP
  have hA := own_blk_lt h.ownR
  have hne : blk A ≠ some g := fun e => by have := (hA g e).1; have := h.gb; omega
  have hh := heap_grown h.heap hg hne
  refine ⟨⟨?_, h.gb, ?_, ?_, ?_, ?_⟩, far_step hg (fun b hb => (hA b hb).1) h.bw h.gb _⟩
  · rw [heap_setAt hh]; simp
  · rw [World.size_setCell]; exact Nat.le_trans h.bw hg.size
  · have := own_set ho ⟨g, 1, none⟩ (.slice A' (rl.length + 1) cap') h.gb
    simpa using this
  · exact own_set (h.ownP.kept hg (by
      rw [ownBlock_slice]
      cases hq : blk L with
      | none => exact .inl rfl
      | some b => exact .inr (fun e => h.ne b e.symm hq))) _ _ h.gb
  · intro b hb2 e
    rcases hm with hm | hm
    · rw [hm] at hb2; exact h.ne b hb2 e
    · have := hm b hb2; have := (hL b e).2; omega
theorem DG.on (h : DG w B g k FV rl pl A cap L lc) (hb : Below w.heap.size w wn) : DG wn B g k FV rl pl A cap L lc :=
  ⟨heap_on h.heap hb, h.gb, Nat.le_trans h.bw hb.size, own_on h.ownR hb, own_on h.ownP hb, h.ne⟩

/-- append(x, i), ints. -/
theorem append_oneI {ops : Array Oper} {rest : List Oper} {o : Oper} {a : Act} {Q : Exit → Act → World → Prop} (w : World) (hgd : o.guard = none) (s x : Operand)
    (ho : o.op = .call { callee := .builtin .append, args := #[s, x], argTypes := #[60, 60] })
    (B : Nat) (A : Option Addr) (n cap : Nat) (d : List Int) (c : Int) (hs : a.eval s = .slice A n cap) (hown : w.ownsRow B 3 1 (.slice A n cap) n (intsV d))
    (hx : a.eval x = .slice (some ⟨w.heap.size, 0, none⟩) 1 1) (hn : n ≤ 100000000000) (hB : B ≤ w.heap.size)
    (h : ∀ A' cap' w', w'.ownsRow B 3 1 (.slice A' (n + 1) cap') (n + 1) (intsV (d ++ [c])) → w.grownBy w' (blk A) → Moved w A A' → wpList Tryz.prog ops Q rest (a.put o.dst (.slice A' (n + 1) cap')) w') :
    wpList Tryz.prog ops Q (o :: rest) a (w.alloc (.cells #[.int .i64 c] 3)) := by
  obtain ⟨i0, hi, hz0, hz1, hz2⟩ := info_parts Tryz.info3
  refine append_gen _ hgd s x 60 ho 3 i0 (.int .i64 0) 1 8 Tryz.underlying60 hi hz0 hz1 hz2 rfl (by decide) B A n cap (intsV d) hs (hown.alloc _) ⟨w.heap.size, 0, none⟩ 1 1 (intsV [c]) hx rfl (intOne w c) (intsV_one _) (by unfold maxLen; omega) (by omega) (by simp; omega) ?_
  intro A' cap' w' hown' hgrow hm
  refine h A' cap' w' (by rw [intsV_app]; exact hown') (grown_trans (World.grownBy_alloc w _ (blk A)) hgrow (.inl rfl)) ?_
  rcases hm with hm | hm
  · exact .inl hm
  · exact .inr fun k hk => by have := hm k hk; simp at this; omega

def plR (rl : List (List UInt8)) (r : List UInt8) : List (List UInt8) := if r = [] then rl else rl ++ [r]
def plI (rl : List (List UInt8)) (pl : List Int) (r : List UInt8) : List Int := if r = [] then pl ++ [-1] else pl ++ [(rl.length : Int)]
def PlaceP (w : World) (B g : Nat) (k : Int) (FV : Value) (rl : List (List UInt8)) (pl : List Int) (r : List UInt8) (e : Ending) (w' : World) : Prop :=
  e = .returned (.tuple #[]) ∧ (∃ A cap L lc, DG w' B g k FV (plR rl r) (plI rl pl r) A cap L lc) ∧ Far B g w w'

set_option maxHeartbeats 2000000 in
set_option maxRecDepth 100000 in
theorem place_empty (w : World) (h : DG w B g k FV rl pl A cap L lc) (hn : pl.length ≤ 100000) :
    Calls Tryz.prog 166 #[.pointer (some ⟨g, 0, none⟩), .string ⟨#[]⟩] w (PlaceP w B g k FV rl pl []) := by
  have HD := Lib.hid h
  obtain ⟨c0, c1, c2, c3, f1, f3⟩ := blk4 h.heap
  have hgw : g < w.heap.size := Nat.lt_of_lt_of_le h.gb h.bw
  have hBw := h.bw
  have ha3 : (w.alloc (.cells #[.int .i64 (-1)] 3)).cell? ⟨g, 3, none⟩ = some (.slice L pl.length lc) := by rw [World.cell?_alloc_lt _ _ _ hgw]; exact c3
  clear h
  go_enter Tryz.func166, Tryz.ntmps166
  go_wp2_with (at_builtin; refine append_oneI w rfl (.tmp 10) (.tmp 11) rfl B L pl.length lc pl (-1) rfl HD.out.ownP rfl (by omega) hBw ?_; intro L' lc' w1 hown1 hg1 hm1; have HX := Lib.hid (HD.out.places (-1) hg1 hm1 hown1); obtain ⟨_, _, _, _, _, k3⟩ := blk4 (heap_grown HD.out.heap hg1 (fun e => by have := (own_blk_lt HD.out.ownP g e).1; have := HD.out.gb; omega)); obtain ⟨_, _, _, d3, _, _⟩ := blk4 (heap_grown HD.out.heap hg1 (fun e => by have := (own_blk_lt HD.out.ownP g e).1; have := HD.out.gb; omega)); clear hown1 hg1 hm1)
  go_end0
  exact ⟨rfl, ⟨A, cap, L', lc', HX.out.1⟩, HX.out.2⟩
end Go.Proofs.YteephomlnbbjeaaGreatDoor

namespace Go.Proofs.YteephomlnbbjeaaGreatDoor
open Go Go.RowKit
variable {B g : Nat} {k : Int} {FV : Value} {rl : List (List UInt8)} {pl : List Int} {A L A' L' : Option Addr} {cap lc cap' lc' : Nat}

set_option maxHeartbeats 4000000 in
set_option maxRecDepth 100000 in
theorem place_more (r : List UInt8) (w : World) (h : DG w B g k FV rl pl A cap L lc) (hn : pl.length ≤ 100000) (hm : rl.length ≤ 100000) (hr : r ≠ []) (hrl : r.length ≤ 1000000) :
    Calls Tryz.prog 166 #[.pointer (some ⟨g, 0, none⟩), .string ⟨r.toArray⟩] w (PlaceP w B g k FV rl pl r) := by
  have HD := Lib.hid h
  obtain ⟨c0, c1, c2, c3, f1, f3⟩ := blk4 h.heap
  have hgw : g < w.heap.size := Nat.lt_of_lt_of_le h.gb h.bw
  have hBw := h.bw
  have hemp : (ByteArray.mk r.toArray).toList.isEmpty = false := by rw [Lib.toList_data]; simpa using hr
  have hre : r.isEmpty = false := by simpa using hr
  have HP : Hid (plR rl r = rl ++ [r] ∧ plI rl pl r = pl ++ [(rl.length : Int)]) := Lib.hid ⟨by unfold plR; rw [if_neg hr], by unfold plI; rw [if_neg hr]⟩
  have e1 : w.drew.cell? ⟨g, 1, none⟩ = some (.slice A rl.length cap) := c1
  have e3 : w.drew.cell? ⟨g, 3, none⟩ = some (.slice L pl.length lc) := c3
  have a3 : (w.alloc (.cells #[.int .i64 rl.length] 3)).drew.cell? ⟨g, 3, none⟩ = some (.slice L pl.length lc) := by
    show (w.alloc _).cell? _ = _
    rw [World.cell?_alloc_lt _ _ _ hgw]; exact c3
  have a1 : (w.alloc (.cells #[.int .i64 rl.length] 3)).drew.cell? ⟨g, 1, none⟩ = some (.slice A rl.length cap) := by
    show (w.alloc _).cell? _ = _
    rw [World.cell?_alloc_lt _ _ _ hgw]; exact c1
  have HA : Hid (DG (w.alloc (.cells #[.int .i64 rl.length] 3)).drew B g k FV rl pl A cap L lc) := Lib.hid (HD.out.on (((Below.refl _ w).alloc (Nat.le_refl _) _).drew))
  have hss : (w.alloc (.cells #[.int .i64 rl.length] 3)).drew.heap.size = w.heap.size + 1 := by simp
  have HSS := Lib.hid hss
  have HNW : Hid (∀ (j : Nat) u, (intsV [(rl.length : Int)])[j]? = some u → (w.alloc (.cells #[.int .i64 rl.length] 3)).drew.cell? ((⟨w.heap.size, 0, none⟩ : Addr).add j) = some u) := Lib.hid (intOne w rl.length)
  obtain ⟨i0, hi, hz0, hz1, hz2⟩ := info_parts Tryz.info3
  clear h hss
  go_enter Tryz.func166, Tryz.ntmps166
  go_wp2_with fail
  go_region_law (first
    | (refine step_append_lies (w := (w.alloc (.cells #[.int .i64 rl.length] 3)).drew) rfl (.tmp 19) (.tmp 27) 60 rfl B 3 i0 (.int .i64 0) 1 8 Tryz.underlying60 hi hz0 hz1 hz2 rfl (by decide) (.slice L pl.length lc) pl.length (intsV pl) rfl HA.out.ownP ⟨w.heap.size, 0, none⟩ 1 1 (intsV [(rl.length : Int)]) rfl rfl HNW.out (intsV_one _) (by omega) (by unfold maxLen; omega) (by omega) (by rw [HSS.out]; omega) (w.heap.size + 1) HSS.out ?_
       intro g1 lc1 w1 hown1 hg1 hor1 hlt1
       rw [ownBlock_slice] at hg1 hor1
       obtain ⟨_, _, _, d3, _, k3⟩ := blk4 (heap_grown HA.out.heap hg1 (fun e => by have := (own_blk_lt HA.out.ownP g e).1; have := HA.out.gb; omega))))
  all_goals (
    have hX := HA.out.places (wn := w1) (L' := some ⟨g1, 0, none⟩) (lc' := lc1) (rl.length : Int) hg1 (by
      rcases hor1 with e | e
      · exact .inl e.symm
      · exact .inr fun b hb => by cases hb; rw [HSS.out, e]; exact Nat.le_refl _) (by rw [intsV_app]; exact hown1)
    have HX := Lib.hid hX.1
    have HB : Hid (Far B g w (w1.setCell ⟨g, 3, none⟩ (.slice (some ⟨g1, 0, none⟩) (pl.length + 1) lc1))) := Lib.hid ((Far.of_below hBw HD.out.gb ((Below.refl _ w).alloc (Nat.le_refl _) (.cells #[.int .i64 rl.length] 3)).drew).trans hX.2)
    clear hX hown1 hg1 hor1 hlt1 d3 k3 e1 e3 a1 a3 c0 c1 c2 c3 f1 f3 hBw hgw
    generalize w1.setCell ⟨g, 3, none⟩ (.slice (some ⟨g1, 0, none⟩) (pl.length + 1) lc1) = w2 at *
    have HX2 : Hid (DG (w2.alloc (.cells #[.string ⟨r.toArray⟩] 9)) B g k FV rl (pl ++ [(rl.length : Int)]) A cap (some ⟨g1, 0, none⟩) lc1) := Lib.hid (HX.out.on ((Below.refl _ w2).alloc (Nat.le_refl _) _))
    have hgw : g < w2.heap.size := Nat.lt_of_lt_of_le HX.out.gb HX.out.bw
    have hBw := HX.out.bw
    obtain ⟨c0, c1, c2, c3, f1, f3⟩ := blk4 HX.out.heap
    go_wp2_with (at_builtin; refine append_strs (w2.alloc (.cells #[.string ⟨r.toArray⟩] 9)) rfl (.tmp 37) (.tmp 39) rfl B A rl.length cap rl [r] rfl HX2.out.ownR ⟨w2.heap.size, 0, none⟩ 1 1 rfl rfl (strsOne w2 r (by omega)) (by omega) (by simp; omega) ?_; intro A' cap' w3 hown3 hg3 hm3; have HY := Lib.hid (HX2.out.rels r hg3 hm3 hown3); obtain ⟨_, d1, _, _, k1, _⟩ := blk4 (heap_grown HX2.out.heap hg3 (fun e => by have := (own_blk_lt HX2.out.ownR g e).1; have := HX2.out.gb; omega)); clear hown3 hg3 hm3)
    go_end0
    refine ⟨rfl, ⟨A', cap', some ⟨g1, 0, none⟩, lc1, ?_⟩, HB.out.trans ((Far.of_below hBw HX.out.gb ((Below.refl _ w2).alloc (Nat.le_refl _) (.cells #[.string ⟨r.toArray⟩] 9))).trans HY.out.2)⟩
    rw [HP.out.1, HP.out.2]
    exact HY.out.1)
end Go.Proofs.YteephomlnbbjeaaGreatDoor

namespace Go.Proofs.YteephomlnbbjeaaGreatDoor
open Go Go.RowKit

theorem place_any {B g : Nat} {k : Int} {FV : Value} {rl : List (List UInt8)} {pl : List Int} {A L : Option Addr} {cap lc : Nat} (r : List UInt8) (w : World) (h : DG w B g k FV rl pl A cap L lc) (hn : pl.length ≤ 100000) (hm : rl.length ≤ 100000) (hrl : r.length ≤ 1000000) :
    Calls Tryz.prog 166 #[.pointer (some ⟨g, 0, none⟩), .string ⟨r.toArray⟩] w (PlaceP w B g k FV rl pl r) := by
  by_cases hr : r = []
  · subst hr; exact place_empty w h hn
  · exact place_more r w h hn hm hr hrl

abbrev DGs := List (List UInt8) × List Int
def dgStep (h : List (List UInt8)) (acc : Option DGs) (r : List UInt8) : Option DGs := acc.bind fun a => if longB (imgR h r) then none else some (plR a.1 (imgR h r), plI a.1 a.2 (imgR h r))
def dgL (h : List (List UInt8)) (l : List (List UInt8)) : Option DGs := l.foldl (dgStep h) (some ([], []))
theorem dgL_take (h : List (List UInt8)) (l : List (List UInt8)) (n : Nat) (hn : n < l.length) : dgL h (l.take (n + 1)) = dgStep h (dgL h (l.take n)) l[n] := by
  unfold dgL; rw [List.take_succ_eq_append_getElem hn, List.foldl_append]; rfl
theorem dg_none (h : List (List UInt8)) (l : List (List UInt8)) : l.foldl (dgStep h) none = none := by
  induction l with
  | nil => rfl
  | cons r l ih => simp [dgStep, ih]
theorem dgL_no (h : List (List UInt8)) (l : List (List UInt8)) (n : Nat) (hn : n < l.length) (hz : dgL h (l.take (n + 1)) = none) : dgL h l = none := by
  have e : l = l.take (n + 1) ++ l.drop (n + 1) := (List.take_append_drop _ _).symm
  unfold dgL at hz ⊢
  rw [e, List.foldl_append, hz, dg_none]
theorem plR_len (rl : List (List UInt8)) (r : List UInt8) : (plR rl r).length ≤ rl.length + 1 := by unfold plR; split <;> simp
theorem plI_len (rl : List (List UInt8)) (pl : List Int) (r : List UInt8) : (plI rl pl r).length = pl.length + 1 := by unfold plI; split <;> simp

def dgLast (p : Pr) : Nat := (p.k - 1).toNat
def dgImg (p : Pr) (t : Tz) : Option (List UInt8) := solL (p.rels.getD t.rel.toNat []) (let_ (2 * (dgLast p : Int)))
def dgFwd (p : Pr) (im : List UInt8) : List (List UInt8) := letS (dgLast p) ++ [im]
def dgRE (p : Pr) (t : Tz) : Int := if relIn p t.rel = false then 1 else if p.k < 2 then 30 else match dgImg p t with
  | none => 30
  | some im => match dgL (homL (dgFwd p im)) p.rels with | none => 2 | some _ => 0
def dgRC (p : Pr) (t : Tz) : Option Chg := if relIn p t.rel = false then none else if p.k < 2 then none else match dgImg p t with
  | none => none
  | some im => match dgL (homL (dgFwd p im)) p.rels with | none => none | some a => some (.dropGen ⟨(dgLast p : Int), a.1⟩ (dgFwd p im) a.2)

theorem mem_stp {r : List UInt8} {c x : UInt8} (h : x ∈ stp r c) : x ∈ r ∨ x = c := by
  unfold stp at h
  split at h
  · simp at h; exact .inr h
  · split at h
    · exact .inl (List.mem_cons_of_mem _ h)
    · rcases List.mem_cons.1 h with h | h
      · exact .inr h
      · exact .inl h
theorem mem_fold : ∀ (l r : List UInt8) (x : UInt8), x ∈ l.foldl stp r → x ∈ r ∨ x ∈ l
  | [], _, _, h => .inl h
  | c :: l, r, x, h => by
    rcases mem_fold l (stp r c) x h with h | h
    · rcases mem_stp h with h | h
      · exact .inl h
      · exact .inr (by rw [h]; exact List.mem_cons_self ..)
    · exact .inr (List.mem_cons_of_mem _ h)
theorem isW_red {l : List UInt8} (h : isW l = true) : isW (red l) = true := by
  simp only [isW, Bool.and_eq_true, decide_eq_true_eq, List.all_eq_true] at h ⊢
  refine ⟨Nat.le_trans (red_len l) h.1, fun x hx => h.2 x ?_⟩
  simp only [red, List.mem_reverse, redR] at hx
  rcases mem_fold l [] x hx with h | h
  · cases h
  · exact h

theorem isW_sol {l : List UInt8} {x : UInt8} {im : List UInt8} (h : solL l x = some im) (hl : isW l = true) (hlen : l.length ≤ 1000) : isW im = true ∧ im.length ≤ 1000 := by
  have hsub : ∀ u : List UInt8, isW u = true → isW (red u) = true := fun u hu => isW_red hu
  unfold solL at h
  generalize (Lib.indexAny l [x, x ^^^ 32]).toNat = n at h
  split at h
  · cases h
  · split at h
    · cases h
      have hlen2 : (invW (l.take n) ++ invW (l.drop (n + 1))).length ≤ 1000 := by simp only [List.length_append, invW_len, List.length_take, List.length_drop]; omega
      refine ⟨hsub _ (isW_app (isW_invW (isW_take hl n)) (isW_invW (isW_drop hl (n + 1))) (by simpa using (by omega : (invW (l.take n) ++ invW (l.drop (n + 1))).length ≤ 100000))), ?_⟩
      exact Nat.le_trans (red_len _) hlen2
    · cases h
      have hlen2 : (l.drop (n + 1) ++ l.take n).length ≤ 1000 := by simp only [List.length_append, List.length_take, List.length_drop]; omega
      refine ⟨hsub _ (isW_app (isW_drop hl (n + 1)) (isW_take hl n) (by simpa using (by omega : (l.drop (n + 1) ++ l.take n).length ≤ 100000))), ?_⟩
      exact Nat.le_trans (red_len _) hlen2
theorem Short.plR {rl : List (List UInt8)} (h : Short rl) {v : List UInt8} (hv : v.length ≤ 100000) : Short (plR rl v) := by
  unfold Go.Proofs.YteephomlnbbjeaaGreatDoor.plR
  split
  · exact h
  · exact h.app (fun x hx => by simp at hx; subst hx; omega)
theorem intsAt_own {w : World} {B n cap : Nat} {A : Option Addr} {l : List Int} (h : w.ownsRow B 3 1 (.slice A n cap) n (intsV l)) : IntsAt w A l := by
  intro i hi
  have hl : l.length = n := by have := h.1; simpa [intsV_len] using this
  rcases own_shape h with ⟨_, h2, _⟩ | ⟨g, hg, _⟩
  · omega
  · subst hg
    refine ⟨g, 0, rfl, ?_⟩
    rw [Nat.zero_add, h.cellAt i (by omega)]
    simp [intsV, hi]
end Go.Proofs.YteephomlnbbjeaaGreatDoor
