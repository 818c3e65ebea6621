/-
  Our own text, in the proofs of the laws of package pres (cayleylaw03). Proved here: word.Index and isLetter return what the table says, in every world whose tables lie as initialised; bytes as cells, and string(bytes) of an own row; check, isWord and cancel return what the lists say; inverse and Inverse return the inverse word; reduce returns the free reduction. Conditions: the arguments lie in memory as the slices say; bounds; the listed tables lie as the program lays them.
-/
import Derived.Test.YteephomlnbbjeaaGreatDoorProg
import Derived.WalkKit
import Derived.WalkSpells
import Derived.WalkLawsBesides
import Derived.Lib.LaidTab
import Derived.Lib.Hide
import Derived.Lib.ItoaNum
import Derived.Lib.AppendIntMem
import Derived.WalkSmall
import Derived.OwnWalk
import Derived.Laws.BytesString
import Derived.Laws.BitsAllLaws
import Derived.Deep.QuietTactic
import Derived.BigQuiet
set_option linter.unusedVariables false
set_option linter.unusedSimpArgs false
set_option linter.unusedSectionVars false
namespace Go.Proofs.YteephomlnbbjeaaGreatDoor
open Go.RowKit

/-- The table of letters' places, as the program lays it. -/
def placesL : List Int := List.replicate 65 0 ++ [2, 4, 6, 8, 10, 12, 14, 16] ++ List.replicate 24 0 ++ [1, 3, 5, 7, 9, 11, 13, 15]
def lettersL : List Int := [97, 65, 98, 66, 99, 67, 100, 68, 101, 69, 102, 70, 103, 71, 104, 72]

/-- The index of a byte: what word.Index returns. -/
def idx (c : UInt8) : Int := if c.toNat < 105 then placesL.getD c.toNat 0 - 1 else -1

theorem placesL_bound (i : Nat) : 0 ≤ placesL.getD i 0 ∧ placesL.getD i 0 ≤ 16 := by
  by_cases h : i < 105
  · have : ∀ i, i < 105 → 0 ≤ placesL.getD i 0 ∧ placesL.getD i 0 ≤ 16 := by decide
    exact this i h
  · have hl : placesL.length = 105 := by decide
    have : placesL.getD i 0 = 0 := by simp [List.getD, List.getElem?_eq_none (show placesL.length ≤ i by omega)]
    omega

theorem idx_bound (c : UInt8) : -1 ≤ idx c ∧ idx c ≤ 15 := by
  unfold idx; have := placesL_bound c.toNat; split <;> omega

structure Tabs (w : World) : Prop where
  places : ∀ i, i < 105 → w.cell? ⟨1, i, none⟩ = some (.int .i8 (placesL.getD i 0))
  letters : ∀ i, i < 16 → w.cell? ⟨0, i, none⟩ = some (.int .u8 (lettersL.getD i 0))
  pow : Lib.TabIs Tryz.prog w "internal/strconv.uint64pow10" .u64 Lib.pow10Tab

theorem gPow : Tryz.prog.globalNamed "internal/strconv.uint64pow10" = some 3 := by kernel_rfl
theorem lt_of_cell {w : World} {a : Addr} {v : Value} (h : w.cell? a = some v) : a.block < w.heap.size := by
  rcases Nat.lt_or_ge a.block w.heap.size with h' | h'
  · exact h'
  · simp [World.cell?, Array.getElem?_eq_none h'] at h
theorem Tabs.three {w : World} (ht : Tabs w) : 3 < w.heap.size := lt_of_cell (ht.pow.cell gPow 0 (by decide))
theorem Tabs.below {w w' : World} {B : Nat} (ht : Tabs w) (hB : 3 < B) (hb : Below B w w') : Tabs w' :=
  ⟨fun i h => (hb.cell (show (1 : Nat) < B by omega)).trans (ht.places i h), fun i h => (hb.cell (show (0 : Nat) < B by omega)).trans (ht.letters i h), var?_below hb gPow hB ht.pow⟩
theorem Tabs.on {w w' : World} (ht : Tabs w) (hb : Below w.heap.size w w') : Tabs w' := ht.below ht.three hb
theorem Tabs.drewN {w : World} (ht : Tabs w) (n : Nat) : Tabs (w.drewN n) := ⟨ht.places, ht.letters, ht.pow⟩
theorem Tabs.tab {w : World} (ht : Tabs w) {B : Nat} (hB : 3 < B) : Lib.TabBelow Tryz.prog B w "internal/strconv.uint64pow10" .u64 Lib.pow10Tab :=
  fun _ h => (ht.below hB h).pow

set_option maxHeartbeats 400000 in
theorem index_any (c : UInt8) (w : World) (ht : Tabs w) :
    Calls Tryz.prog 157 #[.int .u8 c.toNat] w fun e w' => e = .returned (.int .i64 (idx c)) ∧ w = w' := by
  have hb := placesL_bound c.toNat
  have hc8 : c.toNat < 256 := c.toNat_lt
  by_cases h : c.toNat < 105
  · have hc := ht.places _ h
    have hi : idx c = placesL.getD c.toNat 0 - 1 := by simp [idx, h]
    have HI := Lib.hid hi
    clear hi
    generalize placesL.getD c.toNat 0 = p at *
    clear ht
    go_enter Tryz.func157, Tryz.ntmps157
    go_wp2
    go_ret
    exact ⟨by rw [HI.out]; rfl, rfl⟩
  · have hi : idx c = -1 := by simp [idx, h]
    have HI := Lib.hid hi
    clear hi ht
    go_enter Tryz.func157, Tryz.ntmps157
    go_wp2
    go_ret
    exact ⟨by rw [HI.out]; rfl, rfl⟩

/-- word.isLetter. -/
def letterB (k : Int) (c : UInt8) : Bool := decide (0 ≤ idx c) && decide (idx c < 2 * k)

set_option maxHeartbeats 400000 in
theorem isLetter_any (k : Int) (c : UInt8) (w : World) (ht : Tabs w) (hk0 : 0 ≤ k) (hk : k ≤ 8) :
    Calls Tryz.prog 128 #[.int .i64 k, .int .u8 c.toNat] w fun e w' => e = .returned (.bool (letterB k c)) ∧ w = w' := by
  have hb := idx_bound c
  have hI := index_any c w ht
  clear ht
  by_cases h0 : 0 ≤ idx c
  · have hr : letterB k c = decide (idx c < 2 * k) := by simp [letterB, h0]
    have HR := Lib.hid hr
    clear hr
    generalize idx c = p at *
    go_enter Tryz.func128, Tryz.ntmps128
    go_wp2_with (go_at_call 157; refine hI.mono ?_; rintro e w' ⟨rfl, rfl⟩)
    go_outline
    go_ret
    exact ⟨by rw [HR.out]; rfl, rfl⟩
  · have hr : letterB k c = false := by simp [letterB, h0]
    have HR := Lib.hid hr
    clear hr
    generalize idx c = p at *
    go_enter Tryz.func128, Tryz.ntmps128
    go_wp2_with (go_at_call 157; refine hI.mono ?_; rintro e w' ⟨rfl, rfl⟩)
    go_outline
    go_ret
    exact ⟨by rw [HR.out]; rfl, rfl⟩
end Go.Proofs.YteephomlnbbjeaaGreatDoor

namespace Go.Proofs.YteephomlnbbjeaaGreatDoor
open Go Go.RowKit

/-- The cells of a row of bytes. -/
def bs (l : List UInt8) : List Value := l.map fun c => Value.int .u8 c.toNat

theorem foldl_push_bytes (l : List UInt8) : ∀ s : ByteArray, (l.map fun c => (c.toNat : Int)).foldl (fun (r : ByteArray) n => r.push (UInt8.ofNat n.toNat)) s = ⟨s.data ++ l.toArray⟩ := by
  induction l with
  | nil => intro s; simp
  | cons c l ih =>
    intro s
    rw [List.map_cons, List.foldl_cons, ih]
    cases s with | mk d => 
    show ByteArray.mk (d.push _ ++ l.toArray) = ByteArray.mk (d ++ (c :: l).toArray)
    congr 1
    apply Array.ext'
    simp

theorem run_string_own {P : Program} (w : World) (src dst e : TypeId) (hs : P.underlying src = some (.slice e)) (he : P.underlying e = some (.int .u8)) (hd : P.underlying dst = some .string)
    (base : Nat) (A : Option Addr) (n cap : Nat) (l : List UInt8) (hown : w.ownsRow base e 1 (.slice A n cap) n (bs l)) :
    (convert src dst (.slice A n cap)).run P w = .ok (.string ⟨l.toArray⟩) w := by
  rw [run_convert_bytes_string w src dst e A n cap hs he hd]
  have hl : l.length = n := by have := hown.1; simpa [bs] using this
  cases A with
  | none =>
    rcases hown.2 with ⟨h1, h2⟩ | ⟨g, c, cur, h1, _⟩
    · have : l = [] := by cases l with
        | nil => rfl
        | cons c l => simp_all [bs]
      subst this
      simp [Conv.bytesToString, Sem.run_pure]
      rfl
    · simp at h1
  | some ad =>
    rcases hown.2 with ⟨h1, h2⟩ | ⟨g, c, cur, h1, hrest⟩
    · simp at h1
    · simp only [Value.slice.injEq, Option.some.injEq, true_and] at h1
      obtain ⟨rfl, rfl⟩ := h1
      have hc := hown.cells (g := g) rfl
      have hrun := run_loadCells_list (P := P) (w := w) (⟨g, 0, none⟩ : Addr) (bs l) hc
      have : (bs l).length = n := by simp [bs, hl]
      rw [this] at hrun
      have e2 : bs l = (l.map fun c => (c.toNat : Int)).map (Value.int .u8) := by simp [bs]
      rw [e2] at hrun
      rw [run_bytesToString w _ n cap _ hrun]
      rw [foldl_push_bytes]
      congr 2
      show ByteArray.mk (#[] ++ l.toArray) = _
      simp

theorem wpList_string_own {P : Program} (w : World) {ops : Array Oper} {rest : List Oper} {o : Oper} {a : Act} {Q : Exit → Act → World → Prop}
    (hg : o.guard = none) (x : Operand) (src dst e : TypeId) (hop : o.op = Op.convert src dst x) (hs : P.underlying src = some (.slice e)) (he : P.underlying e = some (.int .u8)) (hd : P.underlying dst = some .string)
    (base : Nat) (A : Option Addr) (n cap : Nat) (l : List UInt8) (hx : a.eval x = .slice A n cap) (hown : w.ownsRow base e 1 (.slice A n cap) n (bs l))
    (hK : wpList P ops Q rest (a.put o.dst (.string ⟨l.toArray⟩)) w) :
    wpList P ops Q (o :: rest) a w := by
  refine wpList_plain hg fun K hK' => ?_
  have hrun := run_string_own (P := P) w src dst e hs he hd base A n cap l hown
  unfold Oper.wp
  simp [execOp, hop, hx, hrun, Result.andThen]
  exact hK' _ _ hK
end Go.Proofs.YteephomlnbbjeaaGreatDoor

namespace Go.Proofs.YteephomlnbbjeaaGreatDoor
open Go.RowKit

/-- What word.Check answers. -/
def checkI (k : Int) (l : List UInt8) : Int :=
  if k < 1 ∨ 8 < k then 1 else if 100000 < l.length then 2 else if l.all (letterB k) then 0 else 4

theorem ret_int {k : IntKind} {a b : Int} (h : a = b) : Ending.returned (.int k a) = .returned (.int k b) := by rw [h]

theorem all_take_succ (s : ByteArray) (p : UInt8 → Bool) (n : Nat) (h : n < s.size) :
    (s.data.toList.take (n + 1)).all p = ((s.data.toList.take n).all p && p s[n]) := by
  rw [List.take_succ_eq_append_getElem (by simpa using h)]
  simp [List.all_append]; rfl

theorem xor_u8 (x y : UInt8) : bits BinOp.xor IntKind.u8 (x.toNat : Int) (y.toNat : Int) = ((x ^^^ y).toNat : Int) := by
  rw [u8_xor_nat _ _ x.toNat_lt y.toNat_lt]; simp

set_option maxHeartbeats 400000 in
theorem cancel_any (x y : UInt8) (w : World) :
    Calls Tryz.prog 161 #[.int .u8 x.toNat, .int .u8 y.toNat] w fun e w' => e = .returned (.bool (x ^^^ y == 32)) ∧ w = w' := by
  go_enter Tryz.func161, Tryz.ntmps161
  go_wp2
  go_ret
  refine ⟨?_, rfl⟩
  show Ending.returned (Value.bool (bits BinOp.xor IntKind.u8 ↑x.toNat ↑y.toNat == 32)) = _
  rw [xor_u8]
  congr 2
  rw [Bool.eq_iff_iff]
  simp only [beq_iff_eq]
  constructor
  · intro h; apply UInt8.toNat_inj.1; simpa using (by exact_mod_cast h : (x ^^^ y).toNat = 32)
  · intro h; rw [h]; rfl

set_option maxHeartbeats 400000 in
theorem check_any (k : Int) (s : ByteArray) (w : World) (ht : Tabs w) (hs : s.size ≤ maxLen) :
    Calls Tryz.prog 76 #[.int .i64 k, .string s] w fun e w' => e = .returned (.int .i64 (checkI k s.data.toList)) ∧ w = w' := by
  unfold maxLen at hs
  by_cases h1 : k < 1
  · have hr : checkI k s.data.toList = 1 := by simp [checkI, h1]
    have HR := Lib.hid hr
    clear hr ht
    go_enter Tryz.func76, Tryz.ntmps76
    go_wp2
    go_ret
    exact ⟨by rw [HR.out]; rfl, rfl⟩
  by_cases h2 : 8 < k
  · have hr : checkI k s.data.toList = 1 := by simp [checkI, h2]
    have HR := Lib.hid hr
    clear hr ht
    go_enter Tryz.func76, Tryz.ntmps76
    go_wp2
    go_ret
    exact ⟨by rw [HR.out]; rfl, rfl⟩
  by_cases h3 : 100000 < s.size
  · have hr : checkI k s.data.toList = 2 := by simp [checkI, h1, h2]; omega
    have HR := Lib.hid hr
    clear hr ht
    go_enter Tryz.func76, Tryz.ntmps76
    go_wp2
    go_outline
    go_ret
    exact ⟨by rw [HR.out]; rfl, rfl⟩
  have hr : checkI k s.data.toList = if s.data.toList.all (letterB k) then 0 else 4 := by
    unfold checkI; rw [if_neg (by omega), if_neg (by simpa using h3)]
  have HR := Lib.hid hr
  clear hr
  go_enter Tryz.func76, Tryz.ntmps76
  go_wp2
  go_loop [17] (fun i => ∃ n : Nat, n ≤ s.size ∧ i = .int .i64 n ∧ (s.data.toList.take n).all (letterB k) = true) (fun i => s.size - (intOf i).toNat)
  case atStart => exact ⟨0, Nat.zero_le _, rfl, rfl⟩
  case round =>
    obtain ⟨n, hn, rfl, hall⟩ := hrel
    have HA := Lib.hid hall
    clear hall
    by_cases hlt : n < s.size
    · have ha := all_take_succ s (letterB k) n hlt
      have HS := Lib.hid ha
      clear ha
      have hL := isLetter_any k s[n] w ht (by omega) (by omega)
      clear ht
      by_cases hb : letterB k s[n] = true
      · have Hb := Lib.hid hb
        rw [hb] at hL
        clear hb
        go_wp2_with (go_at_call 128; refine hL.mono ?_; rintro e w' ⟨rfl, rfl⟩)
        go_round
        case rel => exact ⟨n + 1, by omega, by go_num, by rw [HS.out, HA.out, Hb.out]; rfl⟩
        case measure => simp [intOf]; omega
      · have hb' : letterB k s[n] = false := by simpa using hb
        have hz : s.data.toList.all (letterB k) = false := by
          rw [List.all_eq_false]
          exact ⟨s[n], by have : s[n] = s.data.toList[n]'(by simpa using hlt) := rfl
                          rw [this]; exact List.getElem_mem _, by simpa using hb⟩
        have HZ := Lib.hid hz
        rw [hb'] at hL
        clear hb hb' hz
        go_wp2_with (go_at_call 128; refine hL.mono ?_; rintro e w' ⟨rfl, rfl⟩)
        go_ret
        exact ⟨by rw [HR.out, HZ.out]; rfl, rfl⟩
    · have hz := HA.out
      rw [List.take_of_length_le (by simp; omega)] at hz
      have HZ := Lib.hid hz
      clear hz
      go_wp2
      go_ret
      exact ⟨by rw [HR.out, if_pos HZ.out]; rfl, rfl⟩

/-- A word of 8 generators. -/
def isW (l : List UInt8) : Bool := decide (l.length ≤ 100000) && l.all (letterB 8)
theorem checkI_8 (l : List UInt8) : (checkI 8 l == 0) = isW l := by
  unfold checkI isW
  rw [if_neg (by omega)]
  by_cases h : 100000 < l.length
  · rw [if_pos h]; have : ¬ l.length ≤ 100000 := by omega
    simp [this]
  · rw [if_neg h]; have : l.length ≤ 100000 := by omega
    cases l.all (letterB 8) <;> simp [this]

set_option maxHeartbeats 400000 in
theorem isWord_any (s : ByteArray) (w : World) (ht : Tabs w) (hs : s.size ≤ maxLen) :
    Calls Tryz.prog 114 #[.string s] w fun e w' => e = .returned (.bool (isW s.data.toList)) ∧ w = w' := by
  have hC := check_any 8 s w ht hs
  have h8 := checkI_8 s.data.toList
  have H8 := Lib.hid h8
  generalize checkI 8 s.data.toList = r at *
  clear h8 ht
  go_enter Tryz.func114, Tryz.ntmps114
  go_wp2_with (go_at_call 76; refine hC.mono ?_; rintro e w' ⟨rfl, rfl⟩)
  go_ret
  exact ⟨by rw [← H8.out]; rfl, rfl⟩
end Go.Proofs.YteephomlnbbjeaaGreatDoor

namespace Go.Proofs.YteephomlnbbjeaaGreatDoor
open Go Go.RowKit

theorem Tryz.info5 : (Tryz.prog.info? 5).map (fun i => (i.zero, i.size, i.bytes)) = some (some (.int .u8 0), 1, 1) := by kernel_rfl

/-- The inverse of a letter, and of a word. -/
def invc (c : UInt8) : UInt8 := c ^^^ 32
def invW (l : List UInt8) : List UInt8 := (l.map invc).reverse

theorem xor_u8_32 (x : UInt8) : bits BinOp.xor IntKind.u8 (x.toNat : Int) 32 = ((invc x).toNat : Int) := xor_u8 x 32

theorem invW_snoc (s : ByteArray) (k : Nat) (h : k < s.size) (n : Nat) :
    (List.replicate (n + 1) (0 : UInt8) ++ invW (s.data.toList.take k)).set n (invc s[k]) = List.replicate n 0 ++ invW (s.data.toList.take (k + 1)) := by
  have e : s.data.toList.take (k + 1) = s.data.toList.take k ++ [s[k]] := by
    rw [List.take_succ_eq_append_getElem (by simpa using h)]; rfl
  rw [e]
  simp [invW, List.replicate_succ', List.set_append]

theorem bs_set (l : List UInt8) (n : Nat) (c : UInt8) : bs (l.set n c) = (bs l).set n (.int .u8 c.toNat) := by
  simp [bs, List.map_set]
theorem below_set {w w' : World} {g : Nat} (h : w.grownBy w' (some g)) (B : Nat := g) (hB : B ≤ g := by omega) (hl : B ≤ w.heap.size := by omega) : Below B w w' :=
  (Below.refl B w).grown h hl (fun k hk => by cases hk; exact hB)

set_option maxHeartbeats 400000 in
theorem inverse_any (s : ByteArray) (w : World) (hs : s.size ≤ 140737488351232) :
    Calls Tryz.prog 127 #[.string s] w fun e w' => e = .returned (.string ⟨(invW s.data.toList).toArray⟩) ∧ Below w.heap.size w w' := by
  obtain ⟨i0, hi, hz0, hz1, hz2⟩ := info_parts Tryz.info5
  go_enter Tryz.func127, Tryz.ntmps127
  go_wp2_with (at_make; refine wpList_make_full _ rfl _ _ 82 rfl w.heap.size 5 i0 (.int .u8 0) 1 Tryz.underlying82 hi hz0 hz1 _ _ _ _ s.size rfl rfl rfl rfl ?b2 ?b3 (Nat.le_refl _) ?_)
  case b2 => rw [hz2]; omega
  case b3 => unfold maxLen; omega
  intro w0 hown0 hgrow0
  go_wp2
  have hown1 : w0.ownsRow w.heap.size 5 1 (.slice (some ⟨w.heap.size, 0, none⟩) s.size s.size) s.size (bs (List.replicate s.size 0 ++ invW (s.data.toList.take 0))) := by
    have : (madeCells #[Value.int .u8 0] s.size).toList = bs (List.replicate s.size 0 ++ invW (s.data.toList.take 0)) := by
      rw [toList_madeCells_one]
      simp [bs, invW]
    rw [← this]; exact hown0
  clear hown0
  go_loopw [10] (fun i wr => ∃ k : Nat, k ≤ s.size ∧ i = .int .i64 k ∧
      wr.ownsRow w.heap.size 5 1 (.slice (some ⟨w.heap.size, 0, none⟩) s.size s.size) s.size (bs (List.replicate (s.size - k) 0 ++ invW (s.data.toList.take k))) ∧ Below w.heap.size w wr)
    (fun i _ => s.size - (intOf i).toNat)
  case atStart => exact ⟨0, Nat.zero_le _, rfl, hown1, (Below.refl _ _).grown hgrow0 (Nat.le_refl _) (fun k h => by cases h)⟩
  case round =>
    obtain ⟨k, hk, rfl, hown, hb⟩ := hrel
    by_cases hlt : k < s.size
    · have hc := hown.cellAt (s.size - 1 - k) (by omega)
      have hf := hown.frozenAt (s.size - 1 - k)
      have hst := hown.stored (s.size - 1 - k) (.int .u8 (invc s[k]).toNat)
      have hx := xor_u8_32 s[k]
      have hlen : (bs (List.replicate (s.size - k) 0 ++ invW (s.data.toList.take k))).length = s.size := by have := hown.1; simpa using this
      rw [List.getElem?_eq_getElem (by omega)] at hc
      have hin := invW_snoc s k hlt (s.size - 1 - k)
      generalize (bs (List.replicate (s.size - k) 0 ++ invW (s.data.toList.take k)))[s.size - 1 - k]'(by omega) = v0 at hc
      have HB := Lib.hid hb
      have HST := Lib.hid hst
      have HIN := Lib.hid hin
      have HX := Lib.hid hx
      clear hb hst hown1 hgrow0 hin hx hown hlen
      go_wp2
      go_roundw
      case rel =>
        rw [HX.out]
        refine ⟨k + 1, by omega, by go_num, ?_, HB.out.trans (below_set (HST.out).2 w.heap.size (Nat.le_refl _) HB.out.size)⟩
        have h := (HST.out).1
        have e : s.size - k = s.size - 1 - k + 1 := by omega
        rw [show s.size - (k + 1) = s.size - 1 - k from by omega, ← HIN.out, ← e]
        rw [bs_set]
        exact h
      case measure => simp [intOf]; omega
    · have hk' : k = s.size := by omega
      subst hk'
      rw [Nat.sub_self, List.take_of_length_le (by simp)] at hown
      simp only [List.replicate_zero, List.nil_append] at hown
      clear hown1 hgrow0
      have hrun := run_string_own (P := Tryz.prog) wr 82 9 5 Tryz.underlying82 Tryz.underlying5 Tryz.underlying9 _ _ _ _ _ hown
      generalize hL : (invW s.data.toList) = L at *
      have HL := Lib.hid hL
      clear hL hown
      go_wp2
      go_ret
      exact ⟨by rw [HL.out]; rfl, hb⟩

set_option maxHeartbeats 400000 in
theorem Inverse_yes (s : ByteArray) (w : World) (ht : Tabs w) (hw : isW s.data.toList = true) (hs : s.size ≤ 140737488351232) :
    Calls Tryz.prog 75 #[.string s] w fun e w' => e = .returned (.string ⟨(invW s.data.toList).toArray⟩) ∧ Below w.heap.size w w' := by
  have hI := isWord_any s w ht (by unfold maxLen; omega)
  rw [hw] at hI
  have hV := inverse_any s w hs
  clear ht hw
  go_enter Tryz.func75, Tryz.ntmps75
  go_wp2_with (first | (go_at_call 114; refine hI.mono ?_; rintro e w' ⟨rfl, rfl⟩) | (go_at_call 127; refine hV.mono ?_; rintro e w' ⟨rfl, hb⟩))
  go_ret
  exact ⟨rfl, hb⟩

set_option maxHeartbeats 400000 in
theorem Inverse_no (s : ByteArray) (w : World) (ht : Tabs w) (hw : isW s.data.toList = false) (hs : s.size ≤ 140737488351232) :
    Calls Tryz.prog 75 #[.string s] w fun e w' => e = .returned (.string ⟨#[]⟩) ∧ w = w' := by
  have hI := isWord_any s w ht (by unfold maxLen; omega)
  rw [hw] at hI
  clear ht hw
  go_enter Tryz.func75, Tryz.ntmps75
  go_wp2_with (go_at_call 114; refine hI.mono ?_; rintro e w' ⟨rfl, rfl⟩)
  go_ret
  exact ⟨rfl, rfl⟩
end Go.Proofs.YteephomlnbbjeaaGreatDoor

namespace Go.Proofs.YteephomlnbbjeaaGreatDoor
open Go Go.RowKit

/-- Free reduction: a stack, its top first. -/
def stp (r : List UInt8) (c : UInt8) : List UInt8 := match r with
  | [] => [c]
  | x :: t => if x ^^^ c == 32 then t else c :: x :: t
def redR (l : List UInt8) : List UInt8 := l.foldl stp []
def red (l : List UInt8) : List UInt8 := (redR l).reverse

theorem stp_len (r : List UInt8) (c : UInt8) : (stp r c).length ≤ r.length + 1 := by
  unfold stp; split
  · simp
  · split <;> simp; omega
theorem redR_len (l : List UInt8) : (redR l).length ≤ l.length := by
  have : ∀ (l : List UInt8) r, (l.foldl stp r).length ≤ l.length + r.length := by
    intro l
    induction l with
    | nil => intro r; simp
    | cons c l ih => intro r; have := ih (stp r c); have := stp_len r c; simp; omega
  have := this l []
  simpa [redR] using this
theorem redR_snoc (s : ByteArray) (k : Nat) (h : k < s.size) : redR (s.data.toList.take (k + 1)) = stp (redR (s.data.toList.take k)) s[k] := by
  rw [List.take_succ_eq_append_getElem (by simpa using h)]
  simp [redR, List.foldl_append]; rfl

theorem ownsRow_take {w : World} {base e g n cap m : Nat} {xs : List Value} (hm : m ≤ n) (h : w.ownsRow base e 1 (.slice (some ⟨g, 0, none⟩) n cap) n xs) :
    w.ownsRow base e 1 (.slice (some ⟨g, 0, none⟩) m cap) m (xs.take m) := by
  obtain ⟨h1, h2⟩ := h
  refine ⟨by simp [h1]; omega, ?_⟩
  rcases h2 with ⟨h2, _⟩ | ⟨g', c', cur, hv, hg, hh, hnc, hcm, hcs, ht⟩
  · simp at h2
  · simp only [Value.slice.injEq, Option.some.injEq, Addr.mk.injEq, and_true, true_and] at hv
    obtain ⟨rfl, rfl⟩ := hv
    refine .inr ⟨g, cap, cur, rfl, hg, hh, by omega, hcm, hcs, ?_⟩
    rw [← ht, List.take_take]
    congr 1; omega

theorem _root_.Go.RowKit.Below.drewN {B : Nat} {a w : World} (h : Below B a w) (n : Nat) : Below B a (w.drewN n) := ⟨h.os, h.tape, h.output, h.size, h.block⟩
theorem below_alloc' (wr : World) (nq : Nat) (o : Obj) {B : Nat} (h : B ≤ wr.heap.size) : Below B wr ((wr.drewN nq).alloc o) :=
  ((Below.refl B wr).drewN nq).alloc h o

theorem news_one (w : World) (v : Value) (t : TypeId) : ∀ (j : Nat) u, ([v] : List Value)[j]? = some u → (w.alloc (.cells #[v] t)).cell? ((⟨w.heap.size, 0, none⟩ : Addr).add j) = some u := by
  intro j u hu
  match j, hu with
  | 0, hu =>
    simp at hu; subst hu
    have hb : (w.alloc (.cells #[v] t)).heap[w.heap.size]? = some (.cells #[v] t (0, 0)) := heap_alloc_new w _
    have := cell_of_row (w.alloc (.cells #[v] t)) w.heap.size 0 #[v] t (0, 0) hb
    simp [Addr.add, this]

theorem ret_str {a b : List UInt8} (h : a = b) : Ending.returned (.string ⟨a.toArray⟩) = .returned (.string ⟨b.toArray⟩) := by rw [h]

set_option maxHeartbeats 400000 in
set_option maxRecDepth 100000 in
theorem reduce_any (s : ByteArray) (w : World) (hs : s.size ≤ 140737488351232) :
    Calls Tryz.prog 125 #[.string s] w fun e w' => e = .returned (.string ⟨(red s.data.toList).toArray⟩) ∧ Below w.heap.size w w' := by
  obtain ⟨i0, hi, hz0, hz1, hz2⟩ := info_parts Tryz.info5
  go_enter Tryz.func125, Tryz.ntmps125
  go_wp2_with (at_make; refine wpList_make_own _ rfl _ _ 82 rfl w.heap.size 5 i0 (.int .u8 0) 1 Tryz.underlying82 hi hz0 hz1 _ _ _ s.size rfl rfl rfl ?b2 ?b3 (Nat.le_refl _) ?_)
  case b2 => rw [hz2]; omega
  case b3 => unfold maxLen; omega
  intro w0 hown0 hgrow0
  go_wp2
  go_loopw [3, 11] (fun out i wr => ∃ (k m : Nat) (r : List UInt8), k ≤ s.size ∧ m ≤ k ∧ i = .int .i64 k ∧ r = redR (s.data.toList.take k) ∧ m = r.length ∧ out = .slice (some ⟨w.heap.size, 0, none⟩) m s.size ∧
      wr.ownsRow w.heap.size 5 1 (.slice (some ⟨w.heap.size, 0, none⟩) m s.size) m (bs r.reverse) ∧ Below w.heap.size w wr)
    (fun _ i _ => s.size - (intOf i).toNat)
  case atStart => exact ⟨0, 0, [], Nat.zero_le _, Nat.le_refl _, rfl, rfl, rfl, rfl, hown0, (Below.refl _ _).grown hgrow0 (Nat.le_refl _) (fun k h => by cases h)⟩
  case round =>
    obtain ⟨k, m, r, hk, hmk, rfl, hr, hm, rfl, hown, hb⟩ := hrel
    have HB := Lib.hid hb
    clear hb hgrow0 hown0
    by_cases hlt : k < s.size
    · have hsn := redR_snoc s k hlt
      rw [← hr] at hsn
      have HSN := Lib.hid hsn
      clear hsn hr
      cases r with
      | nil =>
        obtain rfl : m = 0 := by simpa using hm
        clear hm
        have hd : decide ((0 : Int) ≤ 0 - 1) = false := by decide
        go_wp2
        go_quiet (fail)
        go_wp2_with (at_builtin; refine wpList_append_fits _ rfl (.tmp 32) (.tmp 36) 82 rfl w.heap.size 5 i0 1 Tryz.underlying82 hi hz1 w.heap.size 0 s.size _ rfl (World.ownsRow.alloc (w := wr.drewN nq) hown _) ⟨wr.heap.size, 0, none⟩ 1 1 [.int .u8 s[k].toNat] rfl rfl (news_one (wr.drewN nq) _ _) (by intro u hu; simp at hu; subst hu; rfl) (by omega) ?_; intro w1 hown1 hgrow1)
        go_roundw
        case rel => exact ⟨k + 1, 1, [s[k]], by omega, by omega, by go_num, by rw [HSN.out]; rfl, rfl, rfl, hown1, ((HB.out.trans (below_alloc' wr nq _ HB.out.size)).grown hgrow1 (by simp; have := HB.out.size; omega) (fun k hk => by cases hk; exact Nat.le_refl _))⟩
        case measure => simp [intOf]; omega
      | cons x t =>
        obtain rfl : m = t.length + 1 := by simpa using hm
        clear hm
        have hc := hown.cellAt t.length (by omega)
        have hx : (bs (x :: t).reverse)[t.length]? = some (.int .u8 x.toNat) := by simp [bs]
        rw [hx] at hc
        clear hx
        have hd : decide ((0 : Int) ≤ ↑t.length) = true := by simp
        have hcan : ∀ n, Calls Tryz.prog 161 #[.int .u8 x.toNat, .int .u8 s[k].toNat] (wr.drewN n) fun e w'' => e = .returned (.bool (x ^^^ s[k] == 32)) ∧ ∃ m, w'' = wr.drewN m :=
          fun n => Calls.quiet_of_same ((cancel_any x s[k] (wr.drewN n)).mono fun _ _ h => ⟨h.1, h.2.symm⟩)
        have HC := Lib.hid hcan
        clear hcan
        by_cases hcc : (x ^^^ s[k] == 32) = true
        · rw [hcc] at HC
          simp only [stp, hcc, if_true] at HSN
          have ht : wr.ownsRow w.heap.size 5 1 (.slice (some ⟨w.heap.size, 0, none⟩) t.length s.size) t.length (bs t.reverse) := by
            have := ownsRow_take (m := t.length) (by omega) hown
            simpa [bs] using this
          have HCC := Lib.hid hcc
          clear hcc
          go_wp2
          go_quiet ((go_at_call 161; exact HC.out _))
          go_wp2
          go_roundw
          case rel => exact ⟨k + 1, t.length, t, by omega, by omega, by go_num, HSN.out.symm, rfl, rfl, ht, HB.out.drewN nq⟩
          case measure => simp [intOf]; omega
        · have hcf : (x ^^^ s[k] == 32) = false := by simpa using hcc
          rw [hcf] at HC
          simp only [stp, hcf] at HSN
          clear hcc hcf
          go_wp2
          go_quiet ((go_at_call 161; exact HC.out _))
          go_wp2_with (at_builtin; refine wpList_append_fits _ rfl (.tmp 32) (.tmp 36) 82 rfl w.heap.size 5 i0 1 Tryz.underlying82 hi hz1 w.heap.size (t.length + 1) s.size _ rfl (World.ownsRow.alloc (w := wr.drewN nq) hown _) ⟨wr.heap.size, 0, none⟩ 1 1 [.int .u8 s[k].toNat] rfl rfl (news_one (wr.drewN nq) _ _) (by intro u hu; simp at hu; subst hu; rfl) (by omega) ?_; intro w1 hown1 hgrow1)
          go_outline
          go_roundw
          case rel => exact ⟨k + 1, t.length + 1 + 1, s[k] :: x :: t, by omega, by omega, by go_num, HSN.out.symm, rfl, rfl, by simpa [bs] using hown1, ((HB.out.trans (below_alloc' wr nq _ HB.out.size)).grown hgrow1 (by simp; have := HB.out.size; omega) (fun k hk => by cases hk; exact Nat.le_refl _))⟩
          case measure => simp [intOf]; omega
    · have hk' : k = s.size := by omega
      subst hk'
      rw [List.take_of_length_le (by simp)] at hr
      have hrun := run_string_own (P := Tryz.prog) wr 82 9 5 Tryz.underlying82 Tryz.underlying5 Tryz.underlying9 _ _ _ _ _ hown
      have hz : r.reverse = red s.data.toList := by rw [hr]; rfl
      have HZ := Lib.hid hz
      generalize r.reverse = L at *
      clear hz hr hm hown
      go_wp2
      go_ret
      exact ⟨by rw [← HZ.out]; rfl, HB.out⟩
end Go.Proofs.YteephomlnbbjeaaGreatDoor
