/-
  Our own text, in the proofs of the laws of package pres (cayleylaw03). Proved here: note, add and rename of the reader of package pres. Conditions: the arguments lie in memory as the slices say; bounds; the listed tables lie as the program lays them.
-/
import Derived.Test.YteephomlnbbjeaaGreatDoorJr
import Derived.Test.YteephomlnbbjeaaGreatDoorJh
set_option linter.unusedVariables false
set_option linter.unusedSimpArgs false
set_option linter.unusedSectionVars false
namespace Go.Proofs.YteephomlnbbjeaaGreatDoor
open Go Go.RowKit Go.Shelf

theorem setCell_self {w : World} {a : Addr} {v : Value} (h : w.cell? a = some v) : w.setCell a v = w := by
  obtain ⟨b, o, s⟩ := a
  unfold World.setCell
  have e : (w.heap.modify b fun x => match x with
      | .cells c elem frozen => .cells (if s.isSome then c else c.setIfInBounds o v) elem frozen
      | o => o) = w.heap := by
    apply Array.ext_getElem?
    intro i
    rw [Array.getElem?_modify]
    split
    · rename_i e
      subst e
      unfold World.cell? at h
      simp only at h
      cases hb : w.heap[b]? with
      | none => rfl
      | some x =>
        rw [hb] at h
        cases x with
        | cells c t f =>
          simp only at h
          split at h
          · cases h
          · rename_i hs
            simp only [Option.map_some, hs]
            congr 2
            apply Array.ext_getElem?
            intro j
            rw [if_neg (by simp), Array.getElem?_setIfInBounds]
            split
            · rename_i e2; subst e2
              rw [h]
              split
              · rfl
              · rename_i hlt; rw [Array.getElem?_eq_none (by omega)] at h; cases h
            · rfl
        | _ => rfl
    · rfl
  exact congrArg (fun h => ({ w with heap := h } : World)) e

/-- The reader in memory. -/
structure RdAt (W : World) (B : Nat) (names : List UInt8) (A : Option Addr) (cap : Nat) (rs : List (List UInt8)) : Prop where
  c0 : W.cell? ⟨B, 0, none⟩ = some (.string ⟨names.toArray⟩)
  c1 : W.cell? ⟨B, 1, none⟩ = some (.slice A rs.length cap)
  c2 : W.cell? ⟨B, 2, none⟩ = some (.bool false)
  f1 : W.frozen? ⟨B, 1, none⟩ = false
  f2 : W.frozen? ⟨B, 2, none⟩ = false
  row : W.ownsRow (B + 1) 9 1 (.slice A rs.length cap) rs.length (ss rs)
theorem RdAt.lt {W : World} {B : Nat} {names : List UInt8} {A : Option Addr} {cap : Nat} {rs : List (List UInt8)} (h : RdAt W B names A cap rs) : B < W.heap.size := lt_of_cell h.c0
theorem RdAt.on {W W' : World} {B : Nat} {names : List UInt8} {A : Option Addr} {cap : Nat} {rs : List (List UInt8)} (h : RdAt W B names A cap rs) (hb : Below W.heap.size W W') : RdAt W' B names A cap rs :=
  ⟨(hb.cell (p := ⟨B, 0, none⟩) h.lt).trans h.c0, (hb.cell (p := ⟨B, 1, none⟩) h.lt).trans h.c1, (hb.cell (p := ⟨B, 2, none⟩) h.lt).trans h.c2, (hb.frozen (p := ⟨B, 1, none⟩) h.lt).trans h.f1, (hb.frozen (p := ⟨B, 2, none⟩) h.lt).trans h.f2, own_on h.row hb⟩

set_option maxHeartbeats 400000 in
theorem note_no (B : Nat) (w : World) (h2 : w.cell? ⟨B, 2, none⟩ = some (.bool false)) (f2 : w.frozen? ⟨B, 2, none⟩ = false) :
    Calls Tryz.prog 113 #[.pointer (some ⟨B, 0, none⟩), .bool false] w fun e w' => e = .returned (.tuple #[]) ∧ w' = w := by
  have HS := Lib.hid (setCell_self h2)
  go_enter Tryz.func113, Tryz.ntmps113
  go_wp2
  go_end0
  exact ⟨rfl, HS.out⟩

/-- A row of bytes that can be written. -/
def WR (w : World) (g : Nat) (l : List UInt8) : Prop := ∀ i (h : i < l.length), w.cell? ⟨g, i, none⟩ = some (.int .u8 (l[i]).toNat) ∧ w.frozen? ⟨g, i, none⟩ = false
theorem WR.row {w : World} {g : Nat} {l : List UInt8} (h : WR w g l) : RowAt w (some ⟨g, 0, none⟩) l := fun i hi => ⟨g, 0, rfl, by rw [Nat.zero_add]; exact (h i hi).1⟩
theorem WR.set {w : World} {g : Nat} {l : List UInt8} (h : WR w g l) (k : Nat) (c : UInt8) : WR (w.setCell ⟨g, k, none⟩ (.int .u8 c.toNat)) g (l.set k c) := by
  intro i hi
  have hi' : i < l.length := by simpa using hi
  refine ⟨?_, by rw [World.frozen?_setCell]; exact (h i hi').2⟩
  by_cases e : i = k
  · subst e
    rw [World.cell?_setCell_same' _ _ _ (by rw [(h i hi').1]; rfl)]
    simp
  · rw [World.cell?_setCell_other _ _ _ _ (by simp; try omega), (h i hi').1, List.getElem_set_ne (Ne.symm e)]
theorem WR.on {w w' : World} {g : Nat} {l : List UInt8} (h : WR w g l) (hb : Below w.heap.size w w') : WR w' g l := fun i hi =>
  ⟨(hb.cell (p := ⟨g, i, none⟩) (lt_of_cell (h i hi).1)).trans (h i hi).1, (hb.frozen (p := ⟨g, i, none⟩) (lt_of_cell (h i hi).1)).trans (h i hi).2⟩
theorem WR.new (w : World) (l : List UInt8) : WR (Lib.bytesWorld w 5 ⟨l.toArray⟩) w.heap.size l := by
  intro i hi
  have hh := Lib.bytesWorld_at_new w 5 ⟨l.toArray⟩
  have hsz : l.length ≤ (Lib.bytesCells w 5 ⟨l.toArray⟩).size := by simp [Lib.bytesCells]
  constructor
  · rw [cell_of_row _ w.heap.size i _ 5 _ hh]
    simp only [Lib.bytesCells]
    rw [Array.getElem?_append_left (by simpa [ByteArray.size] using hi)]
    simp [hi]
  · unfold World.frozen?
    rw [hh]
    simp
    try omega

theorem or_u8 (x : UInt8) : bits BinOp.or IntKind.u8 (x.toNat : Int) 32 = ((x ||| 32).toNat : Int) := by
  have h : ∀ n : Fin 256, bits BinOp.or IntKind.u8 ((UInt8.ofNat n.1).toNat : Int) 32 = ((UInt8.ofNat n.1 ||| 32).toNat : Int) := by decide +kernel
  have := h ⟨x.toNat, x.toNat_lt⟩
  simpa using this

theorem indexByte_lt : ∀ (l : List UInt8) (c : UInt8), Lib.indexByte l c < l.length ∧ -1 ≤ Lib.indexByte l c
  | [], c => by simp [Lib.indexByte]
  | b :: l, c => by
    have h := indexByte_lt l c
    unfold Lib.indexByte
    split
    · simp
    · split
      · simp; omega
      · simp; omega

theorem renF_step {names l : List UInt8} {k : Nat} (h : k < l.length) : renF names (l.drop k) = match renB names l[k] with
    | none => none
    | some c => (renF names (l.drop (k + 1))).map (c :: ·) := by
  rw [List.drop_eq_getElem_cons h]
  rfl
theorem renB_small {names : List UInt8} {b : UInt8} (h : isSm (b ||| 32) = false) : renB names b = some b := by
  unfold renB
  simp only
  rw [if_neg]
  rintro ⟨h1, h2⟩
  have : isSm (b ||| 32) = true := by unfold isSm; rw [decide_eq_true h1, decide_eq_true h2]; rfl
  rw [this] at h
  cases h
theorem renB_no {names : List UInt8} {b : UInt8} (h : isSm (b ||| 32) = true) (hi : Lib.indexByte names (b ||| 32) < 0) : renB names b = none := by
  unfold renB
  simp only
  rw [if_pos (by simpa [isSm] using h), if_neg (by omega)]
theorem renB_yes {names : List UInt8} {b : UInt8} {n : Nat} (h : isSm (b ||| 32) = true) (hi : Lib.indexByte names (b ||| 32) = n) : renB names b = some (if b = b ||| 32 then let_ (2 * (n : Int)) else let_ (2 * (n : Int)) ^^^ 32) := by
  unfold renB
  simp only
  rw [if_pos (by simpa [isSm] using h), if_pos (by omega), hi]
theorem set_drop {l cur : List UInt8} {k : Nat} (hk : k < l.length) (hl : cur.length = l.length) (hd : cur.drop k = l.drop k) (c : UInt8) : (cur.set k c).drop (k + 1) = l.drop (k + 1) ∧ (cur.set k c).take (k + 1) = cur.take k ++ [c] := by
  constructor
  · rw [List.drop_set_of_lt (by omega), ← List.drop_drop, ← List.drop_drop (l := l), hd]
  · rw [List.take_add_one, List.take_set_of_le (Nat.le_refl _), List.getElem?_set_self (by omega)]
    rfl
theorem keep_drop {l cur : List UInt8} {k : Nat} (hk : k < l.length) (hl : cur.length = l.length) (hd : cur.drop k = l.drop k) : cur.drop (k + 1) = l.drop (k + 1) ∧ cur.take (k + 1) = cur.take k ++ [l[k]] ∧ cur[k]'(by omega) = l[k] := by
  have e : cur[k]'(by omega) = l[k] := by
    have h1 : (cur.drop k)[0]? = (l.drop k)[0]? := by rw [hd]
    rw [List.getElem?_drop, List.getElem?_drop, Nat.add_zero, List.getElem?_eq_getElem (by omega), List.getElem?_eq_getElem hk] at h1
    exact Option.some.inj h1
  refine ⟨by rw [← List.drop_drop, ← List.drop_drop (l := l), hd], ?_, e⟩
  rw [List.take_add_one, List.getElem?_eq_getElem (by omega), e]
  rfl

def RenP (w : World) (r : Option (List UInt8)) (e : Ending) (w' : World) : Prop :=
  Below w.heap.size w w' ∧ match r with
  | some r => e = .returned (.string ⟨r.toArray⟩)
  | none => e = .panicked (leaves 4)

set_option maxHeartbeats 4000000 in
set_option maxRecDepth 100000 in
theorem rename_any (B : Nat) (names l : List UInt8) (w : World) (ht : Tabs w) (hn : names.length ≤ 8) (hl : l.length ≤ 1000000) (hc : w.cell? ⟨B, 0, none⟩ = some (.string ⟨names.toArray⟩)) :
    Calls Tryz.prog 183 #[.pointer (some ⟨B, 0, none⟩), .string ⟨l.toArray⟩] w (RenP w (renF names l)) := by
  have HT := Lib.hid ht
  have HC := Lib.hid hc
  have hB : B < w.heap.size := lt_of_cell hc
  have hconv : (convert 9 82 (.string ⟨l.toArray⟩)).run Tryz.prog w = .ok (.slice (some ⟨w.heap.size, 0, none⟩) l.length (grownCap w l.length 0 5)) (Lib.bytesWorld w 5 ⟨l.toArray⟩) := Lib.run_convert_string_bytes w 9 82 5 ⟨l.toArray⟩ Tryz.underlying9 Tryz.underlying82 Tryz.underlying5
  have hW0 := WR.new w l
  have hb0 : Below w.heap.size w (Lib.bytesWorld w 5 ⟨l.toArray⟩) := ⟨rfl, rfl, rfl, by rw [Lib.bytesWorld_size]; omega, fun k hk => Lib.bytesWorld_at_old w 5 _ k hk⟩
  generalize Lib.bytesWorld w 5 ⟨l.toArray⟩ = w0 at *
  generalize grownCap w l.length 0 5 = cap at *
  have HW0 := Lib.hid hW0
  have HB0 := Lib.hid hb0
  clear hW0 hb0 ht hc
  go_enter Tryz.func183, Tryz.ntmps183
  go_wp2
  go_loopw [14] (fun p wr => ∃ (k : Nat) (cur : List UInt8), p = .int .i64 k ∧ k ≤ l.length ∧ cur.length = l.length ∧ cur.drop k = l.drop k ∧ renF names l = (renF names (l.drop k)).map (cur.take k ++ ·) ∧ WR wr w.heap.size cur ∧ Below w.heap.size w wr)
    (fun p _ => l.length - (intOf p).toNat)
  case atStart => exact ⟨0, l, rfl, by omega, rfl, rfl, by simp, HW0.out, HB0.out⟩
  case round =>
    obtain ⟨k, cur, rfl, hk, hcl, hcd, hren, hwr, hbw⟩ := hrel
    by_cases hlt : k < l.length
    · obtain ⟨hkd, hkt, hke⟩ := keep_drop hlt hcl hcd
      rw [renF_step hlt] at hren
      have hcell : wr.cell? ⟨w.heap.size, k, none⟩ = some (.int .u8 (l[k]).toNat) := by rw [(hwr k (by omega)).1, hke]
      have hfr : wr.frozen? ⟨w.heap.size, k, none⟩ = false := (hwr k (by omega)).2
      have hor := or_u8 l[k]
      have HI := Lib.hid (isSmall_any (l[k] ||| 32) wr)
      have HTW := Lib.hid (HT.out.on hbw)
      have HCL := Lib.hid (And.intro hcl (And.intro hcd (And.intro hkd hkt)))
      have HWR := Lib.hid hwr
      have HBW := Lib.hid hbw
      cases hs : isSm (l[k] ||| 32) with
      | false =>
        rw [renB_small hs] at hren
        have HREN := Lib.hid hren
        rw [hs] at HI
        clear hs hren hkd hkt hke hcl hcd hwr hbw
        go_wp2_with (go_at_call 109; refine HI.out.mono ?_; rintro e w' ⟨rfl, rfl⟩)
        go_roundw
        case rel => exact ⟨k + 1, cur, by go_num, by omega, HCL.out.1, HCL.out.2.2.1, by rw [HREN.out, HCL.out.2.2.2]; simp [Function.comp_def], HWR.out, HBW.out⟩
        case measure => simp [intOf]; omega
      | true =>
        rw [hs] at HI
        have hnames : wr.cell? ⟨B, 0, none⟩ = some (.string ⟨names.toArray⟩) := (hbw.cell (p := ⟨B, 0, none⟩) hB).trans HC.out
        have hX : Calls Tryz.prog 211 #[.string ⟨names.toArray⟩, .int .u8 (l[k] ||| 32).toNat] wr fun e w' => e = .returned (.int .i64 (Lib.indexByte names (l[k] ||| 32))) ∧ w' = wr := by
          have h := Any.strings_IndexByte Tryz.laysIxb ⟨names.toArray⟩ ((l[k] ||| 32).toNat : Int) wr
          have e : ((l[k] ||| 32).toNat : Int).toNat.toUInt8 = l[k] ||| 32 := by simp
          rw [e] at h
          exact h
        rcases Int.lt_or_le (Lib.indexByte names (l[k] ||| 32)) 0 with hneg | hpos
        · rw [renB_no hs hneg] at hren
          have HREN := Lib.hid hren
          have hd : decide (0 ≤ Lib.indexByte names (l[k] ||| 32)) = false := by simp; omega
          have HMN := Lib.hid (must_no wr)
          clear hs hren hkd hkt hke hcl hcd hwr hbw
          go_wp2_with (go_at_call 109; refine HI.out.mono ?_; rintro e w' ⟨rfl, rfl⟩)
          go_wp2_with (go_at_call 211; refine hX.mono ?_; rintro e w' ⟨rfl, rfl⟩)
          go_wp2_with (go_at_call 107; refine HMN.out.mono ?_; rintro e w' ⟨rfl, rfl⟩)
          exact ⟨rfl, HBW.out, by rw [HREN.out]; rfl⟩
        · obtain ⟨n, hn2⟩ := Int.eq_ofNat_of_zero_le hpos
          have hnl := (indexByte_lt names (l[k] ||| 32)).1
          rw [hn2] at hX hnl
          rw [renB_yes hs hn2] at hren
          have HREN := Lib.hid hren
          have hd : decide (0 ≤ (n : Int)) = true := by simp
          have HMY := Lib.hid (must_yes wr)
          have HL := Lib.hid (letter_any n wr HTW.out (by omega))
          have HS1 := Lib.hid (HWR.out.set k (let_ (2 * (n : Int))))
          have HB1 := Lib.hid (HBW.out.setCell (p := ⟨w.heap.size, k, none⟩) (Nat.le_refl _) (.int .u8 (let_ (2 * (n : Int))).toNat))
          have hc1 : (wr.setCell ⟨w.heap.size, k, none⟩ (.int .u8 (let_ (2 * (n : Int))).toNat)).cell? ⟨w.heap.size, k, none⟩ = some (.int .u8 (let_ (2 * (n : Int))).toNat) := World.cell?_setCell_same' _ _ _ (by rw [hcell]; rfl)
          have hf1 : (wr.setCell ⟨w.heap.size, k, none⟩ (.int .u8 (let_ (2 * (n : Int))).toNat)).frozen? ⟨w.heap.size, k, none⟩ = false := by rw [World.frozen?_setCell]; exact hfr
          have hxo : bits BinOp.xor IntKind.u8 ((let_ (2 * (n : Int))).toNat : Int) 32 = ((let_ (2 * (n : Int)) ^^^ 32).toNat : Int) := xor_u8 _ 32
          have HSET := Lib.hid (fun c => set_drop hlt hcl hcd c)
          by_cases hsm : l[k] = l[k] ||| 32
          · rw [if_pos hsm] at HREN
            have hb : ((l[k].toNat : Int) != ((l[k] ||| 32).toNat : Int)) = false := by rw [← hsm]; simp
            have hb' : ((l[k].toNat : Int) != ((l[k].toNat ||| 32 : Nat) : Int)) = false := by rw [UInt8.toNat_or] at hb; exact hb
            have hb3 : ((l[k].toNat : Int) == ((l[k].toNat ||| 32 : Nat) : Int)) = true := by rw [bne, Bool.not_eq_false'] at hb'; exact hb'
            clear hs hren hkd hkt hke hcl hcd hwr hbw hpos hn2 hsm
            go_wp2_with (go_at_call 109; refine HI.out.mono ?_; rintro e w' ⟨rfl, rfl⟩)
            go_wp2_with (go_at_call 211; refine hX.mono ?_; rintro e w' ⟨rfl, rfl⟩)
            go_wp2_with (go_at_call 107; refine HMY.out.mono ?_; rintro e w' ⟨rfl, rfl⟩)
            go_wp2_with (go_at_call 117; refine HL.out.mono ?_; rintro e w' ⟨rfl, rfl⟩)
            go_roundw
            case rel => exact ⟨k + 1, cur.set k (let_ (2 * (n : Int))), by go_num, by omega, by simp [HCL.out.1], (HSET.out _).1, by rw [HREN.out, (HSET.out _).2]; simp [Function.comp_def], HS1.out, HB1.out⟩
            case measure => simp [intOf]; omega
          · rw [if_neg hsm] at HREN
            have hb2 : ((l[k].toNat : Int) == ((l[k] ||| 32).toNat : Int)) = false := by rw [beq_eq_false_iff_ne]; intro e; exact hsm (UInt8.toNat_inj.1 (by exact_mod_cast e))
            have hb : ((l[k].toNat : Int) != ((l[k] ||| 32).toNat : Int)) = true := by rw [bne, hb2]; rfl
            have hb' : ((l[k].toNat : Int) != ((l[k].toNat ||| 32 : Nat) : Int)) = true := by rw [UInt8.toNat_or] at hb; exact hb
            have hb3 : ((l[k].toNat : Int) == ((l[k].toNat ||| 32 : Nat) : Int)) = false := by rw [UInt8.toNat_or] at hb2; exact hb2
            have HS2 := Lib.hid (HS1.out.set k (let_ (2 * (n : Int)) ^^^ 32))
            have HB2 := Lib.hid (HB1.out.setCell (p := ⟨w.heap.size, k, none⟩) (Nat.le_refl _) (.int .u8 (let_ (2 * (n : Int)) ^^^ 32).toNat))
            clear hs hren hkd hkt hke hcl hcd hwr hbw hpos hn2 hsm
            go_wp2_with (go_at_call 109; refine HI.out.mono ?_; rintro e w' ⟨rfl, rfl⟩)
            go_wp2_with (go_at_call 211; refine hX.mono ?_; rintro e w' ⟨rfl, rfl⟩)
            go_wp2_with (go_at_call 107; refine HMY.out.mono ?_; rintro e w' ⟨rfl, rfl⟩)
            go_wp2_with (go_at_call 117; refine HL.out.mono ?_; rintro e w' ⟨rfl, rfl⟩)
            go_roundw
            case rel => exact ⟨k + 1, (cur.set k (let_ (2 * (n : Int)))).set k (let_ (2 * (n : Int)) ^^^ 32), by go_num, by omega, by simp [HCL.out.1], by rw [List.set_set]; exact (HSET.out _).1, by rw [HREN.out, List.set_set, (HSET.out _).2]; simp [Function.comp_def], (by have h := HS2.out; rw [UInt8.toNat_xor] at h; exact h), (by have h := HB2.out; rw [UInt8.toNat_xor] at h; exact h)⟩
            case measure => simp [intOf]; omega
    · have he : k = l.length := by omega
      subst he
      have hz : renF names l = some cur := by
        rw [hren, List.drop_eq_nil_of_le (Nat.le_refl _), List.take_of_length_le (by omega)]
        simp [renF]
      have HZ := Lib.hid hz
      have hcv := run_string_row wr (some ⟨w.heap.size, 0, none⟩) cap cur hwr.row
      rw [hcl] at hcv
      have HBW := Lib.hid hbw
      clear hz hren hcd hwr hbw
      go_wp2
      go_ret
      exact ⟨HBW.out, by rw [HZ.out]; rfl⟩
end Go.Proofs.YteephomlnbbjeaaGreatDoor
