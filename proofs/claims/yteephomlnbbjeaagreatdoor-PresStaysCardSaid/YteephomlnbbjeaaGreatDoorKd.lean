/-
  Our own text, in the proofs of the laws of package pres (cayleylaw03). Proved here: the tables that the rows list, and a world that holds them; what a presentation, a row of words, a row of cells and a move are that come in as arguments; the card of PresStays. Conditions: the arguments lie in memory as the slices say; bounds; the listed tables lie as the program lays them.
-/
import Derived.Test.YteephomlnbbjeaaGreatDoorJa
import Derived.Test.YteephomlnbbjeaaGreatDoorCards
import Derived.Test.YteephomlnbbjeaaGreatDoorTie
import Derived.ProofKit
import Derived.OpenShut
import Derived.ChangeMaps5
import Derived.Deep.DeepHandedRow
import Derived.Test.YteephomlnbbjeaaGreatDoorKc
import Derived.Deep.Slices
import Derived.ChangeArms
import Derived.Carry
import Derived.SizedLaws
import Derived.Lib.SmallJoins
set_option linter.unusedVariables false
set_option linter.unusedSimpArgs false
set_option linter.unusedSectionVars false
namespace Go.Proofs.YteephomlnbbjeaaGreatDoor
open Go.ChangeShapes Go.WideShapes Go.ChangeAt Go.RowKit

theorem own : ownKnob Tryz.prog.godebug = none := by kernel_rfl
theorem gPlaces : Tryz.prog.globalNamed "cayley/word.places" = some 1 := by kernel_rfl
theorem gLetters : Tryz.prog.globalNamed "cayley/word.letters" = some 0 := by kernel_rfl
theorem gPlacesT : (Tryz.prog.globals[1]?).map (·.type) = some 201 := by kernel_rfl
theorem gLettersT : (Tryz.prog.globals[0]?).map (·.type) = some 198 := by kernel_rfl
theorem gPowT : (Tryz.prog.globals[3]?).map (·.type) = some 239 := by kernel_rfl
theorem un64 : Tryz.prog.underlying 201 = some (.array 105 200) := by kernel_rfl
theorem un63 : Tryz.prog.underlying 200 = some (.int .i8) := by kernel_rfl
theorem un65 : Tryz.prog.underlying 198 = some (.array 16 5) := by kernel_rfl
theorem un5 : Tryz.prog.underlying 5 = some (.int .u8) := by kernel_rfl
theorem ce64 : Tryz.prog.cellsOf 201 = 105 := by kernel_rfl
theorem ce63 : Tryz.prog.cellsOf 200 = 1 := by kernel_rfl
theorem ce65 : Tryz.prog.cellsOf 198 = 16 := by kernel_rfl
theorem ce5 : Tryz.prog.cellsOf 5 = 1 := by kernel_rfl
theorem un126 : Tryz.prog.underlying 239 = some (.array 20 195) := by kernel_rfl
theorem un6 : Tryz.prog.underlying 195 = some (.int .u64) := by kernel_rfl
theorem ce126 : Tryz.prog.cellsOf 239 = 20 := by kernel_rfl
theorem ce6 : Tryz.prog.cellsOf 195 = 1 := by kernel_rfl

/-- What the rows list. -/
abbrev laid7 : List (String × DataW Unit) := [("math/bits.deBruijn32tab", Rows.laid_math_bits_deBruijn32tab), ("math/bits.deBruijn64tab", Rows.laid_math_bits_deBruijn64tab), ("internal/strconv.uint64pow10", Rows.laid_internal_strconv_uint64pow10), ("unicode/utf8.acceptRanges", Rows.laid_unicode_utf8_acceptRanges), ("cayley/word.letters", Rows.laid_cayley_word_letters), ("cayley/word.places", Rows.laid_cayley_word_places), ("unicode/utf8.first", Rows.laid_unicode_utf8_first)]

theorem laidMet_tail {P : Program} {x : String × DataW Unit} {rest : List (String × DataW Unit)} {W : World} (h : laidMet P (x :: rest) W) : laidMet P rest W := by
  obtain ⟨ps, ⟨g, t, cs, fuel, p, q, _, _, _, _, hr, rfl⟩, hn, hall⟩ := h
  exact ⟨q, hr, (List.nodup_append.1 hn).2.1, fun b off hm => hall b off (List.mem_append_right _ hm)⟩

set_option maxRecDepth 100000 in
theorem tabs_of {W : World} (h : laidMet Tryz.prog laid7 W) : Tabs W := by
  have h2 := laidMet_tail (laidMet_tail h)
  have h4 := laidMet_tail (laidMet_tail h2)
  have h5 := laidMet_tail h4
  have p2 : Lib.TabIs Tryz.prog W "internal/strconv.uint64pow10" .u64 Lib.pow10Tab := Lib.tabIs_of_head gPow gPowT un126 un6 ce6 ce126 h2
  have p4 : Lib.TabIs Tryz.prog W "cayley/word.letters" .u8 lettersL := Lib.tabIs_of_head gLetters gLettersT un65 un5 ce5 ce65 h4
  have p5 : Lib.TabIs Tryz.prog W "cayley/word.places" .i8 placesL := Lib.tabIs_of_head gPlaces gPlacesT un64 un63 ce63 ce64 h5
  refine ⟨fun i hi => ?_, fun i hi => ?_, p2⟩
  · have hl : placesL.length = 105 := by decide
    have := p5.cell gPlaces i (by omega)
    rw [this]
  · have hl : lettersL.length = 16 := by decide
    have := p4.cell gLetters i (by omega)
    rw [this]

theorem tabs_ofH {W : World} (h : laidMetH Tryz.prog laid7 W) : Tabs W := by
  rw [MakeChecks.laidMetH_plain _ _ _ (by kernel_rfl)] at h
  exact tabs_of h

/-- A list's plain data, one by one. -/
def flat2 : DataW Unit → List Value
  | .lit (.int k n) => [.int k n]
  | _ => []
def flat1 : DataW Unit → List Value
  | .agg l => l.flatMap flat2
  | d => flat2 d
def flat : DataW Unit → List Value
  | .agg l => l.flatMap flat1
  | d => flat2 d
def putB (d : DataW Unit) : Obj → Obj
  | .cells _ t frozen => .cells (flat d).toArray t frozen
  | o => o
/-- A WORLD FOR THE WITNESS: the settled one, the tables lying as their initialisers lay them. -/
noncomputable def laidWorld (os : Os) : World :=
  { World.holding Tryz.prog os ⟨#[], #[], []⟩ with heap := (((((((World.holding Tryz.prog os ⟨#[], #[], []⟩).heap.modify 1 (putB Rows.laid_cayley_word_places)).modify 0 (putB Rows.laid_cayley_word_letters)).modify 3 (putB Rows.laid_internal_strconv_uint64pow10)).modify 4 (putB Rows.laid_unicode_utf8_first)).modify 5 (putB Rows.laid_unicode_utf8_acceptRanges)).modify 6 (putB Rows.laid_math_bits_deBruijn32tab)).modify 7 (putB Rows.laid_math_bits_deBruijn64tab) }
set_option maxRecDepth 100000 in
theorem laid_met (os : Os) (args : Array Value) : laidMet Tryz.prog laid7 ((laidWorld os).forCall (fun _ _ => 0) ⟨#[], args, []⟩).memory :=
  laidMet_of_run' 8 (by kernel_rfl) (by kernel_rfl)
end Go.Proofs.YteephomlnbbjeaaGreatDoor

namespace Go.Proofs.YteephomlnbbjeaaGreatDoor
open Go Go.RowKit
open Go.ChangeShapes Go.WideShapes Go.ChangeAt Go.Deep

def fG : Field := ⟨ "Gens", 3, 0, false, "", "", 0⟩
def fR : Field := ⟨ "Rels", 22, 1, false, "", "", 8⟩
def fC : Field := ⟨ "Conj", 9, 0, false, "", "", 0⟩
def fI : Field := ⟨ "Rel", 3, 1, false, "", "", 16⟩
def fV : Field := ⟨ "Inv", 4, 2, false, "", "", 24⟩
def fK : Field := ⟨ "Kind", 3, 0, false, "", "", 0⟩
def fL : Field := ⟨ "Rel", 3, 1, false, "", "", 8⟩
def fW : Field := ⟨ "Word", 9, 2, false, "", "", 16⟩
def fP : Field := ⟨ "Proof", 56, 3, false, "", "", 32⟩
theorem z24 : Tryz.prog.underlying 24 = some (.struct #[fG, fR]) := by kernel_rfl
theorem z89 : Tryz.prog.underlying 89 = some (.struct #[fC, fI, fV]) := by kernel_rfl
theorem z58 : Tryz.prog.underlying 58 = some (.struct #[fK, fL, fW, fP]) := by kernel_rfl
theorem z56 : Tryz.prog.underlying 56 = some (.slice 89) := by kernel_rfl
theorem z22 : Tryz.prog.underlying 22 = some (.slice 9) := by kernel_rfl
theorem z3 : Tryz.prog.underlying 3 = some (.int .i64) := by kernel_rfl
theorem z4 : Tryz.prog.underlying 4 = some .bool := by kernel_rfl
theorem z9 : Tryz.prog.underlying 9 = some .string := by kernel_rfl
theorem k24 : Tryz.prog.cellsOf 24 = 2 := by kernel_rfl
theorem k89 : Tryz.prog.cellsOf 89 = 3 := by kernel_rfl
theorem k58 : Tryz.prog.cellsOf 58 = 4 := by kernel_rfl
theorem k9 : Tryz.prog.cellsOf 9 = 1 := by kernel_rfl
theorem k3 : Tryz.prog.cellsOf 3 = 1 := by kernel_rfl
theorem k4 : Tryz.prog.cellsOf 4 = 1 := by kernel_rfl
theorem j89 : Tryz.prog.bytesOf 89 = 32 := by kernel_rfl
theorem one24 : oneCellFields Tryz.prog #[fG, fR] = true := by kernel_rfl
theorem one58 : oneCellFields Tryz.prog #[fK, fL, fW, fP] = true := by kernel_rfl
theorem reach_eq : reachBytes = 140737488351232 := rfl

instance : Inhabited Cel := ⟨⟨[], 0, false⟩⟩
theorem spot_none {w : World} {a : Addr} {v : Value} (h : w.cell? a = some v) : ∃ b o, a = ⟨b, o, none⟩ := by
  obtain ⟨b, o, s⟩ := a
  cases s with
  | none => exact ⟨b, o, rfl⟩
  | some p => unfold World.cell? at h; split at h <;> simp at h
theorem weightsAll_mem {H : Type} {P : Program} {e : TypeId} : ∀ {l : List (DataW H)} {d : DataW H}, d ∈ l → ∀ n ∈ d.weights P e, n ∈ DataW.weightsAll P e l
  | d' :: r, d, hd, n, hn => by
    simp only [DataW.weightsAll, List.mem_append]
    rcases List.mem_cons.1 hd with rfl | h
    · exact Or.inl hn
    · exact Or.inr (weightsAll_mem h n hn)

set_option maxRecDepth 100000 in
/-- A row of words, opened. -/
theorem strs_core {H : Type} {enc : TypeId × Value → H} {W : World} {sp : Nat → Bool} {v : Value} {x : DataW H × List MemPlace} {fuel : Nat}
    (hf : DataW.trod enc Tryz.prog W 0 sp true fuel 22 [v] = some x) (hw : ∀ n ∈ x.1.weights Tryz.prog 22, n ≤ reachBytes) :
    ∃ (D : Option Addr) (dc : Nat) (l : List (List UInt8)), v = .slice D l.length dc ∧ StrsAt W D l ∧ l.length ≤ maxLen ∧ (D = none → l = []) := by
  rcases Go.Deep.open_slice1 z22 k9 hf with ⟨hcs, _⟩ | ⟨a, len, cap, m, n, V, D, Pl, hcs, hb, hl, hm, hmm, hx, hall⟩
  · obtain rfl : v = .slice none 0 0 := by simpa using hcs
    exact ⟨none, 0, [], rfl, (fun i hi => absurd hi (Nat.not_lt_zero i)), Nat.zero_le _, fun _ => rfl⟩
  · obtain rfl : v = .slice (some a) len cap := by simpa using hcs
    have hlm : len ≤ m := by rw [hmm]; split <;> omega
    subst hx
    have each : ∀ i, i < len → ∃ r : List UInt8, W.cell? (a.add i) = some (.string ⟨r.toArray⟩) ∧ r.length ≤ 140737488351232 := by
      intro i hi
      obtain ⟨h1, h2⟩ := hall i (by omega)
      obtain ⟨s, e, q, z⟩ := DataW.trod_string z9 h2
      have e2 : V i = .string s := by simpa using e
      rw [e2] at h1
      refine ⟨s.data.toList, h1, ?_⟩
      have hDi : D i = .lit (.string s.data.toList) := by have := congrArg Prod.fst q; simpa using this
      have := hw s.size (by
        simp only [DataW.weights, z22, List.mem_cons, List.mem_append]
        refine .inr (.inl (weightsAll_mem (d := D i) (by simp; exact ⟨i, hi, rfl⟩) _ ?_))
        rw [hDi]
        simp [DataW.weights])
      rw [reach_eq] at this
      simpa using this
    obtain ⟨f, hf⟩ := Go.Deep.choose_lt each
    refine ⟨some a, cap, (List.range len).map f, by simp, fun i hi => ?_, by simp; omega, fun h => (by cases h)⟩
    have hi' : i < len := by simpa using hi
    have h0 := hf 0 (by omega)
    obtain ⟨b, o, rfl⟩ : ∃ b o, a = ⟨b, o, none⟩ := spot_none (a := a) (by simpa [Addr.add] using h0.1)
    have := hf i hi'
    rw [add_lit] at this
    exact ⟨b, o, rfl, by simpa using this.1, by simpa using this.2⟩

set_option maxRecDepth 100000 in
/-- A row of cells, opened. -/
theorem cells_core {H : Type} {enc : TypeId × Value → H} {W : World} {sp : Nat → Bool} {v : Value} {x : DataW H × List MemPlace} {fuel : Nat}
    (hf : DataW.trod enc Tryz.prog W 0 sp true fuel 56 [v] = some x) (hw : ∀ n ∈ x.1.weights Tryz.prog 56, n ≤ reachBytes) :
    ∃ (D : Option Addr) (dc : Nat) (l : List Cel), v = .slice D l.length dc ∧ CellsAt W D l ∧ l.length ≤ maxLen ∧ (D = none → l = []) := by
  rcases Go.Deep.open_slice z56 hf with ⟨hcs, _⟩ | ⟨a, len', cap', m, n, D, Pl, hcs, hb, hl, hm, hmm, hx, hall⟩
  · obtain rfl : v = .slice none 0 0 := by simpa using hcs
    exact ⟨none, 0, [], rfl, (fun i hi => absurd hi (Nat.not_lt_zero i)), Nat.zero_le _, fun _ => rfl⟩
  · obtain rfl : v = .slice (some a) len' cap' := by simpa using hcs
    have hlm : len' ≤ m := by rw [hmm]; split <;> omega
    subst hx
    have each : ∀ i, i < len' → ∃ x : Cel, (W.cell? (a.add (i * 3)) = some (.string ⟨x.conj.toArray⟩) ∧ W.cell? ((a.add (i * 3)).add 1) = some (.int .i64 x.rel) ∧ W.cell? ((a.add (i * 3)).add 2) = some (.bool x.inv)) ∧ x.conj.length ≤ 140737488351232 := by
      intro i hi
      obtain ⟨cs', h1, h2⟩ := hall i (by omega)
      rw [k89] at h1
      obtain ⟨_, hlen, hcell⟩ := World.cells?_some h1
      obtain ⟨xs, k, _, hD, _, hxl, hf⟩ := DataW.trod_struct z89 h2
      match xs, hxl, cs', hlen with
      | [y0, y1, y2], _, [v0, v1, v2], _ =>
        have g0 := hf 0 fC rfl
        have g1 := hf 1 fI rfl
        have g2 := hf 2 fV rfl
        simp [fC, k9] at g0
        simp [fI, k3] at g1
        simp [fV, k4] at g2
        obtain ⟨n0, e0, q0, z0⟩ := DataW.trod_string z9 g0
        obtain ⟨n1, e1, _⟩ := DataW.trod_int z3 g1
        obtain ⟨n2, e2, _⟩ := DataW.trod_bool z4 g2
        have c0 := hcell 0 (by omega)
        have c1 := hcell 1 (by omega)
        have c2 := hcell 2 (by omega)
        simp at e0 e1 e2
        subst e0 e1 e2
        refine ⟨⟨n0.data.toList, n1, n2⟩, ⟨by simpa [Addr.add] using c0, by simpa using c1, by simpa using c2⟩, ?_⟩
        have hDi : D i = .agg [y0.1, y1.1, y2.1] := by have := congrArg Prod.fst hD; simpa using this
        have := hw n0.size (by
          simp only [DataW.weights, z56, List.mem_cons, List.mem_append]
          refine .inr (.inl (weightsAll_mem (d := D i) (by simp; exact ⟨i, hi, rfl⟩) _ ?_))
          rw [hDi, q0]
          simp only [DataW.weights, z89, DataW.weightsEach, List.map_cons, List.mem_append]
          simp [fC, DataW.weightsEach, DataW.weights])
        rw [reach_eq] at this
        simpa using this
    obtain ⟨f, hf⟩ := Go.Deep.choose_lt each
    refine ⟨some a, cap', (List.range len').map f, by simp, fun i hi => ?_, by simp; omega, fun h => (by cases h)⟩
    have hi' : i < len' := by simpa using hi
    have h0 := hf 0 (by omega)
    obtain ⟨b, o, rfl⟩ : ∃ b o, a = ⟨b, o, none⟩ := spot_none (a := a) (by simpa [Addr.add] using h0.1.1)
    obtain ⟨⟨k0, k1, k2⟩, k3⟩ := hf i hi'
    simp only [add_lit] at k0 k1 k2
    exact ⟨b, o, rfl, by simpa using k0, by simpa using k1, by simpa using k2, by simpa using k3⟩

set_option maxRecDepth 100000 in
theorem strs_of {H : Type} {enc : TypeId × Value → H} {W : World} {b0 : Nat} {sp : Nat → Bool} {v : Value} {d : DataW H} {ps : List MemPlace} (hval : Value.okWide Tryz.prog W .any b0 22 v)
    (h : DataW.Trod enc Tryz.prog W 0 sp true 22 v d ps) (hw : ∀ n ∈ d.weights Tryz.prog 22, n ≤ reachBytes) : ∃ (D : Option Addr) (dc : Nat) (l : List (List UInt8)), v = .slice D l.length dc ∧ StrsAt W D l ∧ l.length ≤ maxLen ∧ (D = none → l = []) := by
  obtain ⟨a0, len, cap, rfl⟩ := okWide_slice z22 hval
  obtain ⟨fuel, hf⟩ := h
  exact strs_core (x := (d, ps)) hf hw
set_option maxRecDepth 100000 in
theorem cells_of {H : Type} {enc : TypeId × Value → H} {W : World} {b0 : Nat} {sp : Nat → Bool} {v : Value} {d : DataW H} {ps : List MemPlace} (hval : Value.okWide Tryz.prog W .any b0 56 v)
    (h : DataW.Trod enc Tryz.prog W 0 sp true 56 v d ps) (hw : ∀ n ∈ d.weights Tryz.prog 56, n ≤ reachBytes) : ∃ (D : Option Addr) (dc : Nat) (l : List Cel), v = .slice D l.length dc ∧ CellsAt W D l ∧ l.length ≤ maxLen ∧ (D = none → l = []) := by
  obtain ⟨a0, len, cap, rfl⟩ := okWide_slice z56 hval
  obtain ⟨fuel, hf⟩ := h
  exact cells_core (x := (d, ps)) hf hw

set_option maxRecDepth 100000 in
/-- A presentation, opened. -/
theorem pres_of {H : Type} {enc : TypeId × Value → H} {W : World} {b0 : Nat} {sp : Nat → Bool} {v : Value} {d : DataW H} {ps : List MemPlace} (hval : Value.okWide Tryz.prog W .any b0 24 v)
    (h : DataW.Trod enc Tryz.prog W 0 sp true 24 v d ps) (hw : ∀ n ∈ d.weights Tryz.prog 24, n ≤ reachBytes) : ∃ (p : Pr) (R : Option Addr) (rc : Nat), v = prV p.k R p.rels.length rc ∧ StrsAt W R p.rels ∧ p.rels.length ≤ maxLen ∧ (R = none → p.rels = []) := by
  obtain ⟨v0, v1, y0, y1, n, rfl, hd, _, t0, t1⟩ := Go.Joins.open_agg2 z24 one24 k24 hval h
  obtain ⟨k, hk, _, wk⟩ := DataW.trod_int z3 t0
  obtain rfl : v0 = .int .i64 k := by simpa using hk
  obtain ⟨R, rc, l, rfl, h1, h2, h3⟩ := strs_core t1 (fun n hn => hw n (by
    rw [hd]
    simp only [DataW.weights, z24, DataW.weightsEach, List.map_cons, List.mem_append]
    simp [fG, fR, DataW.weightsEach]
    exact .inr hn))
  exact ⟨⟨k, l⟩, R, rc, rfl, h1, h2, h3⟩

set_option maxRecDepth 100000 in
/-- A move, opened. -/
theorem tz_of {H : Type} {enc : TypeId × Value → H} {W : World} {b0 : Nat} {sp : Nat → Bool} {v : Value} {d : DataW H} {ps : List MemPlace} (hval : Value.okWide Tryz.prog W .any b0 58 v)
    (h : DataW.Trod enc Tryz.prog W 0 sp true 58 v d ps) (hw : ∀ n ∈ d.weights Tryz.prog 58, n ≤ reachBytes) : ∃ (t : Tz) (D : Option Addr) (dc : Nat), v = tzV t D dc ∧ CellsAt W D t.proof ∧ t.proof.length ≤ maxLen ∧ (D = none → t.proof = []) ∧ t.word.length ≤ 140737488351232 := by
  obtain ⟨v0, v1, v2, v3, y0, y1, y2, y3, n, rfl, hd, _, t0, t1, t2, t3⟩ := Go.Joins.open_agg4 z58 one58 k58 hval h
  obtain ⟨k, hk, _, _⟩ := DataW.trod_int z3 t0
  obtain rfl : v0 = .int .i64 k := by simpa using hk
  obtain ⟨r, hr, _, _⟩ := DataW.trod_int z3 t1
  obtain rfl : v1 = .int .i64 r := by simpa using hr
  obtain ⟨s, hs, q, _⟩ := DataW.trod_string z9 t2
  obtain rfl : v2 = .string s := by simpa using hs
  have hws := hw s.size (by
    rw [hd, q]
    simp only [DataW.weights, z58, DataW.weightsEach, List.map_cons, List.mem_append]
    simp [fK, fL, fW, fP, DataW.weightsEach, DataW.weights])
  rw [reach_eq] at hws
  obtain ⟨D, dc, l, rfl, h1, h2, h3⟩ := cells_core t3 (fun n hn => hw n (by
    rw [hd]
    simp only [DataW.weights, z58, DataW.weightsEach, List.map_cons, List.mem_append]
    simp [fK, fL, fW, fP, DataW.weightsEach]
    exact .inr (.inr (.inr hn))))
  exact ⟨⟨k, r, s.data.toList, l⟩, D, dc, rfl, h1, h2, h3, by simpa using hws⟩
end Go.Proofs.YteephomlnbbjeaaGreatDoor

namespace Go.Proofs.YteephomlnbbjeaaGreatDoor
open Go.ChangeShapes Go.WideShapes Go.ChangeAt Go.RowKit
open Go.ChangeMaps (open_string shut_string)

theorem laidOut : laidOutB Tryz.prog = true := by kernel_rfl

set_option maxRecDepth 100000 in
theorem presStays_contract (H : Type) (enc : TypeId × Value → H) (W : World) (base : Nat) (args : Array Value) (ds gs : List (DataW H)) (before : List MemPlace)
    (hval : ∀ (j : Nat) t v, Tryz.f10.params[j]? = some t → args[j]? = some v → Value.okWide Tryz.prog W .any base t v)
    (hW : DataW.Whole enc Tryz.prog Tryz.f10.params.toList Rows.presStaysSpec.vars false W args.toList ds gs before)
    (hsz : (DataW.weightsEach Tryz.prog (Tryz.f10.params.toList ++ Rows.presStaysSpec.plain.varTypes Tryz.prog) (ds ++ gs)).all (· ≤ reachBytes) = true) (hL : laidMetH Tryz.prog laid7 W) :
    Calls Tryz.prog 10 args W fun e W' => ∃ v, e = .returned v ∧ Rows.presStaysSpec.post enc Tryz.prog Tryz.f10 false true false false W args v W' := by
  have hW' := hW
  obtain ⟨p, q, hA0, hV, rfl, hfz, hnd⟩ := hW
  have hA : DataW.TrodAll enc Tryz.prog W 0 (fun _ => true) true Tryz.f10.params.toList args.toList ds p := hA0
  rw [Tryz.params10] at hA hval hsz
  obtain ⟨v0, vs0, d0, ds0, p0, q0, hargs, rfl, rfl, h0, r0⟩ := trodAll_cons hA
  obtain ⟨v1, vs1, d1, ds1, p1, q1, rfl, rfl, rfl, h1, r1⟩ := trodAll_cons r0
  obtain ⟨v2, vs2, d2, ds2, p2, q2, rfl, rfl, rfl, h2, r2⟩ := trodAll_cons r1
  obtain ⟨v3, vs3, d3, ds3, p3, q3, rfl, rfl, rfl, h3, r3⟩ := trodAll_cons r2
  obtain ⟨v4, vs4, d4, ds4, p4, q4, rfl, rfl, rfl, h4, r4⟩ := trodAll_cons r3
  obtain ⟨v5, vs5, d5, ds5, p5, q5, rfl, rfl, rfl, h5, r5⟩ := trodAll_cons r4
  obtain ⟨rfl, rfl, rfl⟩ := trodAll_nil r5
  obtain rfl : args = #[v0, v1, v2, v3, v4, v5] := by cases args; simp_all
  obtain ⟨rfl, rfl⟩ := trodVars_none hV
  have h0k := h0
  have h1k := h1
  have h2k := h2
  have h3k := h3
  have h4k := h4
  have h5k := h5
  have w0 : ∀ n ∈ d0.weights Tryz.prog 24, n ≤ reachBytes := fun n hn => by
    have := List.all_eq_true.1 hsz n (DataW.weights_mem_each (j := 0) (t := 24) (d := d0) rfl rfl n hn)
    simpa using this
  have w2 : ∀ n ∈ d2.weights Tryz.prog 22, n ≤ reachBytes := fun n hn => by
    have := List.all_eq_true.1 hsz n (DataW.weights_mem_each (j := 2) (t := 22) (d := d2) rfl rfl n hn)
    simpa using this
  have w4 : ∀ n ∈ d4.weights Tryz.prog 58, n ≤ reachBytes := fun n hn => by
    have := List.all_eq_true.1 hsz n (DataW.weights_mem_each (j := 4) (t := 58) (d := d4) rfl rfl n hn)
    simpa using this
  have w5 : ∀ n ∈ d5.weights Tryz.prog 56, n ≤ reachBytes := fun n hn => by
    have := List.all_eq_true.1 hsz n (DataW.weights_mem_each (j := 5) (t := 56) (d := d5) rfl rfl n hn)
    simpa using this
  have w3 : ∀ n ∈ d3.weights Tryz.prog 9, n ≤ reachBytes := fun n hn => by
    have := List.all_eq_true.1 hsz n (DataW.weights_mem_each (j := 3) (t := 9) (d := d3) rfl rfl n hn)
    simpa using this
  obtain ⟨pr, R, rc, rfl, hR, hm, hRn⟩ := pres_of (hval 0 24 v0 rfl rfl) h0 w0
  obtain ⟨k, rfl, rfl, rfl, wk⟩ := open_int Tryz.underlying3 (hval 1 3 v1 rfl rfl) h1
  obtain ⟨I, ic, il, rfl, hI, him, hIn⟩ := strs_of (hval 2 22 v2 rfl rfl) h2 w2
  obtain ⟨s3, rfl, rfl, rfl, hs3⟩ := open_string Tryz.underlying9 (hval 3 9 v3 rfl rfl) h3
  have hs3b : s3.data.toList.length ≤ 140737488351232 := by
    have := w3 s3.data.toList.length (by simp [DataW.weights])
    rwa [reach_eq] at this
  obtain ⟨t, D, dc, rfl, hD, hdm, hDn, htu⟩ := tz_of (hval 4 58 v4 rfl rfl) h4 w4
  obtain ⟨C, cc, d, rfl, hC, hcm, hCn⟩ := cells_of (hval 5 56 v5 rfl rfl) h5 w5
  clear hA0
  have ht := tabs_ofH hL
  clear hL
  have hlt0 : ∀ x ∈ p0, x.block < W.heap.size := fun x hx => by
    have := hW'.lt x (by simp [hx])
    simpa using this
  have hlt2 : ∀ x ∈ p2, x.block < W.heap.size := fun x hx => by
    have := hW'.lt x (by simp [hx])
    simpa using this
  have hlt4 : ∀ x ∈ p4, x.block < W.heap.size := fun x hx => by
    have := hW'.lt x (by simp [hx])
    simpa using this
  have hlt5 : ∀ x ∈ p5, x.block < W.heap.size := fun x hx => by
    have := hW'.lt x (by simp [hx])
    simpa using this
  have walk := presStays_any pr R rc k I ic il s3.data.toList t D dc C cc d W ht hR hRn hm hI hIn him hs3b hD hDn hdm htu hC hCn hcm
  refine walk.mono ?_
  rintro e W' ⟨rfl, hb⟩
  refine ⟨_, rfl, _, _, _, [], p0 ++ ([] ++ (p2 ++ ([] ++ (p4 ++ (p5 ++ []))))), [], hW', ?_, ?_, rfl, hb.frame _, fun h => by cases h⟩
  · exact trodAll_cons_mk (shut_bool Tryz.underlying4 _) trodAll_mk0
  · exact trodAll_cons_mk (Below.trod laidOut (by kernel_rfl) (of_decide_eq_true (by kernel_rfl)) h0k hb hlt0) (trodAll_cons_mk (Below.trod laidOut (by kernel_rfl) (of_decide_eq_true (by kernel_rfl)) h1k hb (by simp)) (trodAll_cons_mk (Below.trod laidOut (by kernel_rfl) (of_decide_eq_true (by kernel_rfl)) h2k hb hlt2) (trodAll_cons_mk (Below.trod laidOut (by kernel_rfl) (of_decide_eq_true (by kernel_rfl)) h3k hb (by simp)) (trodAll_cons_mk (Below.trod laidOut (by kernel_rfl) (of_decide_eq_true (by kernel_rfl)) h4k hb hlt4) (trodAll_cons_mk (Below.trod laidOut (by kernel_rfl) (of_decide_eq_true (by kernel_rfl)) h5k hb hlt5) trodAll_mk0)))))

abbrev wArgs : Array Value := #[.agg #[.int .i64 0, .slice none 0 0], .int .i64 0, .slice none 0 0, .string ⟨#[]⟩, .agg #[.int .i64 0, .int .i64 0, .string ⟨#[]⟩, .slice none 0 0], .slice none 0 0]
theorem presStays_reads (os : Os) {H : Type} (enc : TypeId × Value → H) : ∃ places, DataW.whole enc Tryz.prog ((laidWorld os).forCall (fun _ _ => 0) ⟨#[], wArgs, []⟩).memory Tryz.f10.params.toList Rows.presStaysSpec.vars false wArgs.toList 8 = some ([.agg [.lit (.int .i64 0), .nil], .lit (.int .i64 0), .nil, .lit (.string []), .agg [.lit (.int .i64 0), .lit (.int .i64 0), .lit (.string []), .nil], .nil], [], places) :=
  ⟨[], by kernel_rfl⟩

set_option maxRecDepth 100000 in
theorem presStays_lifted (os : Os) (started : os.Started) (H : Type) (enc : TypeId × Value → H) (F : Stop.Interp) :
    ReturnsInHanded {} Tryz.checked os 10 .any ((OpenSpec.ofChange Rows.presStaysSpec).preRow enc Tryz.prog Tryz.f10 Rows.presStaysRow.domain false Rows.presStaysRow.laid) (((OpenSpec.ofChange Rows.presStaysSpec).at F).post enc Tryz.prog Tryz.f10 false true false false) := by
  obtain ⟨places, hx⟩ := presStays_reads os enc
  refine returnsInHanded_of_row (C := Tryz.checked) (s := OpenSpec.ofChange Rows.presStaysSpec) own started (by kernel_rfl) Tryz.func10
    (witness_row_at (enc := enc) (C := Tryz.checked) false (laidWorld os) wArgs rfl (by kernel_rfl) (by kernel_rfl) (by kernel_rfl)
      (OpenSpec.preRow_of_cond 8 hx (by kernel_rfl) (fun k hk => by cases hk) (by kernel_rfl) (laid_met os _))) ?_
  intro W base args ds gs before hval hW _ _ hsz hL _ _
  exact presStays_contract H enc W base args ds gs before hval hW hsz hL

theorem presStays_said : Rows.PresStaysSaid :=
  OpenClaim.holds_of_cond 10 Tryz.f10 rfl rfl rfl rfl rfl rfl rfl ⟨rfl, rfl, rfl, rfl, rfl⟩ rfl rfl rfl rfl rfl (by kernel_rfl) Tryz.func10 (by kernel_rfl)
    (of_decide_eq_true (by kernel_rfl)) (by unfold Func.isWrapper; first | (rw [if_pos (by decide +kernel)]; kernel_rfl) | (rw [if_neg (by decide +kernel)]; exact ⟨rfl, rfl⟩))
    (fun os started H enc _ F => by rw [OpenClaim.pre_eq_preRow]; exact presStays_lifted os started H enc F)

theorem presStays_plain (f : FuncId) (fn : Func) (hf : Tryz.pinned.checked.prog.funcNamed "cayley/cayleylaw03.PresStays" = some f) (hfn : Tryz.pinned.checked.prog.funcs[f]? = some fn) :
    true = Tryz.pinned.checked.prog.looks [] ∧ ∀ (j : Nat) t, fn.params[j]? = some t → Tryz.pinned.checked.prog.wantsStandIn t = false := by
  obtain rfl : f = 10 := Option.some.inj ((show Tryz.prog.funcNamed "cayley/cayleylaw03.PresStays" = some 10 by kernel_rfl).symm.trans hf) |>.symm
  obtain rfl : fn = Tryz.f10 := (Option.some.inj (Tryz.func10.symm.trans hfn)).symm
  refine ⟨by kernel_rfl, fun j t ht => ?_⟩
  rw [Tryz.params10] at ht
  have hm : t ∈ #[24, 3, 22, 9, 58, 56] := Array.mem_of_getElem? ht
  simp at hm
  rcases hm with rfl | rfl | rfl | rfl | rfl | rfl
  · exact (show Tryz.prog.wantsStandIn 24 = false by kernel_rfl)
  · exact (show Tryz.prog.wantsStandIn 3 = false by kernel_rfl)
  · exact (show Tryz.prog.wantsStandIn 22 = false by kernel_rfl)
  · exact (show Tryz.prog.wantsStandIn 9 = false by kernel_rfl)
  · exact (show Tryz.prog.wantsStandIn 58 = false by kernel_rfl)
  · exact (show Tryz.prog.wantsStandIn 56 = false by kernel_rfl)

/-- THE CARD. -/
theorem presStays_card : Rows.PresStaysCardSaid :=
  Claim7.holds_tied_plain_at .later [] _ _ _ _ presStays_said (fun _ h => by cases h) (by kernel_rfl) (fun _ h => by cases h) presStays_row_tie rfl ⟨rfl, rfl⟩ (by kernel_rfl) rfl presStays_plain (by kernel_rfl)
#print axioms presStays_card
end Go.Proofs.YteephomlnbbjeaaGreatDoor
