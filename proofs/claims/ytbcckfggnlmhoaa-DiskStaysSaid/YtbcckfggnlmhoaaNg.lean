/-
  Our own text, in the proof of the law DiskToMoves of package disk (cayleylaw04). Proved here: Backward's contract for the range; what the loop of ToMoves keeps; ToMoves where it refuses. No condition but bounds.
-/
import Derived.Test.YtbcckfggnlmhoaaNf
namespace Go.Proofs.Ytbcckfggnlmhoaa
open Go Go.RowKit Go.Shelf

/-- The iterator's box and the row of cells lie as they lay. -/
def PkB (w0 : World) (Bn : Nat) (A : Option Addr) (X : World) : Prop := X.heap[Bn]? = w0.heap[Bn]? ∧ ∀ a, A = some a → X.heap[a.block]? = w0.heap[a.block]?
theorem PkB.reads {w0 : World} {Bn cap : Nat} {A : Option Addr} {d : List Cel} (hB : w0.cell? ⟨Bn, 0, none⟩ = some (.slice A d.length cap)) (hC : CellsAt w0 A d) (X : World) (h : PkB w0 Bn A X) : X.cell? ⟨Bn, 0, none⟩ = some (.slice A d.length cap) ∧ CellsAt X A d := by
  refine ⟨(cell_same h.1 0).trans hB, fun i hi => ?_⟩
  obtain ⟨b, o, hA, q⟩ := hC i hi
  have hb := h.2 _ hA
  exact ⟨b, o, hA, ⟨(cell_same hb _).trans q.conj, (cell_same hb _).trans q.rel, (cell_same hb _).trans q.inv, q.len⟩⟩
theorem PkB.below {w0 X : World} {Bn : Nat} {A : Option Addr} (h : Below w0.heap.size w0 X) (hB : Bn < w0.heap.size) (hA : ∀ a, A = some a → a.block < w0.heap.size) : PkB w0 Bn A X := ⟨h.block _ hB, fun a ha => h.block _ (hA a ha)⟩
theorem PkB.put {w0 W : World} {Bn : Nat} {A : Option Addr} {l : Nat} (o' : Obj) (h : PkB w0 Bn A W) (hB : Bn < l) (hA : ∀ a, A = some a → a.block < l) : PkB w0 Bn A (W.putObj l o') :=
  ⟨(World.putObj_heap_other (by omega)).trans h.1, fun a ha => (World.putObj_heap_other (by have := hA a ha; omega)).trans (h.2 a ha)⟩

theorem backward_stops (Q : Cel → Prop) (n : Nat) (hn : 2 ≤ n) (d : List Cel) (hQ : ∀ c ∈ d, Q c) (A : Option Addr) (cap : Nat) (hs : d.length ≤ 1000000) (Bn : Nat) (w0 : World) (hB : w0.cell? ⟨Bn, 0, none⟩ = some (.slice A d.length cap)) (hC : CellsAt w0 A d) (hA : ∀ a, A = some a → a.block < w0.heap.size) :
    SeqStopsK Fence.wide n Try.prog 90 #[.pointer (some ⟨Bn, 0, none⟩)] (encP (Q := Q)) (fun X Y => PkB w0 Bn A X → PkB w0 Bn A Y)
      (fun ys => ys.map (·.1.2) = d.reverse) (fun _ => True) d.length w0 := by
  intro l J Jx W hW hJ hJx hY h0
  refine (backward_in Q n hn d hQ A cap hs l Bn J Jx (PkB w0 Bn A) (PkB.reads hB hC) hY W (PkB.below hW (lt_of_cell hB) hA) h0).mono ?_
  rintro e W' ⟨he, h⟩
  refine ⟨he, ?_⟩
  rcases h with ⟨ys, h1, h2⟩ | ⟨pre, h2⟩
  · exact .inl ⟨ys, h1, h2⟩
  · exact .inr ⟨pre, trivial, h2⟩

/-- The blocks that collapse may turn hold cells. -/
theorem ColAt.cells {p : Pr} {R : Option Addr} {rc B cb : Nat} {O : Option Addr} {oc : Nat} {C : Option Addr} {cc : Nat} {r : List UInt8} {ms : List Mv} {W : World} (h : ColAt p R rc B cb O oc C cc r ms W) : ∀ k, RecS cb O C k → ∀ o, W.heap[k]? = some o → o.isCells = true := by
  rintro k (rfl | hk | hk) o ho
  · have := h.c0
    unfold World.cell? at this
    simp only [ho] at this
    cases o <;> simp_all [Obj.isCells]
  · rcases h.word.2 with ⟨hv, _⟩ | ⟨g, c', cur, hv, _, hh, _⟩
    · simp only [Value.slice.injEq] at hv; rw [hv.1] at hk; cases hk
    · simp only [Value.slice.injEq] at hv; rw [hv.1] at hk; cases hk; rw [hh] at ho; cases ho; rfl
  · rcases h.mvs.2 with ⟨hv, _⟩ | ⟨g, c', cur, hv, _, hh, _⟩
    · simp only [Value.slice.injEq] at hv; rw [hv.1] at hk; cases hk
    · simp only [Value.slice.injEq] at hv; rw [hv.1] at hk; cases hk; rw [hh] at ho; cases ho; rfl
theorem ColAt.keepsFrom {p : Pr} {R : Option Addr} {rc B cb : Nat} {O : Option Addr} {oc : Nat} {C : Option Addr} {cc : Nat} {r : List UInt8} {ms : List Mv} {W W' : World} (h : ColAt p R rc B cb O oc C cc r ms W) (ht : Touch (RecS cb O C) W W') (b : Nat) : KeepsFrom b W W' :=
  ⟨ht.size, fun k o _ hk ho => (ht.block k (Array.getElem?_eq_some_iff.1 hk).1 (fun e => by have := h.cells k e o hk; rw [this] at ho; cases ho)).trans hk⟩

/-- What the loop keeps: collapse, and what it has touched since the loop began. -/
def ColI (p : Pr) (R : Option Addr) (rc B cb : Nat) (O C : Option Addr) (w0 : World) (s : List UInt8 × List Mv) (W : World) : Prop :=
  ∃ O' oc' C' cc', ColAt p R rc B cb O' oc' C' cc' s.1 s.2 W ∧ Touch (RecS cb O C) w0 W ∧ Moved w0 O O' ∧ Moved w0 C C'
theorem ColI.own (p : Pr) (R : Option Addr) (rc B cb : Nat) (O C : Option Addr) (w0 : World) {β : Type} (f : β → List UInt8 × List Mv) : OwnFrom w0.heap.size (fun s W => ColI p R rc B cb O C w0 (f s) W) := by
  rintro s W W' row ⟨O', oc', C', cc', h, ht, h1, h2⟩ hg hr
  refine ⟨O', oc', C', cc', h.keep (fun k hk => hg.block k (h.lt k hk) (fun e => ?_)) hg.size, ?_, h1, h2⟩
  · obtain ⟨_, o, ho, hc⟩ := hr k e.symm
    have := h.cells k hk o ho
    rw [this] at hc; cases hc
  · exact ⟨hg.os.trans ht.os, hg.tape.trans ht.tape, hg.output.trans ht.output, Nat.le_trans ht.size hg.size, fun k hk hs => (hg.block k (Nat.lt_of_lt_of_le hk ht.size) (fun e => by have := (hr k e.symm).1; omega)).trans (ht.block k hk hs)⟩

/-- How ToMoves ends. -/
def TmP (w : World) (ms : List Mv) (c : Int) (e : Ending) (w' : World) : Prop :=
  ∃ C cc, e = .returned (.tuple #[.slice C ms.length cc, .int .i64 c]) ∧ MovesAt w' C ms ∧ (C = none → cc = 0) ∧ Below w.heap.size w w'
theorem TmP.no {w w' : World} {c : Int} (hb : Below w.heap.size w w') : TmP w [] c (.returned (.tuple #[.slice none 0 0, .int .i64 c])) w' :=
  ⟨none, 0, rfl, (fun i hi => absurd hi (Nat.not_lt_zero i)), fun _ => rfl, hb⟩

set_option maxHeartbeats 4000000 in
set_option maxRecDepth 100000 in
theorem ToMoves_no (p : Pr) (R : Option Addr) (rc : Nat) (D : Option Addr) (dc : Nat) (d : List Cel) (l : List UInt8) (w : World) (hr : RelsAt w R p.rels) (hm : p.rels.length ≤ maxLen) (hd : CellsAt w D d) (hdm : d.length ≤ 5000000000000) (hl : l.length ≤ maxLen) (hno : tmE p d l ≠ 0) :
    Calls Try.prog 32 #[prV p.k R p.rels.length rc, .slice D d.length dc, .string ⟨l.toArray⟩] w (TmP w [] (tmE p d l)) := by
  have HB0 := Lib.hid (Boxd.start w (prC p.k R p.rels.length rc) 24)
  have hE := Proves_any p R rc D dc d l (w.alloc (.cells (prC p.k R p.rels.length rc) 24)) (hr.below HB0.out.old) hm (hd.below HB0.out.old) hdm hl
  have HR := Lib.hid hr
  have HD := Lib.hid hd
  have HPC := Lib.hid (prI_cases p d l)
  have g0 := HB0.out.cell 0
  have g1 := HB0.out.cell 1
  simp only [List.getElem?_toArray, List.getElem?_cons_zero, List.getElem?_cons_succ] at g0 g1
  clear hr hd
  by_cases hz : prI p d l = 0
  · obtain ⟨hck, hbd⟩ := prI_chk hz
    obtain ⟨hp, hw, hdb⟩ := chk_word hck
    have hlw := isWd_len hw
    have HT0 : tmE p d l = if 20000 < l.length + wtL p d then 2 else 0 := if_pos hz
    have hbig : 20000 < l.length + wtL p d := by
      rcases Nat.lt_or_ge 20000 (l.length + wtL p d) with h | h
      · exact h
      · rw [if_neg (by omega)] at HT0; exact absurd HT0 hno
    have HT : Hid (tmE p d l = 2) := Lib.hid (by rw [HT0, if_pos hbig])
    have hwt : wtL p d ≤ 100000 * 100400 := by
      obtain ⟨hdl, _, hdall⟩ := diskB_facts hdb
      have : ∀ n, n ≤ d.length → wtL p (d.take n) ≤ n * 100400 := by
        intro n
        induction n with
        | zero => intro _; simp [wtL]
        | succ n ih =>
          intro hn
          rw [wtL_take p d n (by omega)]
          have := ih (by omega)
          obtain ⟨a1, a2⟩ := hdall _ (List.getElem_mem (show n < d.length by omega))
          have := isWd_len a2
          have := relLen_le hp a1
          unfold wtC
          omega
      have := this d.length (Nat.le_refl _)
      rw [List.take_of_length_le (Nat.le_refl _)] at this
      exact Nat.le_trans this (Nat.mul_le_mul_right _ hdl)
    have HP := Lib.hid (And.intro hp hdb)
    rw [hz] at hE
    clear hp hw hdb hz hck hbd HPC hm hl hno HT0
    have hd3 : decide ((20000 : Int) < ((l.length + wtL p d : Nat) : Int)) = true := by simp; omega
    have hd3' : decide ((20000 : Int) < (l.length : Int) + (wtL p d : Int)) = true := by simp; omega
    have hd4 : decide (20000 < l.length + wtL p d) = true := by simpa using hbig
    go_enter Try.func32, Try.ntmps32
    go_wp2_with fail
    refine hE.mono ?_
    rintro e1 w1 ⟨rfl, hb1⟩
    have HBX := Lib.hid (HB0.out.on hb1)
    have hS := size_any p R rc D dc d l w1 (HR.out.below HBX.out.old) (HD.out.below HBX.out.old) HP.out.1 HP.out.2 hlw
    have x0 := HBX.out.cell 0
    have x1 := HBX.out.cell 1
    simp only [List.getElem?_toArray, List.getElem?_cons_zero, List.getElem?_cons_succ] at x0 x1
    clear hE hb1 g0 g1
    go_wp2_with fail
    refine hS.mono ?_
    rintro e2 w2 ⟨rfl, hb2⟩
    clear hS x0 x1
    go_wp2
    go_ret2
    rw [HT.out]
    exact TmP.no (HBX.out.on hb2).old
  · have HT : Hid (tmE p d l = prI p d l) := Lib.hid (if_neg hz)
    rcases HPC.out with e | e | e | e | e
    · exact absurd e hz
    all_goals
      rw [e] at hE HT
      clear e hz HPC hno
      go_enter Try.func32, Try.ntmps32
      go_wp2_with fail
      refine hE.mono ?_
      rintro e1 w1 ⟨rfl, hb1⟩
      go_wp2
      go_ret2
      rw [HT.out]
      exact TmP.no (HB0.out.on hb1).old
end Go.Proofs.Ytbcckfggnlmhoaa
