/-
  Our own text, in the proofs of the laws of package pres (cayleylaw03). Proved here: a range over a function whose rounds may panic; trim, mustHold, isSmall, open, note, separated of package pres; separated of package pres: what its closure yields, also where a round panics. Conditions: the arguments lie in memory as the slices say; bounds; the listed tables lie as the program lays them.
-/
import Derived.RangeFuncNested
import Derived.RangeFuncBound
import Derived.RangeFuncCalls
import Derived.RangeFuncLeaves
import Derived.RangeFuncFrom
import Derived.Test.YteephomlnbbjeaaGreatDoorJp
import Derived.Test.YteephomlnbbjeaaGreatDoorJq
import Derived.LoopIn
import Derived.Shelf.RegionOpen
set_option linter.unusedVariables false
set_option linter.unusedSimpArgs false
set_option linter.unusedSectionVars false
namespace Go.Proofs.YteephomlnbbjeaaGreatDoor
open Go Go.RowKit
variable {F : Fence} {n : Nat} {P : Program}

/-- How a round may be left here: off its end, or by a panic. -/
def roundEnd (P : Program) (l : Nat) (R : Ending → World → Prop) : Exit → Act → World → Prop
  | .normal, _, w => ∃ v w', (Instr.endRound l none).run P w = .ok v w' ∧ R (.returned v) w'
  | .panic chain, a, w => a.defers = [] ∧ R (.panicked chain) w
  | _, _, _ => False

theorem round_panics {l : Nat} {f : FuncId} {fn : Func} {tmps : Array Value} {assign body : Code} {w : World} {R : Ending → World → Prop} (hF : F.fn f) (hfn : P.funcs[f]? = some fn)
    (h : assign.wpIn (F.inRound l) n P (Exit.then (fun a₁ w₁ => ∃ w₂, (Instr.beginRound l).run P w₁ = .ok () w₂ ∧ body.wpIn (F.inRound l) n P (roundEnd P l R) a₁ w₂) (fun _ _ _ => False))
      { tmps := tmps, defers := [] } w) :
    RoundIn F n P l f tmps assign body w R := by
  refine ⟨hF, fun c cs hr => ?_⟩
  let b : Frame := { (default : Frame) with fn := f, kind := .normal, roundOf := some l }
  have hb0 : Frame.round l f tmps assign body .normal = b.atR { tmps := tmps, defers := [] } [.code assign, .beginRound, .code body] := by
    simp [Frame.round, Frame.atR, b]
  have hr' : (F.inRound l).room ((c :: cs).length + 1 + n) := hr
  have hF' : (F.inRound l).fn b.fn := hF
  obtain ⟨e, a₁, w₁, hq, harr⟩ := h b [.beginRound, .code body] (c :: cs) rfl hF' hr'
  rw [← hb0] at harr
  cases e with
  | normal =>
    obtain ⟨w₂, hbr, hbody⟩ := hq
    have s1 : StepsIn (Machine.fenced P (F.inRound l)) P (lone (b.atR a₁ [.beginRound, .code body]) (c :: cs) w₁) (lone (b.atR a₁ [.code body]) (c :: cs) w₂) :=
      .one (fenced_calm (fr := b.atR a₁ [.beginRound, .code body]) hF' hr' rfl) (stepR_beginRound rfl hbr)
    obtain ⟨e₂, a₂, w₃, hq₂, harr₂⟩ := hbody b [] (c :: cs) rfl hF' hr'
    cases e₂ with
    | normal =>
      obtain ⟨v, w₄, hend, hR⟩ := hq₂
      exact ⟨.returned v, w₄, hR, (StepsIn.trans harr s1).trans (StepsIn.trans harr₂ (.one (fenced_calm (fr := b.atR a₂ []) hF' hr' rfl) (stepR_round_end rfl rfl hend)))⟩
    | panic chain =>
      obtain ⟨hd, hR⟩ := hq₂
      obtain ⟨todo, hs⟩ := harr₂
      have hl : ({ b.atR a₂ todo with mode := .panicking chain } : Frame).leaving P w₃ (.panicked chain) := ⟨rfl, hd, fn, hfn⟩
      refine ⟨.panicked chain, w₃, hR, (StepsIn.trans harr s1).trans (StepsIn.trans hs (.one (fenced_leaving (F := F.inRound l) hF' hr' hl) (step_leave_panicked hl)))⟩
    | ret => exact hq₂.elim
    | exit id => exact hq₂.elim
    | goto t => exact hq₂.elim
    | outgrown => exact hq₂.elim
  | exit id => exact hq.elim
  | goto t => exact hq.elim
  | ret => exact hq.elim
  | panic chain => exact hq.elim
  | outgrown => exact hq.elim

/-- What a function that is ranged over owes: it hands over xs, one by one; a round that panics ends it. -/
def SeqP {α : Type} (F : Fence) (n : Nat) (P : Program) (g : Nat) (lb : Array Value) (encs : α → Array Value) (Kp : World → World → Prop) (xs : List α) (w : World) : Prop :=
  ∀ (l : Nat) (J : List α → World → Prop) (Jp : List PanicEntry → World → Prop) (W : World), Below w.heap.size w W → AbidesFrom W.heap.size J →
    (∀ pre x post W1, xs = pre ++ x :: post → J pre W1 → YieldAt F (n - 1) P l (encs x) W1 fun e W' =>
      (e = .returned (.bool true) ∧ J (pre ++ [x]) W' ∧ Kp W1 W') ∨ (∃ chain, e = .panicked chain ∧ Jp chain W')) →
    J [] W →
    CallsIn F n P g (#[.func (.yield l) #[] #[]] ++ lb) W fun e W' => ((∃ v, e = .returned v) ∧ J xs W') ∨ (∃ chain, e = .panicked chain ∧ Jp chain W')

/-- How the body of a round is left. -/
def bodyEnd {α : Type} (Kp : World → World → Prop) (I : List α → World → Prop) (Ip : List PanicEntry → World → Prop) (xs : List α) (W : World) : Exit → Act → World → Prop
  | .normal, _, W' => KeepsOthers W W' ∧ Kp W W' ∧ I xs W'
  | .panic chain, a, W' => a.defers = [] ∧ KeepsOthers W W' ∧ Ip chain W'
  | _, _, _ => False


/-- Code, walked in a frame of one function alone, which the program has. -/
def On (f₀ : FuncId) (n : Nat) (P : Program) (c : Code) (Q : Exit → Act → World → Prop) (a : Act) (w : World) : Prop :=
  ∀ (b : Frame) (k : List Item) (cs : List Frame), b.roundOf = none → b.fn = f₀ →
    ∃ e a' w', Q e a' w' ∧ ArrivesIn (Machine.fenced P Fence.wide) P (lone (b.atR a (.code c :: k)) cs w) b k cs e a' w'
section
variable {f₀ : FuncId} {Q : Exit → Act → World → Prop} {a : Act} {w : World}

theorem wide1 {m m' : Machine} (h : step P m = .next m') : StepsIn (Machine.fenced P Fence.wide) P m m' := .one (fenced_wide P m) h
theorem On.of {c : Code} (h : c.wpIn Fence.wide n P Q a w) : On f₀ n P c Q a w := fun b k cs hro _ => h b k cs hro trivial (room_wide _)
theorem On.mono {c : Code} {Q' : Exit → Act → World → Prop} (h : On f₀ n P c Q a w) (hQ : ∀ e a w, Q e a w → Q' e a w) : On f₀ n P c Q' a w := fun b k cs hro hb => by
  obtain ⟨e, a', w', hq, harr⟩ := h b k cs hro hb
  exact ⟨e, a', w', hQ _ _ _ hq, harr⟩
theorem On.seq {x y : Code} (h : On f₀ n P x (Exit.then (On f₀ n P y Q) Q) a w) : On f₀ n P (Code.seq x y) Q a w := by
  intro b k cs hro hb
  obtain ⟨e, a₁, w₁, hq, harr⟩ := h b (.code y :: k) cs hro hb
  cases e with
  | normal =>
    obtain ⟨e₂, a₂, w₂, hq₂, harr₂⟩ := hq b k cs hro hb
    exact ⟨e₂, a₂, w₂, hq₂, .of_steps (StepsIn.trans (wide1 stepR_seq) harr) harr₂⟩
  | exit id => exact ⟨_, a₁, w₁, hq, .of_steps (wide1 stepR_seq) (.pass (x := .code y) rfl (fun _ _ => .inl (by simp)) harr)⟩
  | goto l => exact ⟨_, a₁, w₁, hq, .of_steps (wide1 stepR_seq) (.pass (x := .code y) rfl (fun _ _ => .inl (by simp)) harr)⟩
  | ret => exact ⟨_, a₁, w₁, hq, .of_steps (wide1 stepR_seq) (.pass (x := .code y) rfl (fun _ _ => .inl (by simp)) harr)⟩
  | panic ch => exact ⟨_, a₁, w₁, hq, .of_steps (wide1 stepR_seq) (.pass (x := .code y) rfl (fun _ _ => .inl (by simp)) harr)⟩
  | outgrown => exact ⟨_, a₁, w₁, hq, .of_steps (wide1 stepR_seq) (.pass (x := .code y) rfl (fun _ _ => .inl (by simp)) harr)⟩
/-- A block that is left off its end, or by a panic. -/
theorem On.block {id : Nat} {c : Code} (h : On f₀ n P c (fun e a w => match e with | .normal => Q .normal a w | .panic ch => Q (.panic ch) a w | _ => False) a w) : On f₀ n P (Code.block id c) Q a w := by
  intro b k cs hro hb
  obtain ⟨e, a₁, w₁, hq, harr⟩ := h b (.inBlock id :: k) cs hro hb
  cases e with
  | normal => exact ⟨.normal, a₁, w₁, hq, StepsIn.trans (wide1 stepR_block) (StepsIn.trans harr (wide1 stepR_inBlock))⟩
  | panic ch => exact ⟨_, a₁, w₁, hq, .of_steps (wide1 stepR_block) harr⟩
  | exit _ => exact hq.elim
  | goto _ => exact hq.elim
  | ret => exact hq.elim
  | outgrown => exact hq.elim

/-- A function's contract from its body, walked in its own frame. -/
theorem callsIn_of_on {f : FuncId} {fn : Func} {c : Code} {args : Array Value} {R : Ending → World → Prop} (hf : P.funcs[f]? = some fn) (hb : fn.body = some c)
    (h : On f n P c (bodyPostM Fence.wide n P fn R) { tmps := args ++ Array.replicate (fn.ntmps - args.size) undef, defers := [] } w) : CallsIn Fence.wide n P f args w R := by
  refine ⟨trivial, fun cs hr => ?_⟩
  let b : Frame := { (default : Frame) with fn := f, kind := .normal, roundOf := none }
  have henter : Frame.enter P f args .normal = b.atR { tmps := args ++ Array.replicate (fn.ntmps - args.size) undef, defers := [] } [.code c] := by
    simp [Frame.enter, Frame.atR, hf, hb, b]
  obtain ⟨e, a', w', hq, harr⟩ := h b [] cs rfl rfl
  rw [← henter] at harr
  cases e with
  | normal =>
    obtain ⟨e', w'', fr', hR, hs, hfn, hl⟩ := leaves_stepsInM a'.defers .returning w' { b.atR a' [] with mode := .returning } cs rfl rfl rfl hf rfl trivial hr hq
    exact ⟨e', w'', fr', hR, ComesIn.of_steps (StepsIn.trans harr (wide1 (stepR_end rfl))) hs, hfn, hl⟩
  | ret =>
    obtain ⟨todo, hs₀⟩ := harr.1 rfl
    obtain ⟨e', w'', fr', hR, hs, hfn, hl⟩ := leaves_stepsInM a'.defers .returning w' { b.atR a' todo with mode := .returning } cs rfl rfl rfl hf rfl trivial hr hq
    exact ⟨e', w'', fr', hR, ComesIn.of_steps hs₀ hs, hfn, hl⟩
  | panic chain =>
    obtain ⟨todo, hs⟩ := harr
    obtain ⟨e', w'', fr', hR, hs', hfn, hl⟩ := leaves_stepsInM a'.defers (.panicking chain) w' { b.atR a' todo with mode := .panicking chain } cs rfl rfl rfl hf rfl trivial hr hq
    exact ⟨e', w'', fr', hR, ComesIn.of_steps hs hs', hfn, hl⟩
  | exit id => exact hq.elim
  | goto l => exact hq.elim
  | outgrown => exact ⟨.outgrown, w', b, hq, harr.resolve_left (by simp [b]), rfl, trivial⟩

/-- A range over a function, in a frame of one function: the loop's record bears that function. -/
theorem On.rangeFunc {g : Operand} {ps : Array Tmp} {assign body : Code}
    (h : ∃ (l : Nat) (mark : List Deferred) (w₁ : World) (d : Deferred) (w₁' : World) (f : FuncId) (args : Array Value) (w₂ : World),
      (Instr.enterLoop f₀ a.tmps ps assign body none).run P w = .ok (l, mark) w₁ ∧ (resolve a.eval (rangeCall g l) 0).run P w₁ = .ok d w₁' ∧ (invoke d.target d.args).run P w₁' = .ok (.enter f args) w₂ ∧
      CallsIn Fence.wide (n - 1) P f args w₂ fun e w₃ => match e with
        | .returned _ => ∃ w₄, (Instr.endLoop l).run P w₃ = .ok none w₄ ∧ Q .normal { a with defers := mark ++ a.defers } w₄
        | .panicked chain => Q (.panic chain) { a with defers := mark ++ a.defers } w₃
        | .outgrown => False) : On f₀ n P (Code.rangeFunc g ps assign body) Q a w := by
  intro b k cs hro hb
  obtain ⟨l, mark, w₁, d, w₁', f, args, w₂, he, hres, hinv, _, hcall⟩ := h
  rw [← hb, ← hro] at he
  have henter := stepR_rangeFunc (P := P) (b := b) (a := a) (k := k) (cs := cs) (w := w) he hres hinv
  obtain ⟨e, w₃, fr, hR, hsteps, hfn, hleave⟩ := hcall (b.atR { a with defers := mark ++ a.defers } (.inRangeFunc l :: k) :: cs) (room_wide _)
  cases e with
  | outgrown => exact hR.elim
  | returned v =>
    obtain ⟨w₄, hend, hq⟩ := hR
    have s1 := StepsIn.trans (wide1 henter) hsteps
    have s2 := step_leave_returned (c := b.atR { a with defers := mark ++ a.defers } (.inRangeFunc l :: k)) (cs := cs) hleave
    rw [finish_atR_inRangeFunc l v] at s2
    exact ⟨.normal, _, w₄, hq, StepsIn.trans s1 (StepsIn.trans (wide1 s2) (wide1 (stepR_endRangeFunc hend)))⟩
  | panicked chain =>
    have s1 := StepsIn.trans (wide1 henter) hsteps
    have s2 := step_leave_panicked (c := b.atR { a with defers := mark ++ a.defers } (.inRangeFunc l :: k)) (cs := cs) hleave
    rw [Frame.raise_atR] at s2
    exact ⟨.panic chain, _, w₃, hR, .inRangeFunc l :: k, StepsIn.trans s1 (wide1 s2)⟩
end

theorem On.range_panics {α : Type} {g : Operand} {ps : Array Tmp} {assign body : Code} {Q : Exit → Act → World → Prop} {a : Act} {w : World}
    {f₀ : FuncId} {fd : Func} (hfd : P.funcs[f₀]? = some fd)
    {gf : Nat} {lb : Array Value} (hg : a.eval g = .func (.func gf) #[] lb) (eg : ∀ args w, (callFunc gf args).run P w = .ok (.enter gf args) w)
    {encs : α → Array Value} {Kp : World → World → Prop} {xs : List α} {w0 : World} (hseq : SeqP Fence.wide (n - 1) P gf lb encs Kp xs w0)
    (hKt : ∀ {A B C : World}, Kp A B → Kp B C → Kp A C) (hKb : ∀ (W : World) (l : Nat) (o o' : Obj), w.heap.size ≤ l → W.heap[l]? = some o → o.isCells = false → o.isWalk = false → Kp W (W.putObj l o')) (hb0 : Below w0.heap.size w0 w) (hps : ∀ x, (encs x).size = ps.size)
    (I : List α → World → Prop) (Ip : List PanicEntry → World → Prop) (hI : OwnFrom w.heap.size I) (h0 : I [] w) (a₁ : α → Act)
    (hassign : ∀ (l : Nat) (x : α) (W : World) (K : Act → World → Prop), K (a₁ x) W →
      assign.wpIn (Fence.wide.inRound l) (n - 1 - 1) P (Exit.then K (fun _ _ _ => False)) { tmps := (ps.zip (encs x)).foldl (fun t (p, v) => t.setIfInBounds p v) a.tmps, defers := [] } W)
    (hbody : ∀ (l : Nat) (pre : List α) (x : α) (post : List α) (W : World), xs = pre ++ x :: post → I pre W → body.wpIn (Fence.wide.inRound l) (n - 1 - 1) P (bodyEnd Kp I Ip (pre ++ [x]) W) (a₁ x) W)
    (hdone : ∀ (D : Nat) (W : World), w.heap.size ≤ D → I xs W → W.heap[D]? = some (.deferred (some [])) → Q .normal { a with defers := { target := .collected D, args := #[] } :: a.defers } W)
    (hpanic : ∀ (D : Nat) (chain : List PanicEntry) (W : World), w.heap.size ≤ D → Ip chain W → W.heap[D]? = some (.deferred (some [])) → Q (.panic chain) { a with defers := { target := .collected D, args := #[] } :: a.defers } W) :
    On f₀ n P (Code.rangeFunc g ps assign body) Q a w := by
  refine On.rangeFunc ?_
  generalize hrec : (fun (st : LoopState) => ({ state := st, pending := none, fn := f₀, tmps := a.tmps, params := ps, assign, body, defers := w.heap.size } : Loop)) = rec
  have hst : ∀ s, (rec s).state = s := fun s => by rw [← hrec]
  have hset : ∀ s t, ({ rec s with state := t } : Loop) = rec t := fun s t => by rw [← hrec]
  have hpar : ∀ s, (rec s).params = ps := fun s => by rw [← hrec]
  have hpen : ∀ s, (rec s).pending = none := fun s => by rw [← hrec]
  have hpset : ∀ s t, ({ rec s with state := t, pending := none } : Loop) = rec t := fun s t => by rw [← hrec]
  generalize hW1 : (w.alloc (.deferred (some []))).alloc (.loop (rec .ready)) = W1
  have hL1 : W1.heap[w.heap.size + 1]? = some (.loop (rec .ready)) := by
    rw [← hW1]; have := World.alloc_heap_new (w.alloc (.deferred (some []))) (.loop (rec .ready)); rwa [World.size_alloc] at this
  have hK1 : W1.heap[w.heap.size]? = some (.deferred (some [])) := by
    rw [← hW1]; exact (Below.heap_alloc _ _ _ (by simp)).trans (World.alloc_heap_new w _)
  have hI1 : I [] W1 := by rw [← hW1]; exact hI.alloc _ (hI.alloc _ h0)
  have hb1 : Below w0.heap.size w0 W1 := by
    rw [← hW1]; exact hb0.trans ((((Below.refl _ w).alloc (Nat.le_refl _) _).alloc (by simp) _).mono hb0.size)
  have hsz : w.heap.size ≤ W1.heap.size := by rw [← hW1]; simp; omega
  refine ⟨w.heap.size + 1, [{ target := .collected w.heap.size, args := #[] }], W1, { target := .fn (.func gf) lb, args := #[.func (.yield (w.heap.size + 1)) #[] #[]] }, W1, gf,
    #[.func (.yield (w.heap.size + 1)) #[] #[]] ++ lb, W1, ?_, ?_, ?_, ?_⟩
  · rw [← hW1, ← hrec]; exact run_enterLoop_outer _ _ _ _ _
  · simp only [resolve, hg]
    simp [go_sem]
  · simp [invoke, go_sem, eg]
  · refine (hseq (w.heap.size + 1)
      (fun pre W => I pre W ∧ W.heap[w.heap.size + 1]? = some (.loop (rec .ready)) ∧ W.heap[w.heap.size]? = some (.deferred (some [])))
      (fun chain W => Ip chain W ∧ W.heap[w.heap.size]? = some (.deferred (some []))) W1 hb1 ?_ ?_ ⟨hI1, hL1, hK1⟩).mono ?_
    · intro s A B row hs hg' hr
      refine ⟨hI s A B row hs.1 hg' (fun r e => ?_), (grownBy_keeps hg' (fun r e => (hr r e).2) hs.2.1 rfl).trans hs.2.1, (grownBy_keeps hg' (fun r e => (hr r e).2) hs.2.2 rfl).trans hs.2.2⟩
      obtain ⟨hB, o, ho, hw⟩ := hr r e
      exact ⟨by omega, o, ho, Obj.not_cells_of_walk hw⟩
    · rintro pre x post W hx ⟨hi, hl, hk⟩
      have hlt : w.heap.size + 1 < W.heap.size := (Array.getElem?_eq_some_iff.1 hl).1
      have hy := run_yield (P := P) (args := encs x) hl (by rw [hpar]; exact hps x)
      have hfn' : (rec .ready).fn = f₀ := by rw [← hrec]
      have htm : (rec .ready).tmps = a.tmps := by rw [← hrec]
      have has : (rec .ready).assign = assign := by rw [← hrec]
      have hbo : (rec .ready).body = body := by rw [← hrec]
      rw [hfn', htm, has, hbo, hpar] at hy
      refine ⟨f₀, _, assign, body, hy, round_panics trivial hfd (hassign _ x W _ ⟨_, run_beginRound hl (hst _), ?_⟩)⟩
      rw [hset]
      have hl2 : (W.putObj (w.heap.size + 1) (.loop (rec .busy))).heap[w.heap.size + 1]? = some (.loop (rec .busy)) := World.putObj_heap_same hlt
      have hk2 : (W.putObj (w.heap.size + 1) (.loop (rec .busy))).heap[w.heap.size]? = some (.deferred (some [])) := (World.putObj_heap_other (by omega)).trans hk
      have hw2 : Kp W (W.putObj (w.heap.size + 1) (.loop (rec .busy))) := hKb W _ _ _ (by omega) hl rfl rfl
      refine wpIn_mono (hbody _ pre x post _ hx (hI.putObj _ hi (by omega) hl rfl)) ?_
      rintro e a3 W3 hp
      cases e with
      | normal =>
        obtain ⟨hk3, hb3, hi3⟩ := hp
        have hl3 := hk3.same _ _ hl2 rfl
        have hend := run_endRound (P := P) none hl3
        have hlt3 : w.heap.size + 1 < W3.heap.size := (Array.getElem?_eq_some_iff.1 hl3).1
        refine ⟨_, _, hend, .inl ⟨rfl, ⟨hI.putObj _ hi3 (by omega) hl3 rfl, ?_, (World.putObj_heap_other (by omega)).trans (hk3.same _ _ hk2 rfl)⟩, hKt (hKt hw2 hb3) (hKb W3 _ _ _ (by omega) hl3 rfl rfl)⟩⟩
        rw [World.putObj_heap_same hlt3]
        simp only [Option.isNone_none, if_true, hpset]
      | panic chain =>
        obtain ⟨hd, hk3, hi3⟩ := hp
        exact ⟨hd, .inr ⟨chain, rfl, hi3, hk3.same _ _ hk2 rfl⟩⟩
      | ret => exact hp.elim
      | exit id => exact hp.elim
      | goto t => exact hp.elim
      | outgrown => exact hp.elim
    · rintro e W2 (⟨⟨v, rfl⟩, hi, hl, hk⟩ | ⟨chain, rfl, hi, hk⟩)
      · have hend := run_endLoop (P := P) hl (by rw [hst]; simp)
        rw [hpen] at hend
        exact ⟨_, hend, hdone _ _ (Nat.le_refl _) (hI.putObj _ hi (by omega) hl rfl) ((World.putObj_heap_other (by omega)).trans hk)⟩
      · exact hpanic _ chain _ (Nat.le_refl _) hi hk
end Go.Proofs.YteephomlnbbjeaaGreatDoor

namespace Go.Proofs.YteephomlnbbjeaaGreatDoor
open Go Go.RowKit Go.Shelf
attribute [local go_sem] Oper.semAt_some

set_option maxHeartbeats 400000 in
theorem trim_any (l : List UInt8) (w : World) (hl : l.length ≤ 1000000) :
    Calls Tryz.prog 104 #[.string ⟨l.toArray⟩] w fun e w' => e = .returned (.string ⟨(Lib.trimB l 32).toArray⟩) ∧ ∃ n, w' = w.drewN n := by
  have hT : Calls Tryz.prog 143 #[.string ⟨l.toArray⟩, .string ⟨#[32]⟩] w fun e w' => e = .returned (.string ⟨(Lib.trimB l 32).toArray⟩) ∧ (w' = w ∨ w' = w.drew) := Any.strings_Trim_one Tryz.laysTrim ⟨l.toArray⟩ 32 (by decide) w (by rw [size_mk]; omega)
  go_enter Tryz.func104, Tryz.ntmps104
  go_wp2_with (go_at_call 143; refine hT.mono ?_; rintro e w' ⟨rfl, hw⟩)
  go_ret
  refine ⟨rfl, ?_⟩
  rcases hw with rfl | rfl
  · exact ⟨0, rfl⟩
  · exact ⟨1, rfl⟩

set_option maxHeartbeats 400000 in
theorem must_yes (w : World) : Calls Tryz.prog 107 #[.bool true] w fun e w' => e = .returned (.tuple #[]) ∧ w = w' := by
  go_enter Tryz.func107, Tryz.ntmps107
  go_wp2
  go_end0
  exact ⟨rfl, rfl⟩
set_option maxHeartbeats 400000 in
theorem must_no (w : World) : Calls Tryz.prog 107 #[.bool false] w fun e w' => e = .panicked (leaves 4) ∧ w = w' := by
  go_enter Tryz.func107, Tryz.ntmps107
  go_wp2
  exact ⟨rfl, rfl, rfl⟩

def isSm (c : UInt8) : Bool := decide (97 ≤ c.toNat) && decide (c.toNat ≤ 122)
set_option maxHeartbeats 400000 in
theorem isSmall_any (c : UInt8) (w : World) :
    Calls Tryz.prog 109 #[.int .u8 c.toNat] w fun e w' => e = .returned (.bool (isSm c)) ∧ w = w' := by
  by_cases h1 : 97 ≤ (c.toNat : Int)
  · have HR : Hid (isSm c = decide ((c.toNat : Int) ≤ 122)) := Lib.hid (by
      have : 97 ≤ c.toNat := by omega
      have e : (decide ((c.toNat : Int) ≤ 122)) = decide (c.toNat ≤ 122) := by congr 1; simp; omega
      rw [e]; simp [isSm, this])
    go_enter Tryz.func109, Tryz.ntmps109
    go_wp2
    go_ret
    exact ⟨by rw [HR.out]; rfl, rfl⟩
  · have HR : Hid (isSm c = false) := Lib.hid (by
      have : ¬ 97 ≤ c.toNat := by omega
      simp [isSm, this])
    go_enter Tryz.func109, Tryz.ntmps109
    go_wp2
    go_ret
    exact ⟨by rw [HR.out]; rfl, rfl⟩

set_option maxHeartbeats 1000000 in
theorem cut_hit (s : ByteArray) (c : UInt8) (i : Nat) (hi : Lib.indexByte s.data.toList c = i) (hl : i < s.size) (hs : s.size ≤ 1000000) (w : World) :
    Calls Tryz.prog 145 #[.string s, .string ⟨#[c]⟩] w fun e w' => e = .returned (.tuple #[.string (s.extract 0 i), .string (s.extract (i + 1) s.size), .bool true]) ∧ ∃ n, w' = w.drewN n := by
  have hI : Calls Tryz.prog 181 #[.string s, .string ⟨#[c]⟩] w fun e w' => e = .returned (.int .i64 i) ∧ w' = w := by
    have := Any.stringslite_Index_one Tryz.laysIdx s c w
    rw [hi] at this
    exact this
  have c1 : (0 : Int) ≤ (i : Int) := by omega
  have c2 : (i : Int) ≤ (s.size : Int) := by omega
  have c3 : (0 : Int) ≤ (i : Int) + 1 := by omega
  have c4 : (i : Int) + 1 ≤ (s.size : Int) := by omega
  have mixed : Tryz.prog.follows .mixedOrders = true := by kernel_rfl
  clear hi
  go_enter Tryz.func145, Tryz.ntmps145
  go_wp2_with (go_at_call 181; refine hI.mono ?_; rintro e w' ⟨rfl, rfl⟩)
  go_region_o
  go_wp2
  go_ret3
  exact ⟨rfl, 1, rfl⟩
end Go.Proofs.YteephomlnbbjeaaGreatDoor

namespace Go.Proofs.YteephomlnbbjeaaGreatDoor
open Go Go.RowKit Go.Shelf
attribute [local go_sem] Oper.semAt_some

theorem separated_any (s : ByteArray) (c : UInt8) (w : World) :
    Calls Tryz.prog 108 #[.string s, .int .u8 c.toNat] w fun e w' => e = .returned (.func (.func 146) #[] #[.pointer (some ⟨w.heap.size, 0, none⟩), .pointer (some ⟨w.heap.size + 1, 0, none⟩)]) ∧
      w' = (w.alloc (.cells #[.string s] 9)).alloc (.cells #[.int .u8 c.toNat] 5) := by
  go_enter Tryz.func108, Tryz.ntmps108
  go_wp2
  go_ret
  exact ⟨by simp, rfl⟩

/-- What the rounds must leave as it lies. -/
def KpB (B : Nat) (A W : World) : Prop := W.cell? ⟨B, 0, none⟩ = A.cell? ⟨B, 0, none⟩ ∧ W.cell? ⟨B + 1, 0, none⟩ = A.cell? ⟨B + 1, 0, none⟩
theorem KpB.trans {B : Nat} {X Y Z : World} (h : KpB B X Y) (k : KpB B Y Z) : KpB B X Z := ⟨k.1.trans h.1, k.2.trans h.2⟩
theorem cell_putObj_other (W : World) (l : Nat) (o : Obj) (a : Addr) (h : a.block ≠ l) : (W.putObj l o).cell? a = W.cell? a := by
  unfold World.cell?
  rw [World.putObj_heap_other h]
theorem seg_snoc (l : List UInt8) (i st : Nat) (h : st ≤ i) (hi : i < l.length) : (l.take (i + 1)).drop st = (l.take i).drop st ++ [l[i]] := by
  rw [List.take_add_one, List.getElem?_eq_getElem hi, List.drop_append_of_le_length (by simp; omega)]
  rfl
theorem KpB.putObj {B : Nat} (W : World) (l : Nat) (o o' : Obj) (hl : B + 2 ≤ l) : KpB B W (W.putObj l o') := by
  constructor
  · exact cell_putObj_other W l o' _ (by simp; omega)
  · exact cell_putObj_other W l o' _ (by simp; omega)
theorem KpB.below {B : Nat} {X Y : World} {n : Nat} (h : Below n X Y) (hB : B + 2 ≤ n) : KpB B X Y :=
  ⟨h.cell (p := ⟨B, 0, none⟩) (by simp; omega), h.cell (p := ⟨B + 1, 0, none⟩) (by simp; omega)⟩

def strA (x : List UInt8) : Array Value := #[.string ⟨x.toArray⟩]

set_option maxRecDepth 100000 in
set_option maxHeartbeats 4000000 in
theorem sep_seq (n : Nat) (hn : 1 ≤ n) (s : ByteArray) (hs : s.size ≤ 1000000) (sep : UInt8) (B : Nat) (w : World) (hB : w.cell? ⟨B, 0, none⟩ = some (.string s)) (hB2 : w.cell? ⟨B + 1, 0, none⟩ = some (.int .u8 sep.toNat)) (hlt : B + 1 < w.heap.size) :
    SeqP Fence.wide n Tryz.prog 146 #[.pointer (some ⟨B, 0, none⟩), .pointer (some ⟨B + 1, 0, none⟩)] strA (KpB B) (sepL sep s.data.toList) w := by
  intro l J Jp W hW hJ hY h0
  have HJ : Hid (∀ pre W1, J pre W1 → J pre W1.drew) := Lib.hid (fun pre W1 h => hJ pre W1 W1.drew none h ⟨rfl, rfl, rfl, Nat.le_refl _, fun _ _ _ => rfl⟩ (fun r hr => by cases hr))
  have HY := Lib.hid hY
  have hc1 : W.cell? ⟨B, 0, none⟩ = some (.string s) := (hW.cell (p := ⟨B, 0, none⟩) (by simp; omega)).trans hB
  have hc2 : W.cell? ⟨B + 1, 0, none⟩ = some (.int .u8 sep.toNat) := (hW.cell (p := ⟨B + 1, 0, none⟩) hlt).trans hB2
  clear hY hJ hB hB2 hlt hW
  refine callsIn_of_wp Tryz.func146 rfl trivial ?_ rfl
  simp only [Tryz.ntmps146, List.size_toArray, List.length_cons, List.length_nil, Nat.reduceAdd, Nat.reduceSub, Array.replicate_succ, Array.replicate_zero, List.push_toArray, List.append_toArray, List.nil_append, List.cons_append]
  gi_wp2
  gi_loopw [4, 5, 10] (fun a d p wr => ∃ (i st : Nat) (dp : Int) (pre : List (List UInt8)), p = .int .i64 i ∧ a = .int .i64 st ∧ d = .int .i64 dp ∧ i ≤ s.size ∧ st ≤ i ∧ -i ≤ dp ∧ dp ≤ i ∧
      sepL sep s.data.toList = pre ++ sepGo sep (s.data.toList.drop i) ((s.data.toList.take i).drop st) dp ∧ J pre wr ∧ wr.cell? ⟨B, 0, none⟩ = some (.string s) ∧ wr.cell? ⟨B + 1, 0, none⟩ = some (.int .u8 sep.toNat))
    (fun _ _ p wr => s.size - (intOf p).toNat)
  case atStart =>
    exact ⟨0, 0, 0, [], rfl, rfl, rfl, by omega, by omega, by omega, by omega, by simp [sepL], h0, hc1, hc2⟩
  case round =>
    obtain ⟨i, st, dp, pre, rfl, rfl, rfl, hi, hst, hd0, hd1, hx, hJs, k1, k2⟩ := hrel
    by_cases hlt : i < s.size
    · have hil : i < s.data.toList.length := by simpa using hlt
      have hdrop : s.data.toList.drop i = s[i] :: s.data.toList.drop (i + 1) := List.drop_eq_getElem_cons hil
      have hseg : (s.data.toList.take (i + 1)).drop st = (s.data.toList.take i).drop st ++ [s[i]] := seg_snoc _ i st hst hil
      rw [hdrop] at hx
      unfold sepGo at hx
      rw [← hseg] at hx
      have HK := Lib.hid (And.intro k1 k2)
      have HJS := Lib.hid hJs
      by_cases h1 : s[i] = 91
      · rw [if_pos h1] at hx
        have HX := Lib.hid hx
        have e1 : ((s[i].toNat : Int) == 91) = true := by rw [h1]; rfl
        clear hx hdrop hseg h1 hJs hc1 hc2 h0
        gi_wp2
        go_roundw
        case rel => exact ⟨i + 1, st, dp + 1, pre, by go_num, rfl, rfl, by omega, by omega, by omega, by omega, HX.out, HJS.out, HK.out.1, HK.out.2⟩
        case measure => simp [intOf]; omega
      rw [if_neg h1] at hx
      have e1 : ((s[i].toNat : Int) == 91) = false := by rw [beq_eq_false_iff_ne]; intro e; exact h1 (UInt8.toNat_inj.1 (by exact_mod_cast e))
      by_cases h2 : s[i] = 93
      · rw [if_pos h2] at hx
        have HX := Lib.hid hx
        have e2 : ((s[i].toNat : Int) == 93) = true := by rw [h2]; rfl
        clear hx hdrop hseg h1 h2 hJs hc1 hc2 h0
        gi_wp2
        go_roundw
        case rel => exact ⟨i + 1, st, dp - 1, pre, by go_num, rfl, rfl, by omega, by omega, by omega, by omega, HX.out, HJS.out, HK.out.1, HK.out.2⟩
        case measure => simp [intOf]; omega
      rw [if_neg h2] at hx
      have e2 : ((s[i].toNat : Int) == 93) = false := by rw [beq_eq_false_iff_ne]; intro e; exact h2 (UInt8.toNat_inj.1 (by exact_mod_cast e))
      by_cases h3 : s[i] = sep
      · have e3 : ((s[i].toNat : Int) == (sep.toNat : Int)) = true := by rw [h3]; simp
        by_cases h4 : dp = 0
        · rw [if_pos ⟨h3, h4⟩] at hx
          have e4 : (dp == 0) = true := by simp [h4]
          have hseg2 : (⟨((s.data.toList.take i).drop st).toArray⟩ : ByteArray) = s.extract st i := ba_ext (by
            have e : (s.extract st i).data.toList = (s.data.toList.drop st).take (i - st) := by simp [ByteArray.data_extract, List.extract_eq_take_drop]
            rw [data_mk, e, List.drop_take])
          have hy0 := HY.out pre _ _ wr hx hJs
          unfold strA at hy0
          rw [hseg2] at hy0
          obtain ⟨fn, tmps, assign, body, hy, hR⟩ := hy0
          have HX := Lib.hid hx
          have hsi : (st : Int) ≤ (i : Int) := by omega
          have his : (i : Int) ≤ (s.size : Int) := by omega
          clear hx hdrop hseg hseg2 h1 h2 h3 h4 hJs hc1 hc2 h0
          gi_wp2
          refine hR.mono ?_
          rintro e W3 (⟨rfl, hJ3, hk3⟩ | ⟨chain, rfl, hJp3⟩)
          · have k3 : W3.cell? ⟨B, 0, none⟩ = some (.string s) := hk3.1.trans HK.out.1
            have k4 : W3.cell? ⟨B + 1, 0, none⟩ = some (.int .u8 sep.toNat) := hk3.2.trans HK.out.2
            gi_wp2
            go_roundw
            case rel => exact ⟨i + 1, i + 1, 0, _, by go_num, by go_num, by rw [show dp = 0 by simpa using e4], by omega, by omega, by omega, by omega, by rw [HX.out, show (s.data.toList.take (i + 1)).drop (i + 1) = [] from List.drop_eq_nil_of_le (by rw [List.length_take]; exact Nat.min_le_left _ _)]; simp, hJ3, k3, k4⟩
            case measure => simp [intOf]; omega
          · gi_wp2
            exact ⟨rfl, .inr ⟨chain, rfl, hJp3⟩⟩
        · rw [if_neg (fun h => h4 h.2)] at hx
          have e4 : (dp == 0) = false := by simpa using h4
          have HX := Lib.hid hx
          clear hx hdrop hseg h1 h2 h3 h4 hJs hc1 hc2 h0
          gi_wp2
          go_roundw
          case rel => exact ⟨i + 1, st, dp, pre, by go_num, rfl, rfl, by omega, by omega, by omega, by omega, HX.out, HJS.out, HK.out.1, HK.out.2⟩
          case measure => simp [intOf]; omega
      · rw [if_neg (fun h => h3 h.1)] at hx
        have e3 : ((s[i].toNat : Int) == (sep.toNat : Int)) = false := by rw [beq_eq_false_iff_ne]; intro e; exact h3 (UInt8.toNat_inj.1 (by exact_mod_cast e))
        have HX := Lib.hid hx
        clear hx hdrop hseg h1 h2 h3 hJs hc1 hc2 h0
        gi_wp2
        go_roundw
        case rel => exact ⟨i + 1, st, dp, pre, by go_num, rfl, rfl, by omega, by omega, by omega, by omega, HX.out, HJS.out, HK.out.1, HK.out.2⟩
        case measure => simp [intOf]; omega
    · have he : i = s.size := by omega
      subst he
      have hnil : s.data.toList.drop s.size = [] := List.drop_eq_nil_of_le (by simp)
      have htk : s.data.toList.take s.size = s.data.toList := List.take_of_length_le (by simp)
      rw [hnil, htk] at hx
      unfold sepGo at hx
      have hseg2 : (⟨(s.data.toList.drop st).toArray⟩ : ByteArray) = s.extract st s.size := ba_ext (by
        have e : (s.extract st s.size).data.toList = (s.data.toList.drop st).take (s.size - st) := by simp [ByteArray.data_extract, List.extract_eq_take_drop]
        rw [data_mk, e, List.take_of_length_le (by simp)])
      have hy0 := HY.out pre _ [] wr hx hJs
      unfold strA at hy0
      rw [hseg2] at hy0
      obtain ⟨fn, tmps, assign, body, hy, hR⟩ := hy0
      have HX := Lib.hid hx
      have hsi : (st : Int) ≤ (s.size : Int) := by omega
      clear hx hseg2 hnil htk hJs hc1 hc2 h0
      gi_wp2
      refine hR.mono ?_
      rintro e W3 (⟨rfl, hJ3, hk3⟩ | ⟨chain, rfl, hJp3⟩)
      · gi_wp2
        go_end0
        exact .inl ⟨⟨_, rfl⟩, by rw [HX.out]; exact hJ3⟩
      · gi_wp2
        exact ⟨rfl, .inr ⟨chain, rfl, hJp3⟩⟩
end Go.Proofs.YteephomlnbbjeaaGreatDoor
