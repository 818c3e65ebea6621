/-
  Our own text, in the proof of the law RopeSlices of package rope (cayleylaw02). Proved here: the list of parts that cutPower joins, beside a slicer. No condition.
-/
import Derived.Test.YtgklmcinbaghmaaGreatDoorFk
namespace Go.Proofs.YtgklmcinbaghmaaGreatDoor
open Go Go.RowKit

/-- The cells of a row of indices. -/
abbrev pr (ps : List Nat) : List Value := ir (ps.map fun (p : Nat) => (p : Int))
theorem pr_snoc (ps : List Nat) (p : Nat) : pr (ps ++ [p]) = pr ps ++ [.int .i64 (p : Int)] := by simp [pr, ir]

theorem own_at {w w' : World} {B size n c : Nat} {e : TypeId} {A : Option Addr} {xs : List Value} (h : w.ownsRow B e size (.slice A n c) n xs) (hs : ∀ (g : Nat) (cur : Array Value), w.heap[g]? = some (Obj.cells cur e (0, 0)) → w'.heap[g]? = w.heap[g]?) : w'.ownsRow B e size (.slice A n c) n xs := by
  refine ⟨h.1, ?_⟩
  rcases h.2 with h1 | ⟨g, cap, cur, hv, hg, hh, rest⟩
  · exact .inl h1
  · exact .inr ⟨g, cap, cur, hv, hg, by rw [hs g cur hh]; exact hh, rest⟩
/-- The row of parts stays over a call of the slicer. -/
theorem own3_sgrow {w w' : World} {base Q P Bm B : Nat} {A : Option Addr} {cap : Nat} {a : List Nd} {L : List Nat} {o : List Nd} {Ao : Option Addr} {co n : Nat} {f : Int → Option Value} {R' : Option Nat} {B0 m c : Nat} {Ap : Option Addr} {xs : List Value}
    (h : Slc w base Q P Bm B A cap a L o Ao co n f) (hg : SGrow Q B (rowOf Ao) R' w w') (ho : w.ownsRow B0 3 1 (.slice Ap m c) m xs) : w'.ownsRow B0 3 1 (.slice Ap m c) m xs := by
  refine own_at ho fun g cur hc => ?_
  have hlt := (Array.getElem?_eq_some_iff.1 hc).1
  refine hg.block g hlt ?_ ?_ ?_
  · rintro rfl
    have := (show w.heap[g]? = _ from h.q).symm.trans hc
    simp at this
  · rintro rfl
    obtain ⟨D, _, ⟨es, clock, e3, _⟩, _⟩ := h.keep.memo
    rw [hc] at e3; cases e3
  · intro e
    obtain ⟨_, cur2, fz, e2⟩ := own_row h.own g e.symm
    rw [hc] at e2; simp at e2

/-- append of one index to the parts. -/
theorem append_part {ops : Array Oper} {rest : List Oper} {o : Oper} {a : Act} {Q : Exit → Act → World → Prop} (w : World) (hgd : o.guard = none) (s x : Operand)
    (ho : o.op = .call { callee := .builtin .append, args := #[s, x], argTypes := #[26, 26] })
    (B : Nat) (A : Option Addr) (n cap : Nat) (ps : List Nat) (p : Nat) (hs : a.eval s = .slice A n cap) (hown : w.ownsRow B 3 1 (.slice A n cap) n (pr ps))
    (hx : a.eval x = .slice (some ⟨w.heap.size, 0, none⟩) 1 1) (hn : n ≤ 1000) (hB : B ≤ w.heap.size)
    (h : ∀ A' cap' w', w'.ownsRow B 3 1 (.slice A' (n + 1) cap') (n + 1) (pr (ps ++ [p])) → (w.alloc (.cells #[.int .i64 (p : Int)] 3)).grownBy w' (Value.slice A n cap).ownBlock → wpList Tryz.prog ops Q rest (a.put o.dst (.slice A' (n + 1) cap')) w') :
    wpList Tryz.prog ops Q (o :: rest) a (w.alloc (.cells #[.int .i64 (p : Int)] 3)) := by
  obtain ⟨i0, hi, hz0, hz1, hz2⟩ := info_parts Tryz.info3
  refine wpList_append_own _ hgd s x 26 ho B 3 i0 (.int .i64 0) 1 8 Tryz.underlying26 hi hz0 hz1 hz2 rfl (by decide) _ n (pr ps) hs (hown.alloc _) ⟨w.heap.size, 0, none⟩ 1 1 [.int .i64 (p : Int)] hx rfl (news_one w _ _) (by intro u hu; simp at hu; subst hu; rfl) (by unfold maxLen; omega) (by omega) (by simp; omega) ?_
  intro v' w' hown' hgrow _
  rcases hown'.2 with ⟨_, hx⟩ | ⟨g, c', cur, rfl, _⟩
  · simp at hx
  · exact h _ _ _ (by rw [pr_snoc]; exact hown') hgrow

theorem own3_block {w : World} {B n c : Nat} {A : Option Addr} {xs : List Value} (h : w.ownsRow B 3 1 (.slice A n c) n xs) : ∀ g, (Value.slice A n c).ownBlock = some g → B ≤ g ∧ ∃ cur, w.heap[g]? = some (.cells cur 3 (0, 0)) := by
  intro g hg
  rcases h.2 with ⟨hv, _⟩ | ⟨g', c', cur, hv, hb, hh, _⟩
  · rw [hv] at hg; simp [Value.ownBlock] at hg
  · rw [hv] at hg
    simp [Value.ownBlock] at hg
    subst hg
    exact ⟨hb, cur, hh⟩

/-- The slicer stays when a part is appended. -/
theorem slc_append {w w' : World} {base Q P Bm B : Nat} {A : Option Addr} {cap : Nat} {a : List Nd} {L : List Nat} {o : List Nd} {Ao : Option Addr} {co n : Nat} {f : Int → Option Value} {B0 m c : Nat} {Ap : Option Addr} {xs : List Value} {tmp : Obj}
    (h : Slc w base Q P Bm B A cap a L o Ao co n f) (ho : w.ownsRow B0 3 1 (.slice Ap m c) m xs) (hB0 : base ≤ B0) (hg : (w.alloc tmp).grownBy w' (Value.slice Ap m c).ownBlock) : Slc w' base Q P Bm B A cap a L o Ao co n f := by
  have hblk := own3_block ho
  have ha : Below w.heap.size w (w.alloc tmp) := (Below.refl _ w).alloc (Nat.le_refl _) _
  have h1 := h.on ha
  have hne : ∀ g cs t fz, w.heap[g]? = some (.cells cs t fz) → t ≠ 3 → some g ≠ (Value.slice Ap m c).ownBlock := by
    intro g cs t fz e1 e2 e3
    obtain ⟨_, cur, e4⟩ := hblk g e3.symm
    rw [e1] at e4
    simp at e4
    exact e2 e4.2.1
  have henv : ∀ {Bx : Nat} {sl : Value} {ms : Array Value} {q : Nat} {ff : Int → Option Value}, EnvI w Bx sl ms q ff → EnvI w' Bx sl ms q ff := fun {Bx} {sl} {ms} {q} {ff} hE => by
    have hE1 := hE.on ha
    refine hE1.same' fun i hi hi2 => hg.block i (by have := hE1.lt; omega) fun e3 => ?_
    obtain ⟨_, cur, e4⟩ := hblk i e3.symm
    have hc : i = Bx ∨ i = Bx + 1 ∨ i = Bx + 2 ∨ i = Bx + 3 ∨ i = Bx + 4 := by omega
    rcases hc with rfl | rfl | rfl | rfl | rfl
    · have := (show w.heap[i]? = _ from hE.rope).symm.trans e4; simp at this
    · have := (show w.heap[Bx + 1]? = _ from hE.mean).symm.trans e4; simp at this
    · obtain ⟨D, _, ⟨es, clock, e, _⟩, _⟩ := hE.memo
      rw [e4] at e; cases e
    · have := (show w.heap[Bx + 3]? = _ from hE.known).symm.trans e4; simp at this
    · have := (show w.heap[Bx + 4]? = _ from hE.self).symm.trans e4; simp at this
  refine ⟨h1.q.gb hg (hne _ _ _ _ h.q (by decide)), h1.p.gb hg (hne _ _ _ _ h.p (by decide)), ?_, henv h.len, henv h.keep, ?_, h.ropeB, h.baseQ, Nat.le_refl _⟩
  · refine h1.own.kept hg ?_
    rw [own_block h.own]
    cases hr : rowOf Ao with
    | none => exact .inl rfl
    | some g =>
      right
      obtain ⟨_, cur, fz, e2⟩ := own_row h.own g hr
      exact hne g cur 68 fz e2 (by decide)
  · intro i hi
    obtain ⟨ad, e, hx, hs⟩ := h1.rope i hi
    have hb1 : Below base (w.alloc tmp) w' := (Below.refl base _).grown hg (by have := h1.q.lt; have := h.baseQ; omega) (fun g e => by have := (hblk g e).1; omega)
    refine ⟨ad, e, hx.on hb1 ?_, hs⟩
    have := h.ropeB ad e
    unfold Addr.add
    split <;> exact this

/-- What lay ahead stays when a part is appended. -/
theorem sgrow_append {w0 w w' : World} {Q B : Nat} {R R' : Option Nat} {m c : Nat} {Ap : Option Addr} {xs : List Value} {tmp : Obj}
    (hG : SGrow Q B R R' w0 w) (ho : w.ownsRow w0.heap.size 3 1 (.slice Ap m c) m xs) (hg : (w.alloc tmp).grownBy w' (Value.slice Ap m c).ownBlock) : SGrow Q B R R' w0 w' := by
  have ha : Below w.heap.size w (w.alloc tmp) := (Below.refl _ w).alloc (Nat.le_refl _) _
  refine ⟨hg.os.trans (ha.os.trans hG.os), hg.tape.trans (ha.tape.trans hG.tape), hg.output.trans (ha.output.trans hG.output), Nat.le_trans hG.size (Nat.le_trans ha.size hg.size), fun b hb h1 h2 h3 => ?_, hG.row⟩
  have hb1 : b < w.heap.size := Nat.lt_of_lt_of_le hb hG.size
  rw [hg.block b (by have := ha.size; omega) ?_, ha.block b hb1, hG.block b hb h1 h2 h3]
  intro e
  have := (own3_block ho b e.symm).1
  omega

/-- The parts that a cut of a power has made so far. -/
structure Parts (base Q P Bm B : Nat) (A : Option Addr) (cap : Nat) (a : List Nd) (L : List Nat) (w0 : World) (o : List Nd) (Ao : Option Addr) (f : Int → Option Value) (k : Nat) (ps : List Nat) (us : List (List UInt8)) (x : Nat) (Ap : Option Addr) (cp : Nat) (oa : List Nd) (Aa : Option Addr) (ca na : Nat) (fa : Int → Option Value) (w : World) : Prop where
  own : w.ownsRow w0.heap.size 3 1 (.slice Ap ps.length cp) ps.length (pr ps)
  ks : KS w base Q P Bm B A cap a L oa Aa ca na fa
  ext : ∃ t, oa = o ++ t
  len : us.length = ps.length
  has : ∀ i, i < ps.length → Has oa (ps.getD i 0) (us.getD i [])
  phi : Phi a oa fa ≤ Phi a o f + x
  upd : ∀ j : Int, (k : Int) < j → fa j = f j
  none_ : ps = [] → oa = o
  one : o = [] → ∀ p, ps = [p] → p + 1 = oa.length
  grow : SGrow Q B (rowOf Ao) (rowOf Aa) w0 w

theorem Parts.on_ {base Q P Bm B : Nat} {A : Option Addr} {cap : Nat} {a : List Nd} {L : List Nat} {w0 : World} {o : List Nd} {Ao : Option Addr} {f : Int → Option Value} {k : Nat} {ps : List Nat} {us : List (List UInt8)} {x : Nat} {Ap : Option Addr} {cp : Nat} {oa : List Nd} {Aa : Option Addr} {ca na : Nat} {fa : Int → Option Value} {w w' : World}
    (h : Parts base Q P Bm B A cap a L w0 o Ao f k ps us x Ap cp oa Aa ca na fa w) (hb : Below w.heap.size w w') : Parts base Q P Bm B A cap a L w0 o Ao f k ps us x Ap cp oa Aa ca na fa w' :=
  ⟨own_below h.own hb.block, h.ks.on hb, h.ext, h.len, h.has, h.phi, h.upd, h.none_, h.one, h.grow.trans (SGrow.of_below hb)⟩

/-- A call has put out one part more; it is appended. -/
theorem Parts.snoc {base Q P Bm B : Nat} {A : Option Addr} {cap : Nat} {a : List Nd} {L : List Nat} {w0 : World} {o : List Nd} {Ao : Option Addr} {f : Int → Option Value} {k : Nat} {ps : List Nat} {us : List (List UInt8)} {x y : Nat} {Ap : Option Addr} {cp : Nat} {oa : List Nd} {Aa : Option Addr} {ca na : Nat} {fa : Int → Option Value} {w : World}
    (h : Parts base Q P Bm B A cap a L w0 o Ao f k ps us x Ap cp oa Aa ca na fa w) (hb0 : base ≤ w0.heap.size)
    {w1 w2 : World} {ob : List Nd} {Ab : Option Addr} {cb nb : Nat} {fb : Int → Option Value} {idx : Nat} {u : List UInt8}
    (hk : KS w1 base Q P Bm B A cap a L ob Ab cb nb fb) (hext : ∃ t, ob = oa ++ t) (hphi : Phi a ob fb ≤ Phi a oa fa + y) (hhas : Has ob idx u) (hupd : ∀ j : Int, (k : Int) < j → fb j = fa j) (hone : oa = [] → idx + 1 = ob.length)
    (hg : SGrow Q B (rowOf Aa) (rowOf Ab) w w1) {A9 : Option Addr} {c9 : Nat} {tmp : Obj}
    (ho9 : w2.ownsRow w0.heap.size 3 1 (.slice A9 (ps.length + 1) c9) (ps.length + 1) (pr (ps ++ [idx]))) (hg9 : (w1.alloc tmp).grownBy w2 (Value.slice Ap ps.length cp).ownBlock) :
    Parts base Q P Bm B A cap a L w0 o Ao f k (ps ++ [idx]) (us ++ [u]) (x + y) A9 c9 ob Ab cb nb fb w2 := by
  have ho1 := own3_sgrow h.ks.st hg h.own
  refine ⟨by simpa using ho9, ⟨slc_append hk.st ho1 hb0 hg9, hk.val, hk.know, hk.cnt⟩, ext_trans h.ext hext, by simp [h.len], ?_, ?_, ?_, ?_, ?_, sgrow_append (h.grow.trans hg) ho1 hg9⟩
  · intro i hi
    by_cases hlt : i < ps.length
    · have := (h.has i hlt).moret hext
      have hu : i < us.length := by rw [h.len]; exact hlt
      simpa [List.getD, List.getElem?_append_left hlt, List.getElem?_append_left hu] using this
    · have hi' : i = ps.length := by simp at hi; omega
      subst hi'
      have hu : us.length ≤ ps.length := by rw [h.len]; exact Nat.le_refl _
      have e1 : (ps ++ [idx]).getD ps.length 0 = idx := by simp [List.getD]
      have e2 : (us ++ [u]).getD ps.length [] = u := by rw [← h.len]; simp [List.getD]
      rw [e1, e2]
      exact hhas
  · have := h.phi; omega
  · intro j hj; rw [hupd j hj, h.upd j hj]
  · intro e; simp at e
  · intro e p hp
    have hps : ps = [] := by
      cases ps with
      | nil => rfl
      | cons z zs => simp at hp
    subst hps
    simp at hp
    subst hp
    exact hone (by rw [h.none_ rfl]; exact e)
end Go.Proofs.YtgklmcinbaghmaaGreatDoor
