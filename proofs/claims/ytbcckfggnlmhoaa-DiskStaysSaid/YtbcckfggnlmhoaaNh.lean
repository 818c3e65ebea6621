/-
  Our own text, in the proof of the law DiskToMoves of package disk (cayleylaw04). Proved here: ToMoves where it does not refuse. No condition but bounds.
-/
import Derived.Test.YtbcckfggnlmhoaaNg
namespace Go.Proofs.Ytbcckfggnlmhoaa
open Go Go.RowKit Go.Shelf
attribute [local go_sem] Oper.semAt_some

theorem cells_of_cell {W : World} {b i : Nat} {v : Value} (h : W.cell? ⟨b, i, none⟩ = some v) : ∀ o, W.heap[b]? = some o → o.isCells = true := by
  intro o ho
  unfold World.cell? at h
  simp only [ho] at h
  cases o <;> simp_all [Obj.isCells]
theorem wtL_mem (p : Pr) : ∀ (d : List Cel) (c : Cel), c ∈ d → wtC p c ≤ wtL p d := by
  intro d
  induction d with
  | nil => intro c h; cases h
  | cons x d ih =>
    intro c h
    have e : wtL p (x :: d) = wtC p x + wtL p d := by simp [wtL]
    rcases List.mem_cons.1 h with rfl | h
    · omega
    · have := ih c h; omega
theorem wtL_many {p : Pr} (hp : presB p = true) : ∀ (d : List Cel), (∀ c ∈ d, cellB p c = true) → 2 * d.length ≤ wtL p d := by
  intro d
  induction d with
  | nil => intro _; simp
  | cons x d ih =>
    intro h
    have e : wtL p (x :: d) = wtC p x + wtL p d := by simp [wtL]
    have h1 := h x (by simp)
    unfold cellB at h1
    rw [Bool.and_eq_true] at h1
    have h2 := relLen_pos hp h1.1
    have h3 := ih (fun c hc => h c (by simp [hc]))
    have h4 : wtC p x = x.conj.length + 2 * relLen p x.rel := rfl
    rw [List.length_cons]
    omega
theorem undoS_len (p : Pr) (s : List UInt8 × List Mv) (c : Cel) : (undoS p s c).1.length ≤ s.1.length + 2 * wtC p c ∧ (undoS p s c).2.length ≤ s.2.length + 3 * wtC p c + 1 := by
  have hrl := relOf_relLen p c.rel (!c.inv)
  have hil : (invW c.conj).length = c.conj.length := ginv_len _ _
  have hwt : wtC p c = c.conj.length + 2 * relLen p c.rel := rfl
  have q1 := pairM_len c.conj s.1.length
  have z1 := rdL_len c.conj (s.1, s.2 ++ pairM s.1.length c.conj ++ [insM (s.1.length + c.conj.length) c])
  have z2 := rdL_len (relOf p c.rel (!c.inv)) (rdL (s.1, s.2 ++ pairM s.1.length c.conj ++ [insM (s.1.length + c.conj.length) c]) c.conj)
  have z3 := rdL_len (invW c.conj) (rdL (rdL (s.1, s.2 ++ pairM s.1.length c.conj ++ [insM (s.1.length + c.conj.length) c]) c.conj) (relOf p c.rel (!c.inv)))
  have y2 : (s.2 ++ pairM s.1.length c.conj ++ [insM (s.1.length + c.conj.length) c]).length = s.2.length + c.conj.length + 1 := by simp [q1.1]; omega
  simp only at z1
  constructor
  · show (rdL _ _).1.length ≤ _
    omega
  · show (rdL _ _).2.length ≤ _
    omega
theorem col_big (p : Pr) : ∀ (cs : List Cel) (s : List UInt8 × List Mv), (∀ c ∈ cs, wtC p c ≤ 20000) → (cs.foldl (undoS p) s).1.length ≤ s.1.length + cs.length * 40000 ∧ (cs.foldl (undoS p) s).2.length ≤ s.2.length + cs.length * 60001
  | [], s, _ => by simp
  | c :: cs, s, h => by
    have h1 := undoS_len p s c
    have h2 := col_big p cs (undoS p s c) (fun x hx => h x (by simp [hx]))
    have h3 := h c (by simp)
    rw [List.foldl_cons, List.length_cons]
    omega
def okK (ms : List Mv) : Prop := ∀ m ∈ ms, (Lit.int .i64 m.kind).wf = true
theorem okK_app {a b : List Mv} (ha : okK a) (hb : okK b) : okK (a ++ b) := fun m hm => (List.mem_append.1 hm).elim (ha m) (hb m)
theorem okK_pair : ∀ (u : List UInt8) (n : Nat), okK (pairM n u)
  | [], _ => fun m hm => by cases hm
  | c :: u, n => fun m hm => by
    rcases List.mem_cons.1 hm with rfl | hm
    · rfl
    · exact okK_pair u (n + 1) m hm
theorem okK_rdS {s : List UInt8 × List Mv} (h : okK s.2) (c : UInt8) : okK (rdS s c).2 := by
  obtain ⟨r, ms⟩ := s
  cases r with
  | nil => exact h
  | cons x t =>
    unfold rdS; simp only
    split
    · refine okK_app h (fun m hm => ?_)
      rw [List.mem_singleton] at hm; subst hm; rfl
    · exact h
theorem okK_rdL : ∀ (l : List UInt8) {s : List UInt8 × List Mv}, okK s.2 → okK (rdL s l).2
  | [], _, h => h
  | c :: l, _, h => okK_rdL l (okK_rdS h c)
theorem okK_undo (p : Pr) {s : List UInt8 × List Mv} (h : okK s.2) (c : Cel) : okK (undoS p s c).2 := by
  unfold undoS
  refine okK_rdL _ (okK_rdL _ (okK_rdL _ (okK_app (okK_app h (okK_pair _ _)) (fun m hm => ?_))))
  rw [List.mem_singleton] at hm; subst hm; rfl
theorem okK_fold (p : Pr) : ∀ (cs : List Cel) {s : List UInt8 × List Mv}, okK s.2 → okK (cs.foldl (undoS p) s).2
  | [], _, h => h
  | c :: cs, _, h => okK_fold p cs (okK_undo p h c)
theorem colS_kinds (p : Pr) (l : List UInt8) (cs : List Cel) : okK (colS p l cs).2 := okK_fold p cs (okK_rdL l (fun m hm => by cases hm))

theorem tmE_yes {p : Pr} {d : List Cel} {l : List UInt8} (h : tmE p d l = 0) : chk p [l] [d] = 0 ∧ bnd p d = red l ∧ l.length + wtL p d ≤ 20000 ∧ prI p d l = 0 := by
  unfold tmE at h
  split at h
  · rename_i hz
    obtain ⟨h1, h2⟩ := prI_chk hz
    refine ⟨h1, h2, ?_, hz⟩
    split at h
    · cases h
    · omega
  · rename_i hz; exact absurd h hz

theorem col_start (p : Pr) (R : Option Addr) (rc : Nat) (w : World) (l : List UInt8) :
    ColAt p R rc (w.heap.size + 1) w.heap.size none 0 none 0 [] [] (bw (w.alloc (.cells #[.int .i64 p.k, .slice R p.rels.length rc, .slice none 0 0, .slice none 0 0] 93)) l) ∧
      RowAt (bw (w.alloc (.cells #[.int .i64 p.k, .slice R p.rels.length rc, .slice none 0 0, .slice none 0 0] 93)) l) (some ⟨w.heap.size + 1, 0, none⟩) l ∧
      Below w.heap.size w (bw (w.alloc (.cells #[.int .i64 p.k, .slice R p.rels.length rc, .slice none 0 0, .slice none 0 0] 93)) l) := by
  have hX := HasCells.new w #[.int .i64 p.k, .slice R p.rels.length rc, .slice none 0 0, .slice none 0 0] 93
  have hfr : ∀ i, (w.alloc (.cells #[.int .i64 p.k, .slice R p.rels.length rc, .slice none 0 0, .slice none 0 0] 93)).frozen? ⟨w.heap.size, i, none⟩ = false := fun i => frozen_new _ _ _ _
  have s1 := World.size_alloc w (.cells #[.int .i64 p.k, .slice R p.rels.length rc, .slice none 0 0, .slice none 0 0] 93)
  have hal : Below w.heap.size w (w.alloc (.cells #[.int .i64 p.k, .slice R p.rels.length rc, .slice none 0 0, .slice none 0 0] 93)) := (Below.refl _ w).alloc (Nat.le_refl _) _
  generalize w.alloc (.cells #[.int .i64 p.k, .slice R p.rels.length rc, .slice none 0 0, .slice none 0 0] 93) = wc at *
  have hbb := bw_below wc l
  have hbs := bw_size wc l
  have hY := hX.below hbb
  have hbk := hbb.block w.heap.size (by omega)
  refine ⟨⟨hY.cell 0, hY.cell 1, hY.cell 2, hY.cell 3, (frozen_same hbk 2).trans (hfr 2), (frozen_same hbk 3).trans (hfr 3), World.ownsRow_nil _ _ _ _, World.ownsRow_nil _ _ _ _, by omega, by omega, by intro k hk; cases hk⟩, by rw [← s1]; exact bw_row wc l, hal.trans (hbb.mono (by omega))⟩

set_option maxHeartbeats 8000000 in
set_option maxRecDepth 100000 in
theorem ToMoves_in (p : Pr) (R : Option Addr) (rc : Nat) (D : Option Addr) (dc : Nat) (d : List Cel) (l : List UInt8) (w : World) (hr : RelsAt w R p.rels) (hm : p.rels.length ≤ maxLen) (hd : CellsAt w D d) (hD : D = none → d = []) (hdm : d.length ≤ 5000000000000) (hl : l.length ≤ maxLen) (hyes : tmE p d l = 0) :
    CallsIn Fence.wide 6 Try.prog 32 #[prV p.k R p.rels.length rc, .slice D d.length dc, .string ⟨l.toArray⟩] w (TmP w (colS p l (simp4 d).reverse).2 0) := by
  obtain ⟨hck, hbd, hsz, hz⟩ := tmE_yes hyes
  obtain ⟨hp, hw, hdb⟩ := chk_word hck
  have hlw := isWd_len hw
  obtain ⟨hdl, hdc, hdall⟩ := diskB_facts hdb
  have HB0 := Lib.hid (Boxd.start w (prC p.k R p.rels.length rc) 24)
  have hE := Proves_any p R rc D dc d l (w.alloc (.cells (prC p.k R p.rels.length rc) 24)) (hr.below HB0.out.old) hm (hd.below HB0.out.old) hdm hl
  rw [hz] at hE
  have HR := Lib.hid hr
  have HD := Lib.hid hd
  have HDN := Lib.hid hD
  have HP := Lib.hid hp
  have HW := Lib.hid hw
  have HDB := Lib.hid hdb
  have HALL := Lib.hid hdall
  have HBD := Lib.hid hbd
  have g0 := HB0.out.cell 0
  have g1 := HB0.out.cell 1
  simp only [List.getElem?_toArray, List.getElem?_cons_zero, List.getElem?_cons_succ] at g0 g1
  have hd3 : decide ((20000 : Int) < ((l.length + wtL p d : Nat) : Int)) = false := by simp; omega
  have hd3' : decide ((20000 : Int) < (l.length : Int) + (wtL p d : Int)) = false := by simp; omega
  have hd4 : decide (20000 < l.length + wtL p d) = false := by simpa using hsz
  clear hr hd hD hp hw hdb hdall hbd hz hck hyes hl hm
  refine callsIn_of_wp_marks Try.func32 rfl trivial ?_ rfl
  simp only [Try.ntmps32, List.size_toArray, List.length_cons, List.length_nil, Nat.reduceAdd, Nat.reduceSub, Array.replicate_succ, Array.replicate_zero, List.push_toArray, List.append_toArray, List.nil_append, List.cons_append]
  gi_wp2_with fail
  refine ⟨trivial, ?_⟩
  gi_at_call 14
  refine (callsIn_wide.2 hE).mono ?_
  rintro e1 w1 ⟨rfl, hb1⟩
  have HBX := Lib.hid (HB0.out.on hb1)
  have hS := size_any p R rc D dc d l w1 (HR.out.below HBX.out.old) (HD.out.below HBX.out.old) HP.out HDB.out hlw
  have x0 := HBX.out.cell 0
  have x1 := HBX.out.cell 1
  simp only [List.getElem?_toArray, List.getElem?_cons_zero, List.getElem?_cons_succ] at x0 x1
  clear hE hb1 g0 g1
  gi_wp2_with fail
  refine ⟨trivial, ?_⟩
  gi_at_call 67
  refine (callsIn_wide.2 hS).mono ?_
  rintro e2 w2 ⟨rfl, hb2⟩
  have HB2 := Lib.hid (HBX.out.on hb2)
  clear hS x0 x1 hb2
  have x0 := HB2.out.cell 0
  have x1 := HB2.out.cell 1
  simp only [List.getElem?_toArray, List.getElem?_cons_zero, List.getElem?_cons_succ] at x0 x1
  have hconv := run_bw l (w2.alloc (.cells #[.int .i64 p.k, .slice R p.rels.length rc, .slice none 0 0, .slice none 0 0] 93))
  gi_wp2_with fail
  have hst := col_start p R rc w2 l
  generalize bcap (w2.alloc (.cells #[.int .i64 p.k, .slice R p.rels.length rc, .slice none 0 0, .slice none 0 0] 93)) l = bc at *
  generalize bw (w2.alloc (.cells #[.int .i64 p.k, .slice R p.rels.length rc, .slice none 0 0, .slice none 0 0] 93)) l = wb at *
  obtain ⟨hcol0, hrow0, hbb⟩ := hst
  have hwW := HB2.out.size
  have HLW : Hid (w.heap.size ≤ w2.heap.size) := Lib.hid (by omega)
  have HR3 := read_any p R rc (w2.heap.size + 1) w2.heap.size none 0 none 0 [] [] wb hcol0 (some ⟨w2.heap.size + 1, 0, none⟩) bc l hrow0 (fun a ha => by cases ha; rintro (e | e | e) <;> first | (cases e; done) | (simp only at e; omega)) (by simp; omega) (by simp; omega)
  refine ⟨trivial, ?_⟩
  gi_at_call 68
  refine (callsIn_wide.2 HR3).mono ?_
  rintro e3 w3 ⟨rfl, O3, oc3, C3, cc3, hc3, ht3, hm3, hm3'⟩
  have hge : ∀ k, RecS w2.heap.size none none k → w2.heap.size ≤ k := by
    rintro k (e | e | e)
    · omega
    · cases e
    · cases e
  have HB3 : Hid (Below w.heap.size w w3) := Lib.hid (HB2.out.old.trans ((hbb.mono (by omega)).trans (ht3.below w.heap.size (by have := hbb.size; omega) (fun k hk => by have := hge k hk; omega))))
  have HC3 := Lib.hid hc3
  have hSm := simplified_any D dc d w3 (HD.out.below HB3.out) HDN.out (fun c hc => by have := isWd_len (HALL.out c hc).2; omega) (by omega)
  clear hcol0 hrow0 hbb HR3 hc3 ht3 hm3 hm3' hge x0 x1 hconv hwW
  gi_wp2_with fail
  refine ⟨trivial, ?_⟩
  gi_at_call 53
  refine (callsIn_wide.2 hSm).mono ?_
  rintro e4 w4 ⟨A4, c4, rfl, hown4, hb4⟩
  have HDS := Lib.hid (diskB_simp HDB.out)
  have HCS := Lib.hid (cells_own hown4 (fun c hc => by have := isWd_len ((diskB_facts HDS.out).2.2 c hc).2; omega))
  have HOW := Lib.hid hown4
  have HC4 := Lib.hid (HC3.out.below hb4)
  have HB4 : Hid (Below w.heap.size w w4) := Lib.hid (HB3.out.trans (hb4.mono HB3.out.size))
  have HNL := Lib.hid (simp4_len d)
  have HBK := Backward_any A4 (simp4 d).length c4 w4
  have HGE : Hid (∀ k, RecS w2.heap.size O3 C3 k → k < w3.heap.size ∧ w.heap.size ≤ k) := Lib.hid (fun k hk => ⟨HC3.out.lt k hk, Nat.le_trans HLW.out (HC3.out.ge k hk)⟩)
  have HA4 : Hid (∀ a, A4 = some a → w3.heap.size ≤ a.block ∧ a.block < w4.heap.size) := Lib.hid (fun a ha => by
    rcases own_shape hown4 with ⟨h, _⟩ | ⟨g, h, h1, h2⟩
    · rw [h] at ha; cases ha
    · rw [h] at ha; cases ha; exact ⟨h1, h2⟩)
  have HS34 := Lib.hid hb4.size
  clear hSm hown4 hb4
  gi_wp2_with fail
  refine ⟨trivial, ?_⟩
  gi_at_call 69
  refine (callsIn_wide.2 HBK).mono ?_
  rintro e5 w5 ⟨rfl, rfl⟩
  have HBX5 := Lib.hid (HasCells.new w4 #[.slice A4 (simp4 d).length c4] 25)
  have HB45 : Hid (Below w4.heap.size w4 (w4.alloc (.cells #[.slice A4 (simp4 d).length c4] 25))) := Lib.hid ((Below.refl _ w4).alloc (Nat.le_refl _) _)
  have HC5 := Lib.hid (HC4.out.below HB45.out)
  have HCS5 := Lib.hid (HCS.out.below HB45.out)
  have HS5 : Hid ((w4.alloc (.cells #[.slice A4 (simp4 d).length c4] 25)).heap.size = w4.heap.size + 1) := Lib.hid (by simp)
  generalize w4.alloc (.cells #[.slice A4 (simp4 d).length c4] 25) = w5 at *
  clear HBK
  gi_wp2_with fail
  have HQ : Hid (∀ c ∈ simp4 d, cellB p c = true ∧ wtC p c ≤ 20000) := Lib.hid (fun c hc => by
    obtain ⟨h1, h2⟩ := (diskB_facts HDS.out).2.2 c hc
    refine ⟨by unfold cellB; rw [h1, h2]; rfl, ?_⟩
    have := wtL_mem p (simp4 d) c hc
    have := wtL_simp4 p d
    omega)
  have HN10 : Hid ((simp4 d).length ≤ 10000) := Lib.hid (by
    have := wtL_many HP.out (simp4 d) (fun c hc => (HQ.out c hc).1)
    have := wtL_simp4 p d
    omega)
  have HB5 : Hid (Below w.heap.size w w5) := Lib.hid (HB4.out.trans (HB45.out.mono HB4.out.size))
  have HLL := Lib.hid (rdL_len l ([], []))
  refine wpIn_rangeFunc_ownH rfl (by decide) (gf := 90) (lb := #[.pointer (some ⟨w4.heap.size, 0, none⟩)]) rfl trivial (enters_of Try.func90 (by kernel_rfl) rfl)
    (backward_stops (fun c => cellB p c = true ∧ wtC p c ≤ 20000) 5 (by decide) (simp4 d) HQ.out A4 c4 (by have := HN10.out; omega) w4.heap.size w5 (HBX5.out.cell 0) HCS5.out (fun a ha => by have := (HA4.out a ha).2; have := HS5.out; omega))
    (fun h k hb => k (h hb))
    (fun W l' o o' hl' _ _ _ hpk => hpk.put o' (by have := HS5.out; omega) (fun a ha => by have := (HA4.out a ha).2; have := HS5.out; omega))
    (Below.refl _ _) (fun _ => rfl)
    (fun pre W => ColI p R rc (w2.heap.size + 1) w2.heap.size O3 C3 w5 ((pre.map (·.1.2)).foldl (undoS p) (rdL ([], []) l)) W)
    (fun _ _ _ => False)
    (ColI.own p R rc _ _ O3 C3 w5 _)
    (fun c => (fun s A B row hs hg hr => hs.elim))
    ⟨O3, oc3, C3, cc3, HC5.out, Touch.refl _ _, Moved.refl _ _, Moved.refl _ _⟩
    (fun x a' W => ∃ b1, a' = { tmps := #[prV p.k R p.rels.length rc, .slice D d.length dc, .string ⟨l.toArray⟩, .pointer (some ⟨w.heap.size, 0, none⟩), undef, undef, .slice none 0 0, .int .i64 0, .int .i64 0, .pointer (some ⟨w2.heap.size, 0, none⟩), undef, .pointer (some ⟨b1, 0, none⟩), .agg #[.int .i64 p.k, .slice R p.rels.length rc], .slice D d.length dc, .string ⟨l.toArray⟩, .int .i64 0, .int .i64 0, .bool false, undef, .agg #[.int .i64 p.k, .slice R p.rels.length rc], .slice D d.length dc, .string ⟨l.toArray⟩, .int .i64 ((l.length : Int) + (wtL p d : Int)), .bool false, .agg #[.int .i64 p.k, .slice R p.rels.length rc], .agg #[.int .i64 p.k, .slice R p.rels.length rc, .slice none 0 0, .slice none 0 0], .string ⟨l.toArray⟩, .slice (some ⟨w2.heap.size + 1, 0, none⟩) l.length bc, .tuple #[], .slice D d.length dc, .slice A4 (simp4 d).length c4, .func (.func 90) #[] #[.pointer (some ⟨w4.heap.size, 0, none⟩)], .int .i64 x.1.1, .agg #[.string ⟨x.1.2.conj.toArray⟩, .int .i64 x.1.2.rel, .bool x.1.2.inv], undef, undef, undef, undef], defers := [] } ∧ w5.heap.size ≤ b1 ∧ HasCells W b1 (celC x.1.2.conj x.1.2.rel x.1.2.inv))
    ?hAx ?hassign ?hbody ?hdone ?hstop
  case hAx =>
    rintro x a' _ W W' row ⟨b1, ha, hb1, hx⟩ hg hr
    refine ⟨b1, ha, hb1, hx.grown hg (fun e => ?_)⟩
    obtain ⟨_, o, ho, hc⟩ := hr b1 e
    have := cells_of_cell (hx.cell 0) o ho
    rw [this] at hc; cases hc
  case hassign =>
    rintro l' pre ⟨⟨k, ⟨cj, rel, inv⟩⟩, hQx⟩ W K hI hK
    have hal : Below W.heap.size W (W.alloc (.cells (celC cj rel inv) 61)) := (Below.refl _ W).alloc (Nat.le_refl _) _
    have hws : w5.heap.size ≤ W.heap.size := by obtain ⟨_, _, _, _, _, ht, _, _⟩ := hI; exact ht.size
    have HK := Lib.hid hK
    have HI := Lib.hid hI
    clear hK hI
    unfold encP
    gi_wp2
    refine HK.out _ _ ⟨hal.size, fun k o _ hk _ => (hal.block k (Array.getElem?_eq_some_iff.1 hk).1).trans hk⟩ (fun hpk => ⟨(hal.block _ (by have := HS5.out; omega)).trans hpk.1, fun a ha => (hal.block _ (by have := (HA4.out a ha).2; have := HS5.out; omega)).trans (hpk.2 a ha)⟩) ((ColI.own p R rc _ _ O3 C3 w5 (fun pre : List (Plc (fun c => cellB p c = true ∧ wtC p c ≤ 20000)) => (pre.map (·.1.2)).foldl (undoS p) (rdL ([], []) l))).alloc _ HI.out) ⟨W.heap.size, rfl, hws, HasCells.new W _ 61⟩
  case hbody =>
    rintro l' pre ⟨⟨k, ⟨cj, rel, inv⟩⟩, hQx⟩ a' W hl' hrec ⟨O', oc', C', cc', hcol, ht, hm1, hm2⟩ ⟨b1, rfl, hb1, hx⟩ hlt
    have y0 : W.cell? ⟨b1, 0, none⟩ = some (.string ⟨cj.toArray⟩) := hx.cell 0
    have y1 : W.cell? ⟨b1, 1, none⟩ = some (.int .i64 rel) := hx.cell 1
    have y2 : W.cell? ⟨b1, 2, none⟩ = some (.bool inv) := hx.cell 2
    have hQ2 := hQx.1
    unfold cellB at hQ2
    rw [Bool.and_eq_true] at hQ2
    have hbig := col_big p (pre.map (·.1.2)) (rdL ([], []) l) (fun c hc => by
      obtain ⟨x, _, rfl⟩ := List.mem_map.1 hc
      exact x.2.2)
    rw [List.length_map] at hbig
    have hl0 := HLL.out
    simp only [List.length_nil] at hl0
    have hn10 := HN10.out
    have HST := Lib.hid (show ((pre ++ [(⟨(k, ⟨cj, rel, inv⟩), hQx⟩ : Plc (fun c => cellB p c = true ∧ wtC p c ≤ 20000))]).map (·.1.2)).foldl (undoS p) (rdL ([], []) l) = undoS p ((pre.map (·.1.2)).foldl (undoS p) (rdL ([], []) l)) ⟨cj, rel, inv⟩ by simp)
    have HBW : Hid (Below w.heap.size w W) := Lib.hid (HB5.out.trans (ht.below w.heap.size HB5.out.size (fun k hk => (HGE.out k hk).2)))
    generalize (pre.map (·.1.2)).foldl (undoS p) (rdL ([], []) l) = s at *
    have hU := undo_any p R rc (w2.heap.size + 1) w2.heap.size O' oc' C' cc' s.1 s.2 W hcol HP.out w HR.out HBW.out HLW.out cj rel inv hQ2.1 hQ2.2 (by omega) (by omega)
    have HC := Lib.hid hcol
    have HT := Lib.hid ht
    have HM1 := Lib.hid hm1
    have HM2 := Lib.hid hm2
    clear hcol ht hm1 hm2 hbig hl0 hn10 hQ2 hx
    gi_wp2_with fail
    refine ⟨trivial, ?_⟩
    gi_at_call 70
    refine (callsIn_wide.2 hU).mono ?_
    rintro e W' ⟨rfl, O2, oc2, C2, cc2, hcol', ht', hm1', hm2'⟩
    have hfar : ∀ k, k < w5.heap.size → w3.heap.size ≤ k → W'.heap[k]? = W.heap[k]? := fun k hk h3 => ht'.block k (Nat.lt_of_lt_of_le hk HT.out.size) (fun e => by have := (HGE.out k (RecS.back HM1.out HM2.out k hk e)).1; omega)
    have HZ : Hid (KeepsFrom w5.heap.size W W' ∧ (PkB w5 w4.heap.size A4 W → PkB w5 w4.heap.size A4 W') ∧ ColI p R rc (w2.heap.size + 1) w2.heap.size O3 C3 w5 (undoS p s ⟨cj, rel, inv⟩) W') := Lib.hid ⟨HC.out.keepsFrom ht' _, fun hpk => ⟨(hfar _ (by have := HS5.out; omega) HS34.out).trans hpk.1, fun a ha => (hfar _ (by have := (HA4.out a ha).2; have := HS5.out; omega) (HA4.out a ha).1).trans (hpk.2 a ha)⟩, ⟨O2, oc2, C2, cc2, hcol', HT.out.trans ht' (RecS.back HM1.out HM2.out), HM1.out.trans hm1' HT.out.size, HM2.out.trans hm2' HT.out.size⟩⟩
    clear hU hcol' ht' hm1' hm2' hfar
    gi_wp2
    refine ⟨HZ.out.1, HZ.out.2.1, ?_⟩
    show ColI p R rc (w2.heap.size + 1) w2.heap.size O3 C3 w5 (((pre ++ [(⟨(k, ⟨cj, rel, inv⟩), hQx⟩ : Plc (fun c => cellB p c = true ∧ wtC p c ≤ 20000))]).map (·.1.2)).foldl (undoS p) (rdL ([], []) l)) W'
    rw [HST.out]
    exact HZ.out.2.2
  case hdone =>
    rintro D' ys W hD' hys ⟨O', oc', C', cc', hcol, ht, hm1, hm2⟩ hK
    rw [hys] at hcol
    have hcc : W.cell? ⟨w2.heap.size, 3, none⟩ = some (.slice C' (colS p l (simp4 d).reverse).2.length cc') := hcol.c3
    have HC := Lib.hid hcol
    have HBW : Hid (Below w.heap.size w W) := Lib.hid (HB5.out.trans (ht.below w.heap.size HB5.out.size (fun k hk => (HGE.out k hk).2)))
    have HKK := Lib.hid (colS_kinds p l (simp4 d).reverse)
    clear hcol ht hm1 hm2 hys
    gi_wp2
    refine ⟨by simp, .inl ⟨_, _, rfl, run_takeDeferred hK, ?_⟩⟩
    refine ⟨.tuple #[.slice C' (colS p l (simp4 d).reverse).2.length cc', .int .i64 0], ?_, C', cc', rfl, moves_own (ownsRow_putObj HC.out.mvs _ hK rfl) HKK.out, ?_, HBW.out.trans (belowK_b (w := w) (Nat.le_refl _) W D' _ _ (by have := HB5.out.size; omega) hK rfl rfl)⟩
    · simp [results, Try.results32, go_sem]
    · intro h
      rcases own_shape HC.out.mvs with ⟨_, _, h2⟩ | ⟨g, h2, _⟩
      · exact h2
      · rw [h2] at h; cases h
  case hstop =>
    rintro D' c pre W hD' _ hx hK
    exact hx.elim
end Go.Proofs.Ytbcckfggnlmhoaa
