/-
  Our own text, in the proofs of the laws of package rope. Proved here: the closure of expand writes the word of a node. Conditions: the nodes lie in memory below the closure's own blocks.
-/
import Derived.Test.YtgklmcinbaghmaaGreatDoorRr
namespace Go.Proofs.YtgklmcinbaghmaaGreatDoor
open Go Go.RowKit

theorem Wr.put {w0 : World} {r : List Nd} {L : List Nat} {sl : Value} {B X : Nat} {w w' : World} {T : List UInt8} {f : Int → Option Value} (h : Wr w0 r L sl B X w T f) {k s : Nat} (hk : k < r.length) (hf : f k = none)
    (hm : MemoAt w' (X + 3) (cnt r.length f + 1) (putF f k (.int .i64 (s : Int)))) (hg : w.grownBy w' (some (X + 3))) (hs : s + L.getD k 0 ≤ T.length) (hd : (T.drop s).take (L.getD k 0) = (dens r).getD k []) :
    Wr w0 r L sl B X w' T (putF f k (.int .i64 (s : Int))) := by
  have blk : ∀ i, i < w.heap.size → i ≠ X + 3 → w'.heap[i]? = w.heap[i]? := fun i hi hne => hg.block i hi (by simpa using hne)
  have hs6 := h.size
  obtain ⟨Ao, co, o1, o2⟩ := h.out
  exact {
    below := h.below.trans ((Below.refl X w).grown hg (by omega) (fun k hk => by cases hk; omega))
    rope := (blk _ (by omega) (by omega)).trans h.rope
    len := (blk _ (by omega) (by omega)).trans h.len
    out := ⟨Ao, co, (blk _ (by omega) (by omega)).trans o1, by
      refine ⟨o2.1, ?_⟩
      rcases o2.2 with h1 | ⟨g, cap, cur, hv, hg2, hh, rest⟩
      · exact .inl h1
      · exact .inr ⟨g, cap, cur, hv, hg2, by rw [blk g (Array.getElem?_eq_some_iff.1 hh).1 (by omega)]; exact hh, rest⟩⟩
    starts := (blk _ (by omega) (by omega)).trans h.starts
    self := (blk _ (by omega) (by omega)).trans h.self
    memo := by rw [cnt_put f k _ hf, if_pos hk]; exact hm
    known := by
      intro j v hv
      unfold putF at hv
      by_cases hj : j = (k : Int)
      · rw [if_pos hj] at hv
        cases hv
        exact ⟨k, s, hj, hk, rfl, hs, hd⟩
      · rw [if_neg hj] at hv
        exact h.known j v hv
    size := Nat.le_trans hs6 ((Below.refl 0 w).grown hg (by omega) (fun _ _ => by omega)).size }

theorem copies_snoc (n : Nat) (l : List UInt8) : copies (n + 1) l = copies n l ++ l := by
  simp [copies, List.replicate_succ']
theorem KeepsX.at_ {X : Nat} {w w' : World} (h : KeepsX X w w') {g : Nat} {cs : Array Value} (hb : Blk w g 68 cs) (hg : g ≠ X + 2) : Blk w' g 68 cs := h g 68 cs (by decide) hg hb

/-- The end of a node that was not known. -/
theorem write_end {w0 : World} {r : List Nd} {L : List Nat} {sl : Value} {B X : Nat} {w w2 w3 : World} {T : List UInt8} {f f2 : Int → Option Value} {k : Nat} (hl : lens r = some L) (hk : k < r.length) (hf : f k = none)
    (h2 : Wr w0 r L sl B X w2 (T ++ (dens r).getD k []) f2) (hf2 : ∀ j : Nat, k ≤ j → f2 j = f j) (hkx : KeepsX X w w2)
    (hm : MemoAt w3 (X + 3) (cnt r.length f2 + 1) (putF f2 k (.int .i64 (T.length : Int)))) (hg : w2.grownBy w3 (some (X + 3))) (e : Ending) (he : e = .returned (.tuple #[])) :
    WrPost w0 r L sl B X T f k w e w3 := by
  have hlen := dens_lens hl k hk
  refine ⟨he, _, h2.put hk (by rw [hf2 k (Nat.le_refl _)]; exact hf) hm hg (by rw [List.length_append, hlen]; omega) (by rw [List.drop_left, List.take_of_length_le (by omega)]), ?_, hkx.trans (KeepsX.grown h2.memo hg)⟩
  intro j hj
  unfold putF
  rw [if_neg (by omega), hf2 j (by omega)]

set_option maxHeartbeats 8000000 in
set_option maxRecDepth 100000 in
theorem write_any (w0 : World) (r : List Nd) (L : List Nat) (A : Option Addr) (cap B X : Nat) (hX : X = w0.heap.size) (hl : lens r = some L) (sl0 : Value) (henv : EnvI w0 B sl0 lenM L.length (memoL L)) (hr : RopeAt w0 A r) :
    ∀ (k : Nat), k < r.length → ∀ (w : World) (T : List UInt8) (f : Int → Option Value), Wr w0 r L (.slice A r.length cap) B X w T f → T.length + L.getD k 0 ≤ 100000 →
    Calls Tryz.prog 61 #[.int .i64 (k : Int), .pointer (some ⟨X + 4, 0, none⟩), .pointer (some ⟨X + 2, 0, none⟩), .pointer (some ⟨X + 1, 0, none⟩), .pointer (some ⟨X, 0, none⟩), .pointer (some ⟨X + 5, 0, none⟩)] w (WrPost w0 r L (.slice A r.length cap) B X T f k w) := by
  intro k
  induction k using Nat.strongRecOn with
  | ind k ih =>
    intro hk w T f h hT
    cases hf : f (k : Int) with
    | some v => exact write_known w0 r L A cap B X hX hl sl0 henv k hk w T f h hT v hf
    | none =>
      obtain ⟨k1, k2, k3⟩ := lens_ok hl
      have hlook := h.memo.look_none Tryz.underlying102 (zero3 w) k (wf_small (by omega)) hf
      obtain ⟨Ao, co, o1, o2⟩ := h.out
      have hns := node_is hl k hk
      obtain ⟨a, rfl, hx, hxs⟩ := hr k hk
      have hbX : Below w0.heap.size w0 w := by rw [← hX]; exact h.below
      have hx1 := hx.on hbX (lt_of_cell hx.1)
      have hsz := h.size
      have c4 := h.starts.cell 0
      have c2 := o1.cell 0
      have c0 := h.rope.cell 0
      have hTl : T.length ≤ 100000 := by omega
      have hTm : (T.length : Int) ≤ 100000 := by omega
      have IH := Lib.hid ih
      have H := Lib.hid h
      have HF := Lib.hid hf
      have HL := Lib.hid hl
      have HK1 := Lib.hid k1
      have HOK := Lib.hid k2
      clear ih h hf hx hbX henv hr hX
      generalize r[k] = x at *
      obtain ⟨s, l, q, t⟩ := x
      obtain ⟨f0, f1, f2, f3⟩ := hx1
      simp only at f0 f1 f2 f3 hxs
      have hB0 : Below w.heap.size w (w.alloc (.cells #[.string s, .int .i64 l, .int .i64 q, .int .i64 t] 68)) := (Below.refl _ _).alloc (Nat.le_refl _) _
      have hblk : Blk (w.alloc (.cells #[.string s, .int .i64 l, .int .i64 q, .int .i64 t] 68)) w.heap.size 68 #[.string s, .int .i64 l, .int .i64 q, .int .i64 t] := heap_alloc_new w _
      have hK := kindOf_any ⟨s, l, q, t⟩ (w.alloc (.cells #[.string s, .int .i64 l, .int .i64 q, .int .i64 t] 68))
      have hs1 : (w.alloc (.cells #[.string s, .int .i64 l, .int .i64 q, .int .i64 t] 68)).heap.size = w.heap.size + 1 := by simp
      have HB0 := Lib.hid hB0
      have HBLK := Lib.hid hblk
      have key : ∀ w1, Below (w.alloc (.cells #[.string s, .int .i64 l, .int .i64 q, .int .i64 t] 68)).heap.size (w.alloc (.cells #[.string s, .int .i64 l, .int .i64 q, .int .i64 t] 68)) w1 →
          Wr w0 r L (.slice (some a) r.length cap) B X w1 T f ∧ Blk w1 w.heap.size 68 #[.string s, .int .i64 l, .int .i64 q, .int .i64 t] ∧ KeepsX X w w1 := by
        intro w1 hb
        have hbb := HB0.out.trans (hb.mono HB0.out.size)
        exact ⟨H.out.on hbb, HBLK.out.below hb (by omega), KeepsX.of_keeps (Keeps.of_below hbb)⟩
      have KEY := Lib.hid key
      clear hB0 hblk key o1 o2 hl k1 k2
      rcases hns with ⟨hw, hlf, h1, h2, h3, hd⟩ | ⟨hw, b, c, hb, hc, h1, h2, h3, hd, hn⟩ | ⟨hw, b, n, hb, hn0, h1, h2, h3, hd, hn⟩
      · rw [kindI_leaf hw] at hK
        have hs100 := leafB_size hlf
        simp only at hs100
        have HD := Lib.hid hd
        clear hw hlf h1 h2 h3 hd hT hlook
        have hlook := H.out.memo.look_none Tryz.underlying102 (zero3 w) k (wf_small (by omega)) HF.out
        go_enter Tryz.func61, Tryz.ntmps61
        go_wp2_with fail
        refine hK.mono ?_; rintro e w1 ⟨rfl, hb⟩
        obtain ⟨hwr1, hbk1, hkx1⟩ := KEY.out w1 hb
        obtain ⟨Ao1, co1, p1, p2⟩ := hwr1.out
        have d2 := p1.cell 0
        have z2 := p1.frozen 0
        have d0 := hbk1.cell 0
        have d4 := hwr1.starts.cell 0
        have hsz1 := hwr1.size
        have HW1 := Lib.hid hwr1
        have HP1 := Lib.hid p1
        have HP2 := Lib.hid p2
        have HKX1 := Lib.hid hkx1
        clear hlook hK hb hwr1 hbk1 hkx1 p1 p2 c4 c2 c0 f0 f1 f2 f3
        go_wp2_with (first | (at_builtin; refine append_str w1 rfl (.tmp 45) (.tmp 47) rfl (X + 6) _ T.length T s rfl HP2.out rfl (by omega) (by omega) ?_; intro A' cap' w2 hown2 hb2 hk2; have e2 := (HP1.out.below hb2 (by omega)).cell 0; have ez := (HP1.out.below hb2 (by omega)).frozen 0; have e4 := (HW1.out.starts.below hb2 (by omega)).cell 0; have HWS : Hid (Wr w0 r L (.slice (some a) r.length cap) B X (w2.setCell ⟨X + 2, 0, none⟩ (.slice A' (T.length + s.size) cap')) (T ++ s.data.toList) f) := Lib.hid (HW1.out.stored (U := s.data.toList) (Ao := A') (co := cap') (w2 := w2) hown2 hb2); have HK2 := Lib.hid ((HKX1.out.trans (KeepsX.of_keeps hk2)).trans (KeepsX.set w2 (.slice A' (T.length + s.size) cap'))); clear hown2 hb2 hk2) | (at_mapUpdate; refine wpList_mapUpdate_memo _ rfl _ _ _ 102 rfl 3 Tryz.underlying102 (X + 3) _ f rfl HWS.out.memo (by have := cnt_le r.length f; unfold maxLen; omega) k rfl (wf_small (by omega)) (.int .i64 (T.length : Int)) rfl ?_; intro w3 hm3 hg3))
        go_end0
        exact write_end HL.out hk HF.out (by rw [HD.out]; exact HWS.out) (fun _ _ => rfl) HK2.out hm3 hg3 _ rfl
      · rw [kindI_join hw h3] at hK
        simp only at h1 h2 h3
        subst h1 h2 h3
        obtain rfl := emp_ba hw
        have hbr : b < r.length := by omega
        have hcr : c < r.length := by omega
        have hlb := dens_lens HL.out b hbr
        have HD := Lib.hid hd
        have HLB := Lib.hid hlb
        have hTb : T.length + L.getD b 0 ≤ 100000 := by omega
        have hTc : (T ++ (dens r).getD b []).length + L.getD c 0 ≤ 100000 := by rw [List.length_append, hlb]; omega
        have HTc := Lib.hid hTc
        clear hw hd hlb hTc hlook hn
        have hlook := H.out.memo.look_none Tryz.underlying102 (zero3 w) k (wf_small (by omega)) HF.out
        go_enter Tryz.func61, Tryz.ntmps61
        go_wp2_with fail
        refine hK.mono ?_; rintro e w1 ⟨rfl, hbb⟩
        obtain ⟨hwr1, hbk1, hkx1⟩ := KEY.out w1 hbb
        have d1 := hbk1.cell 1
        have d5 := hwr1.self.cell 0
        have HW1 := Lib.hid hwr1
        have HBK1 := Lib.hid hbk1
        have HKX1 := Lib.hid hkx1
        clear hlook hK hbb hwr1 hbk1 hkx1 c4 c2 c0 f0 f1 f2 f3
        go_wp2_with fail
        clear d1 d5
        refine (IH.out b hb hbr w1 T f HW1.out hTb).mono ?_
        rintro e w2 ⟨rfl, f2, hwr2, hf2, hkx2⟩
        have hbk2 := hkx2.at_ HBK1.out (by omega)
        have d2 := hbk2.cell 2
        have d5 := hwr2.self.cell 0
        have HW2 := Lib.hid hwr2
        have HBK2 := Lib.hid hbk2
        have HKX2 := Lib.hid (HKX1.out.trans hkx2)
        have HF2 := Lib.hid hf2
        clear hwr2 hbk2 hkx2 hf2
        go_wp2_with fail
        clear d2 d5
        refine (IH.out c hc hcr w2 (T ++ (dens r).getD b []) f2 HW2.out HTc.out).mono ?_
        rintro e w3 ⟨rfl, f3, hwr3, hf3, hkx3⟩
        have d4 := hwr3.starts.cell 0
        have HW3 := Lib.hid hwr3
        have HKX3 := Lib.hid (HKX2.out.trans hkx3)
        have HF3 := Lib.hid hf3
        clear hwr3 hkx3 hf3
        go_wp2_with (at_mapUpdate; refine wpList_mapUpdate_memo _ rfl _ _ _ 102 rfl 3 Tryz.underlying102 (X + 3) _ f3 rfl HW3.out.memo (by have := cnt_le r.length f3; unfold maxLen; omega) k rfl (wf_small (by omega)) (.int .i64 (T.length : Int)) rfl ?_; intro w4 hm4 hg4)
        go_end0
        exact write_end HL.out hk HF.out (by rw [HD.out, ← List.append_assoc]; exact HW3.out) (fun j hj => (HF3.out j (by omega)).trans (HF2.out j (by omega))) HKX3.out hm4 hg4 _ rfl
      · rw [kindI_pow hw (by simp only at h3 ⊢; omega)] at hK
        simp only at h1 h2 h3
        subst h1 h2 h3
        obtain rfl := emp_ba hw
        have hbr : b < r.length := by omega
        have hlb := dens_lens HL.out b hbr
        have hv1 := (okL_get HOK.out (i := b) (by rw [HK1.out]; omega)).1
        have hnL : n * L.getD b 0 ≤ 100000 := by omega
        have hn5 : n ≤ 100000 := Nat.le_trans (Nat.le_mul_of_pos_right n hv1) hnL
        have HD := Lib.hid hd
        have HLB := Lib.hid hlb
        have HT : Hid (T.length + n * L.getD b 0 ≤ 100000) := Lib.hid (by omega)
        clear hw hd hlb hlook hn hT hnL
        have hlook := H.out.memo.look_none Tryz.underlying102 (zero3 w) k (wf_small (by omega)) HF.out
        go_enter Tryz.func61, Tryz.ntmps61
        go_wp2_with fail
        refine hK.mono ?_; rintro e w1 ⟨rfl, hbb⟩
        obtain ⟨hwr1, hbk1, hkx1⟩ := KEY.out w1 hbb
        have d3 := hbk1.cell 3
        have HW1 := Lib.hid hwr1
        have HBK1 := Lib.hid hbk1
        have HKX1 := Lib.hid hkx1
        clear hlook hK hbb hwr1 hbk1 hkx1 c4 c2 c0 f0 f1 f2 f3
        go_wp2
        clear d3
        go_loopw [53] (fun i wr => ∃ (m : Nat) (f2 : Int → Option Value), m ≤ n ∧ i = .int .i64 (m : Int) ∧ Wr w0 r L (.slice (some a) r.length cap) B X wr (T ++ copies m ((dens r).getD b [])) f2 ∧ (∀ j : Nat, k ≤ j → f2 j = f j) ∧ KeepsX X w wr ∧ Blk wr w.heap.size 68 #[.string ⟨#[]⟩, .int .i64 (b : Int), .int .i64 0, .int .i64 (n : Int)])
          (fun i _ => n - (intOf i).toNat)
        case atStart => exact ⟨0, f, Nat.zero_le _, rfl, by simpa [copies] using HW1.out, fun _ _ => rfl, HKX1.out, HBK1.out⟩
        case round =>
          obtain ⟨m, f2, hm, rfl, hwr2, hf2, hkx2, hbk2⟩ := hrel
          by_cases hlt : m < n
          · have d1 := hbk2.cell 1
            have d5 := hwr2.self.cell 0
            have hTm2 : (T ++ copies m ((dens r).getD b [])).length + L.getD b 0 ≤ 100000 := by
              have h1 := HT.out
              rw [List.length_append, copies_len, HLB.out]
              have h2 : (m + 1) * L.getD b 0 ≤ n * L.getD b 0 := Nat.mul_le_mul_right _ hlt
              rw [Nat.succ_mul] at h2
              omega
            have HTM := Lib.hid hTm2
            have HW2 := Lib.hid hwr2
            have HF2 := Lib.hid hf2
            have HKX2 := Lib.hid hkx2
            have HBK2 := Lib.hid hbk2
            clear hwr2 hf2 hkx2 hbk2 hTm2
            go_wp2_with fail
            clear d1 d5
            refine (IH.out b hb hbr wr _ f2 HW2.out HTM.out).mono ?_
            rintro e w3 ⟨rfl, f3, hwr3, hf3, hkx3⟩
            have HW3 := Lib.hid hwr3
            have HKX3 := Lib.hid (HKX2.out.trans hkx3)
            have HBK3 := Lib.hid (hkx3.at_ HBK2.out (by omega))
            have HF3 := Lib.hid hf3
            clear hwr3 hkx3 hf3
            go_wp2
            go_roundw
            case rel => exact ⟨m + 1, f3, by omega, by go_num, by rw [copies_snoc, ← List.append_assoc]; exact HW3.out, fun j hj => (HF3.out j (by omega)).trans (HF2.out j hj), HKX3.out, HBK3.out⟩
            case measure => simp [intOf]; omega
          · obtain rfl : m = n := by omega
            have d4 := hwr2.starts.cell 0
            have HW2 := Lib.hid hwr2
            have HF2 := Lib.hid hf2
            have HKX2 := Lib.hid hkx2
            clear hwr2 hf2 hkx2 hbk2
            go_wp2_with (at_mapUpdate; refine wpList_mapUpdate_memo _ rfl _ _ _ 102 rfl 3 Tryz.underlying102 (X + 3) _ f2 rfl HW2.out.memo (by have := cnt_le r.length f2; unfold maxLen; omega) k rfl (wf_small (by omega)) (.int .i64 (T.length : Int)) rfl ?_; intro w4 hm4 hg4)
            go_end0
            exact write_end HL.out hk HF.out (by rw [HD.out]; exact HW2.out) HF2.out HKX2.out hm4 hg4 _ rfl
end Go.Proofs.YtgklmcinbaghmaaGreatDoor
