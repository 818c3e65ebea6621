/-
  Our own text, in the proofs of the laws of package word (cayleylaw01). Proved here: WordUnique returns true at every word and every row of edits. Conditions: the row of edits lies in old memory as its cells say; none other.
-/
import Derived.Test.YtflieikbhgneoaaDoorNb
namespace Go.Proofs.YtflieikbhgneoaaDoor
open Go Go.RowKit

/-- A row of edits, nil or not. -/
def EdV (w : World) (v : Value) (l : List Ed) : Prop := (v = .slice none 0 0 ∧ l = []) ∨ ∃ a cap, v = .slice (some a) l.length cap ∧ EdAt w a l
theorem EdAt.on {w w' : World} {a : Addr} {l : List Ed} (h : EdAt w a l) (hb : Below w.heap.size w w') : EdAt w' a l := fun i hi =>
  have e := h i hi
  ⟨(hb.cell (lt_of_cell e.1)).trans e.1, (hb.cell (lt_of_cell e.2.1)).trans e.2.1, (hb.cell (lt_of_cell e.2.2)).trans e.2.2⟩

theorem edited_nil (s : ByteArray) (w : World) : Calls Tryd.prog 13 #[.string s, .slice none 0 0] w fun e w' => e = .returned (.string s) ∧ Below w.heap.size w w' := by
  go_enter Tryd.func13, Tryd.ntmps13
  go_wp2
  go_loopw [0, 5, 6] (fun p i _ wr => p = .string s ∧ i = .int .i64 0 ∧ wr = w) (fun _ _ _ _ => 0)
  case atStart => exact ⟨rfl, rfl, rfl⟩
  case round =>
    obtain ⟨rfl, rfl, hw⟩ := hrel
    go_wp2
    go_ret
    exact ⟨rfl, Below.refl _ _⟩

theorem s_edited (w0 w : World) (h : St w0 w) (l : List Ed) (v : Value) (s t : ByteArray) (hl : l.length ≤ 200) (hs : s.size ≤ 1000) (hw : s.data.toList.all (letterB 8) = true) (hE : EdV w v l) (ht : t.data.toList = edited s.data.toList l) :
    Calls Tryd.prog 13 #[.string s, v] w fun e w' => e = .returned (.string t) ∧ St w0 w' := by
  rcases hE with ⟨rfl, rfl⟩ | ⟨a, cap, rfl, hE⟩
  · refine (edited_nil s w).mono ?_
    rintro e w' ⟨rfl, hb⟩
    exact ⟨by rw [ba_ext (a := s) (b := t) (by rw [ht]; rfl)], h.on hb⟩
  · refine (edited_any a cap l s w hl hs hw hE).mono ?_
    rintro e w' ⟨rfl, hb⟩
    refine ⟨?_, h.on hb⟩
    rw [← ht]

theorem EdV.on {w w' : World} {v : Value} {l : List Ed} (h : EdV w v l) (hb : Below w.heap.size w w') : EdV w' v l := by
  rcases h with h | ⟨a, cap, h1, h2⟩
  · exact .inl h
  · exact .inr ⟨a, cap, h1, h2.on hb⟩

theorem EdV.len {w : World} {v : Value} {l : List Ed} (h : EdV w v l) : ∃ A cap, v = .slice A l.length cap := by
  rcases h with ⟨rfl, rfl⟩ | ⟨a, cap, rfl, _⟩
  · exact ⟨none, 0, rfl⟩
  · exact ⟨some a, cap, rfl⟩

theorem red_no (l : List UInt8) (hl : l.all (letterB 8) = true) (R : ByteArray) (hR : R.data.toList = red l) (k : Nat) (h : k + 1 < R.size) : R[k] ≠ otherc R[k + 1] := by
  have hlen : (red l).length = R.size := by rw [← hR]; simp
  have hnb := red_nb l k (by omega)
  have ha : (red l).all (letterB 8) = true := by
    have := run_mem (p := letterB 8) l [] rfl hl
    unfold red; rw [List.all_reverse]; exact this
  have e1 : R[k] = (red l)[k]'(by omega) := by
    have := getD_ba' R k (by omega)
    rw [hR] at this
    rw [← this]; simp [List.getD, show k < (red l).length by omega]
  have e2 : R[k + 1] = (red l)[k + 1]'(by omega) := by
    have := getD_ba' R (k + 1) h
    rw [hR] at this
    rw [← this]; simp [List.getD, show k + 1 < (red l).length by omega]
  have hlt := List.all_eq_true.1 ha _ (List.getElem_mem (show k + 1 < (red l).length by omega))
  rw [← e2] at hlt
  unfold letterB at hlt
  simp only [Bool.and_eq_true, decide_eq_true_eq] at hlt
  unfold otherc
  rw [if_pos hlt.1, e1, e2]
  exact hnb

set_option maxHeartbeats 4000000 in
set_option maxRecDepth 100000 in
theorem unique_any (s : ByteArray) (v : Value) (l : List Ed) (w : World) (ht : Tabs w) (hs : s.size ≤ maxLen) (hE : EdV w v l) (hll : l.length ≤ maxLen) :
    Calls Tryd.prog 3 #[.string s, v] w fun e w' => e = .returned (.bool true) ∧ Below w.heap.size w w' := by
  have h0 : St w w := ⟨ht, Below.refl _ w⟩
  obtain ⟨A, cap, rfl⟩ := hE.len
  have HE := Lib.hid hE
  have HS : Hid (∀ l ∈ [s.data.toList], l.length ≤ maxLen) := Lib.hid (by intro l hl; simp at hl; subst hl; simpa using hs)
  have hsd : ByteArray.mk s.data.toList.toArray = s := ba_ext rfl
  have hw1 := fun w1 h1 => words_at w w1 h1 [s.data.toList] _ rfl 1 rfl (by simp) HS.out
  have hstr : strs [s.data.toList] = [.string s] := by simp [strs]
  rw [hstr] at hw1
  have HW1 := Lib.hid hw1
  unfold maxLen at hll
  clear ht hs hE hw1 hsd hstr
  by_cases hok : okW s.data.toList = true
  · by_cases hn : 200 < l.length
    · have hd : decide (200 < l.length) = true := by simpa using hn
      have HOK : Hid ([s.data.toList].all okW = true) := Lib.hid (by simp [hok])
      clear hok
      go_enter Tryd.func3, Tryd.ntmps3
      go_wp2_with fail
      refine (s_sane w _ h0).mono ?_; rintro e w1 ⟨rfl, h1⟩; clear h0
      go_wp2_with fail
      refine (HW1.out w1 h1).mono ?_; rintro e w2 ⟨rfl, h2⟩; clear h1
      rw [HOK.out]
      go_wp2
      go_ret
      exact ⟨rfl, h2.below⟩
    · have hn2 : l.length ≤ 200 := by omega
      have hd : decide (200 < l.length) = false := by simpa using hn2
      have HOK : Hid ([s.data.toList].all okW = true) := Lib.hid (by simp [hok])
      have iu := okW_isW hok
      have hls : s.size ≤ 1000 := by have := okW_len hok; simpa using this
      obtain ⟨R, hR⟩ : ∃ R : ByteArray, R.data.toList = red s.data.toList := ⟨⟨(red s.data.toList).toArray⟩, rfl⟩
      obtain ⟨T, hT⟩ : ∃ T : ByteArray, T.data.toList = edited s.data.toList l := ⟨⟨(edited s.data.toList l).toArray⟩, rfl⟩
      have hRs : R.data.toList.length = R.size := by simp
      have hss : s.data.toList.length = s.size := by simp
      have hTs : T.data.toList.length = T.size := by simp
      have hle : R.size ≤ s.size := by rw [← hRs, hR, ← hss]; exact red_len _
      have hpar : (s.size - R.size) % 2 = 0 := by rw [← hRs, hR, ← hss]; exact red_par _
      have hTl : T.size ≤ 1400 := by
        rw [← hTs, hT]; have := edited_len s.data.toList l; omega
      have iT : isW T.data.toList = true := isW_of (by rw [hTs]; omega) (by rw [hT]; exact edited_all (isW_all iu) l)
      have iR : isW R.data.toList = true := by rw [hR]; exact isW_red iu
      have rT : red T.data.toList = R.data.toList := by rw [hT, hR]; exact edited_red (isW_all iu) l
      have rR : red R.data.toList = R.data.toList := by rw [hR]; exact red_red _
      have hNB := red_no s.data.toList (isW_all iu) R hR
      have hC1 := fun w1 h1 => s_red w w1 h1 s.data.toList R.data.toList iu hR.symm
      have hC2 := fun w1 h1 => s_red w w1 h1 T.data.toList R.data.toList iT rT
      have hC3 := fun w1 h1 => s_red w w1 h1 R.data.toList R.data.toList iR rR
      have es : ByteArray.mk s.data.toList.toArray = s := ba_ext rfl
      have eT : ByteArray.mk T.data.toList.toArray = T := ba_ext rfl
      have eR : ByteArray.mk R.data.toList.toArray = R := ba_ext rfl
      rw [es, eR] at hC1
      rw [eT, eR] at hC2
      rw [eR] at hC3
      have hC4 := fun w1 (h1 : St w w1) => s_edited w w1 h1 l _ s T hn2 hls (isW_all iu) (HE.out.on h1.below) hT
      have C1 := Lib.hid hC1
      have C2 := Lib.hid hC2
      have C3 := Lib.hid hC3
      have C4 := Lib.hid hC4
      have NB := Lib.hid hNB
      have htm : ((s.size : Int) - (R.size : Int)).tmod 2 = 0 := by
        have : (s.size : Int) - (R.size : Int) = ((s.size - R.size : Nat) : Int) := by omega
        rw [this, show (2 : Int) = ((2 : Nat) : Int) from rfl, ← Int.ofNat_tmod, hpar]
        rfl
      have hd2 : decide (R.size ≤ s.size) = true := by simpa using hle
      clear hok iu iT iR rT rR hNB hC1 hC2 hC3 hC4 es eT eR hR hT hpar hRs hss hTs
      go_enter Tryd.func3, Tryd.ntmps3
      go_wp2_with fail
      refine (s_sane w _ h0).mono ?_; rintro e w1 ⟨rfl, h1⟩; clear h0
      go_wp2_with fail
      refine (HW1.out w1 h1).mono ?_; rintro e w2 ⟨rfl, h2⟩; clear h1
      rw [HOK.out]
      go_wp2_with fail
      refine (C1.out _ h2).mono ?_; rintro e w3 ⟨rfl, h3⟩; clear h2
      go_wp2_with fail
      have H3 := Lib.hid h3
      clear h3
      go_loopw [6] (fun i wr => ∃ k q : Nat, i = .int .i64 (k : Int) ∧ k ≤ R.size ∧ wr = w3.drewN q) (fun i _ => R.size - (intOf i).toNat)
      case atStart => exact ⟨0, 0, rfl, Nat.zero_le _, rfl⟩
      case round =>
        obtain ⟨k, q, rfl, hk, hw⟩ := hrel
        have HW := Lib.hid hw
        clear hw
        have hwr : IntKind.i64.wrap ((k : Int) + 1) = (k : Int) + 1 := IntWalk.i64_in _ (by omega)
        by_cases hlt : k + 1 < R.size
        · obtain ⟨k1, he1⟩ : ∃ k1, k1 = k + 1 := ⟨_, rfl⟩
          have hk1 : k1 < R.size := by omega
          have hk0 : k < R.size := by omega
          have hne : R[k] ≠ otherc R[k1] := by subst he1; exact NB.out k hlt
          have hq := u8_eqs R[k] (otherc R[k1])
          have hq2 : ((R[k].toNat : Int) == ((otherc R[k1]).toNat : Int)) = false := by rw [hq]; simpa using hne
          have hwr2 : IntKind.i64.wrap ((k : Int) + 1) = (k1 : Int) := by rw [hwr]; omega
          have hO := fun (w : World) (n : Nat) => Calls.quiet_of_same ((rOther_any R[k1] (w.drewN n)).mono fun _ _ h => ⟨h.1, h.2.symm⟩)
          have HO := Lib.hid hO
          have hd3 : decide (k1 < R.size) = true := by simpa using hk1
          have HK1 := Lib.hid he1
          clear hne hq hO hwr he1
          go_wp2
          go_quiet ((go_at_call 12; exact HO.out _ _))
          go_wp2
          go_roundw
          case rel => exact ⟨k1, q + nq, rfl, by omega, by rw [HW.out, World.drewN_drewN]⟩
          case measure =>
            have := HK1.out
            clear hwr2
            simp [intOf]; omega
        · have hd3 : decide (k + 1 < R.size) = false := by simpa using hlt
          have h4 : St w wr := by rw [HW.out]; exact H3.out.drewN q
          clear HW
          go_wp2_with fail
          refine (C4.out _ h4).mono ?_; rintro e w5 ⟨rfl, h5⟩; clear h4
          go_wp2_with fail
          refine (C2.out _ h5).mono ?_; rintro e w6 ⟨rfl, h6⟩; clear h5
          go_wp2_with fail
          refine (C3.out _ h6).mono ?_; rintro e w7 ⟨rfl, h7⟩; clear h6
          go_wp2
          go_ret
          exact ⟨rfl, h7.below⟩
  · have HOK : Hid ([s.data.toList].all okW = false) := Lib.hid (by simp [hok])
    clear hok
    go_enter Tryd.func3, Tryd.ntmps3
    go_wp2_with fail
    refine (s_sane w _ h0).mono ?_; rintro e w1 ⟨rfl, h1⟩; clear h0
    go_wp2_with fail
    refine (HW1.out w1 h1).mono ?_; rintro e w2 ⟨rfl, h2⟩; clear h1
    rw [HOK.out]
    go_wp2
    go_ret
    exact ⟨rfl, h2.below⟩
end Go.Proofs.YtflieikbhgneoaaDoor
