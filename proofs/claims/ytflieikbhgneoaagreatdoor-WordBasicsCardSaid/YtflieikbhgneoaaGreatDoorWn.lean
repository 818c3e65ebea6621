/-
  Our own text, in the proofs of the laws of package word (cayleylaw01). Proved here: Text returns the text of a word. Conditions: the arguments read as the row says and the listed tables lie as the program lays them; none other.
-/
import Derived.Test.YtflieikbhgneoaaGreatDoorWm
import Derived.Lib.ItoaLen
import Derived.Lib.ItoaMem
namespace Go.Proofs.YtflieikbhgneoaaGreatDoor
open Go Go.RowKit

/-- How long the run of the first letter is. -/
def runN : List UInt8 → Nat
  | [] => 0
  | c :: t => ((c :: t).takeWhile (· == c)).length
/-- The text of a word, run by run. -/
def textF : Nat → Bool → List UInt8 → List UInt8
  | 0, _, _ => []
  | _ + 1, _, [] => []
  | f + 1, first, c :: t =>
    (if first then [] else [32]) ++ [c] ++ (if 1 < runN (c :: t) then 94 :: Lib.itoa (runN (c :: t)) else []) ++ textF f false ((c :: t).drop (runN (c :: t)))
def textW (l : List UInt8) : List UInt8 := if l = [] then [49] else textF l.length true l

theorem runN_pos (c : UInt8) (t : List UInt8) : 1 ≤ runN (c :: t) := by simp [runN, List.takeWhile_cons]
theorem takeWhile_len_le (p : UInt8 → Bool) : ∀ l : List UInt8, (l.takeWhile p).length ≤ l.length
  | [] => by simp
  | c :: t => by have := takeWhile_len_le p t; rw [List.takeWhile_cons]; split <;> simp; omega
theorem runN_le (l : List UInt8) : runN l ≤ l.length := by
  cases l with
  | nil => simp [runN]
  | cons c t => exact takeWhile_len_le _ _
theorem takeWhile_get (p : UInt8 → Bool) : ∀ (l : List UInt8) (i : Nat) (h : i < l.length), i < (l.takeWhile p).length → p l[i] = true
  | [], i, h, h2 => by simp at h
  | c :: t, i, h, h2 => by
    rw [List.takeWhile_cons] at h2
    split at h2
    · cases i with
      | zero => assumption
      | succ i => exact takeWhile_get p t i (by simpa using h) (by simpa using h2)
    · simp at h2
theorem takeWhile_stop (p : UInt8 → Bool) : ∀ (l : List UInt8) (h : (l.takeWhile p).length < l.length), p (l[(l.takeWhile p).length]'h) = false
  | [], h => by simp at h
  | c :: t, h => by
    by_cases hc : p c = true
    · have e : (List.takeWhile p (c :: t)).length = (List.takeWhile p t).length + 1 := by simp [List.takeWhile_cons, hc]
      have := takeWhile_stop p t (by rw [e] at h; simpa using h)
      simp only [e, List.getElem_cons_succ]
      exact this
    · have e : (List.takeWhile p (c :: t)).length = 0 := by simp [List.takeWhile_cons, hc]
      simp only [e, List.getElem_cons_zero]
      simpa using hc

theorem run_in (s : ByteArray) (a e : Nat) (ha : a < s.size) (he : a ≤ e) (h : e < a + runN (s.data.toList.drop a)) : ∃ h1 : e < s.size, s[e] = s[a] := by
  have hl : a < s.data.toList.length := by simpa using ha
  have hd := List.drop_eq_getElem_cons hl
  have hrl := runN_le (s.data.toList.drop a)
  have hz : (s.data.toList.drop a).length = s.size - a := by simp
  refine ⟨by omega, ?_⟩
  have hlt : e - a < (s.data.toList.drop a).length := by omega
  have hr : runN (s.data.toList.drop a) = ((s.data.toList.drop a).takeWhile (· == s[a])).length := by rw [hd]; rfl
  have := takeWhile_get (· == s[a]) _ (e - a) hlt (by rw [← hr]; omega)
  simp only [beq_iff_eq, List.getElem_drop] at this
  have e2 : a + (e - a) = e := by omega
  simp only [e2] at this
  exact this
theorem run_end (s : ByteArray) (a : Nat) (ha : a < s.size) (h1 : a + runN (s.data.toList.drop a) < s.size) : s[a + runN (s.data.toList.drop a)] ≠ s[a] := by
  have hl : a < s.data.toList.length := by simpa using ha
  have hd := List.drop_eq_getElem_cons hl
  have hz : (s.data.toList.drop a).length = s.size - a := by simp
  have hr : runN (s.data.toList.drop a) = ((s.data.toList.drop a).takeWhile (· == s[a])).length := by rw [hd]; rfl
  have := takeWhile_stop (· == s[a]) (s.data.toList.drop a) (by rw [← hr]; omega)
  simp only [List.getElem_drop, ← hr] at this
  intro hc
  have hc' : s.data.toList[a + runN (s.data.toList.drop a)]'(by simpa using h1) = s[a] := hc
  rw [hc'] at this
  simp at this

theorem text_step (s : ByteArray) (a f : Nat) (b : Bool) (ha : a < s.size) :
    textF (f + 1) b (s.data.toList.drop a) = (if b then [] else [32]) ++ [s[a]] ++ (if 1 < runN (s.data.toList.drop a) then 94 :: Lib.itoa (runN (s.data.toList.drop a)) else []) ++ textF f false (s.data.toList.drop (a + runN (s.data.toList.drop a))) := by
  have hl : a < s.data.toList.length := by simpa using ha
  have hd := List.drop_eq_getElem_cons hl
  rw [← List.drop_drop, hd]
  rfl

theorem itoa_len (n : Nat) (h : n ≤ 1000000) : (Lib.itoa n).length ≤ 20 := by
  rw [Lib.itoa_nonneg, Lib.decDigits_length]; exact Lib.nDigits_le20 n (by omega)

theorem own_slice {w : World} {B e n : Nat} {v : Value} {xs : List Value} (h : w.ownsRow B e 1 v n xs) (hn : 0 < n) : ∃ g cap, v = .slice (some ⟨g, 0, none⟩) n cap := by
  rcases h.2 with ⟨rfl, hx⟩ | ⟨g, cap, cur, rfl, _⟩
  · have h1 := h.1
    first
      | (subst hx; simp at h1; omega)
      | (rw [hx] at h1; simp at h1; omega)
      | omega
  · exact ⟨g, cap, rfl⟩

set_option maxHeartbeats 1000000 in
set_option maxRecDepth 100000 in
theorem Text_yes (s : ByteArray) (w : World) (ht : Tabs w) (hw : isW s.data.toList = true) :
    Calls Tryz.prog 19 #[.string s] w fun e w' => e = .returned (.string ⟨(textW s.data.toList).toArray⟩) ∧ Below w.heap.size w w' := by
  have hlen := isW_len hw
  have hs : s.size ≤ 100000 := by simpa using hlen
  have hI := isWord_any s w ht (by unfold maxLen; omega)
  rw [hw] at hI
  clear hlen hw
  by_cases hem : s.data.toList = []
  · obtain rfl : s = ⟨#[]⟩ := ba_ext (by rw [hem])
    clear hem ht
    go_enter Tryz.func19, Tryz.ntmps19
    go_wp2_with (go_at_call 35; refine hI.mono ?_; rintro e w' ⟨rfl, rfl⟩)
    go_ret
    exact ⟨rfl, Below.refl _ _⟩
  have he : s.toList.isEmpty = false := by rw [ByteArray.toList_eq]; simpa using hem
  have HW : Hid (textW s.data.toList = textF s.data.toList.length true (s.data.toList.drop 0)) := Lib.hid (by simp [textW, hem])
  have h3 := ht.three
  have HT := Lib.hid ht
  clear hem ht
  go_enter Tryz.func19, Tryz.ntmps19
  go_wp2_with (go_at_call 35; refine hI.mono ?_; rintro e w' ⟨rfl, rfl⟩)
  clear hI
  go_loopw [3, 4, 5] (fun out i j wr => ∃ (a m cap f : Nat) (A : Option Addr) (T : List UInt8), a ≤ s.size ∧ i = .int .i64 a ∧ j = .int .i64 a ∧ out = .slice A m cap ∧ m ≤ 30 * a ∧
      wr.ownsRow w.heap.size 5 1 (.slice A m cap) m (bs T) ∧ s.size ≤ f + a ∧ T ++ textF f (a == 0) (s.data.toList.drop a) = textW s.data.toList ∧ Below w.heap.size w wr)
    (fun _ i _ _ => s.size - (intOf i).toNat)
  case atStart => exact ⟨0, 0, 0, s.size, none, [], Nat.zero_le _, rfl, rfl, rfl, by simp, World.ownsRow_nil _ _ _ _, by omega, by rw [HW.out]; rfl, Below.refl _ _⟩
  case round =>
    obtain ⟨a, m, cap, f, A, T, ha, rfl, rfl, rfl, hTl, hown, hf, htx, hb⟩ := hrel
    have HB := Lib.hid hb
    have HO := Lib.hid hown
    clear hb hown
    by_cases hlt : a < s.size
    · obtain ⟨g, rfl⟩ : ∃ g, f = g + 1 := ⟨f - 1, by omega⟩
      rw [text_step s a g _ hlt] at htx
      have hr1 : 1 ≤ runN (s.data.toList.drop a) := by
        rw [List.drop_eq_getElem_cons (show a < s.data.toList.length by simpa using hlt)]; exact runN_pos _ _
      have hr2 := runN_le (s.data.toList.drop a)
      have hin := run_in s a
      have hen := run_end s a hlt
      rw [List.length_drop, show s.data.toList.length = s.size by simp] at hr2
      generalize hrr : runN (s.data.toList.drop a) = r at *
      have HX := Lib.hid htx
      have HIN := Lib.hid hin
      have HEN := Lib.hid hen
      clear hrr htx hin hen
      obtain ⟨wo, hwo⟩ : ∃ wo : World, wo = wr := ⟨_, rfl⟩
      rw [← hwo]
      have HWO := Lib.hid hwo
      clear hwo
      go_wp2
      go_loopw [5] (fun j w2 => ∃ (e n : Nat), a ≤ e ∧ e ≤ a + r ∧ j = .int .i64 e ∧ w2 = wo.drewN n)
        (fun j _ => s.size - (intOf j).toNat)
      case atStart => exact ⟨a, 0, Nat.le_refl _, by omega, rfl, rfl⟩
      case round =>
        obtain ⟨e, n, he1, he2, rfl, hw2⟩ := hrel
        have HW2 := Lib.hid hw2
        clear hw2
        by_cases hlt2 : e < a + r
        · obtain ⟨hes, heq⟩ := HIN.out e hlt he1 hlt2
          have hd1 : decide (e < s.size) = true := by simpa using hes
          have hd2 : ((s[e].toNat : Int) == (s[a].toNat : Int)) = true := by rw [heq]; simp
          clear heq
          go_wp2
          go_quiet (fail)
          go_wp2
          go_roundw
          case rel => exact ⟨e + 1, n + nq, by omega, by omega, by go_num, by rw [HW2.out, World.drewN_drewN]⟩
          case measure => simp [intOf]; omega
        · obtain rfl : e = a + r := by omega
          have hw3 : ∀ q, Below w.heap.size w (wr.drewN q) := fun q => by rw [HW2.out, HWO.out]; exact (HB.out.drewN n).drewN q
          have ho3 : ∀ q, (wr.drewN q).ownsRow w.heap.size 5 1 (.slice A m cap) m (bs T) := fun q => by rw [HW2.out, HWO.out]; exact HO.out
          have HW3 := Lib.hid hw3
          have HO3 := Lib.hid ho3
          have hrest : s.data.toList.drop (a + r) = s.data.toList.drop (a + r) := rfl
          clear hw3 ho3 hrest
          have hcast : ((a : Int) + (r : Int)) - (a : Int) = (r : Int) := by omega
          obtain ⟨er, her⟩ : ∃ er : Nat, a + r = er := ⟨_, rfl⟩
          have hsub : (er : Int) - (a : Int) = (r : Int) := by omega
          rw [her] at HX HEN
          rw [her]
          have HER := Lib.hid her
          have hle : er ≤ s.size := by omega
          have hage : a < er := by omega
          clear her hcast he1 he2 hlt2
          by_cases hes : er < s.size
          · have hne := HEN.out hes
            have hd1 : decide (er < s.size) = true := by simpa using hes
            have hd2 : ((s[er].toNat : Int) == (s[a].toNat : Int)) = false := by
              rw [beq_eq_false_iff_ne]; intro h; exact hne (UInt8.toNat_inj.1 (by exact_mod_cast h))
            clear hne
            go_wp2
            go_quiet (fail)
            by_cases ha0 : a = 0
            · by_cases hr0 : 1 < r
              · have haI : a ≤ 0 := by omega
                have hdA : decide (0 < a) = false := by simp; omega
                have hdR : decide (1 < r) = true := by simp; omega
                have hab : (a == 0) = true := by simp [ha0]
                rw [hab] at HX
                rw [if_pos hr0] at HX
                have hil := itoa_len r (by omega)
                have HIL := Lib.hid hil
                clear hab hil ha0
                go_wp2_with (first | (at_builtin; refine append_byte (wr.drewN nq) rfl (.tmp 37) (.tmp 41) rfl w.heap.size _ _ _ _ s[a] rfl (HO3.out nq) _ rfl rfl (by omega) (HW3.out nq).size ?_; intro A2 cap2 w2 hown2 hb2; have H2 := Lib.hid hown2; have B2 := Lib.hid ((HW3.out nq).trans hb2); clear hown2 hb2) | (at_builtin; refine append_byte w2 rfl (.tmp 48) (.tmp 49) rfl w.heap.size _ _ _ _ 94 rfl H2.out _ rfl rfl (by omega) B2.out.size ?_; intro A3 cap3 w3 hown3 hb3; have H3 := Lib.hid hown3; have B3 := Lib.hid (B2.out.trans hb3); clear hown3 hb3) | (go_at_call 40; refine (Tryz.strconv_AppendInt_10 w.heap.size _ r (by omega) (by omega) _ _ _ H3.out B3.out.size (by omega) ((HT.out.tab h3).on B3.out)).mono ?_; rintro e w4 ⟨v4, rfl, hown4, hb4, -⟩; obtain ⟨g4, cap4, rfl⟩ := own_slice hown4 (by omega); have H4 := Lib.hid hown4; have B4 := Lib.hid (B3.out.trans hb4); clear hown4 hb4))
                go_roundw
                case rel =>
                  have hil := HIL.out
                  refine ⟨er, m + 1 + 1 + (Lib.itoa r).length, cap4, g, some ⟨g4, 0, none⟩, T ++ [s[a]] ++ [94] ++ Lib.itoa r, hle, rfl, rfl, rfl, by omega, ?_, by omega, ?_, B4.out⟩
                  · rw [bs_append]; exact H4.out
                  · rw [← HX.out, show (er == 0) = false by simp; omega]; simp
                case measure => simp [intOf]; omega
              · have haI : a ≤ 0 := by omega
                have hdA : decide (0 < a) = false := by simp; omega
                have hdR : decide (1 < r) = false := by simp; omega
                have hab : (a == 0) = true := by simp [ha0]
                rw [hab] at HX
                rw [if_neg hr0] at HX
                have hil := itoa_len r (by omega)
                have HIL := Lib.hid hil
                clear hab hil ha0
                go_wp2_with (first | (at_builtin; refine append_byte (wr.drewN nq) rfl (.tmp 37) (.tmp 41) rfl w.heap.size _ _ _ _ s[a] rfl (HO3.out nq) _ rfl rfl (by omega) (HW3.out nq).size ?_; intro A2 cap2 w2 hown2 hb2; have H2 := Lib.hid hown2; have B2 := Lib.hid ((HW3.out nq).trans hb2); clear hown2 hb2))
                go_roundw
                case rel =>
                  have hil := HIL.out
                  refine ⟨er, m + 1, cap2, g, A2, T ++ [s[a]], hle, rfl, rfl, rfl, by omega, ?_, by omega, ?_, B2.out⟩
                  · exact H2.out
                  · rw [← HX.out, show (er == 0) = false by simp; omega]; simp
                case measure => simp [intOf]; omega
            · by_cases hr0 : 1 < r
              · have haI : 0 < a := by omega
                have hdA : decide (0 < a) = true := by simp; omega
                have hdR : decide (1 < r) = true := by simp; omega
                have hab : (a == 0) = false := by simp [ha0]
                rw [hab] at HX
                rw [if_pos hr0] at HX
                have hil := itoa_len r (by omega)
                have HIL := Lib.hid hil
                clear hab hil ha0
                go_wp2_with (first | (at_builtin; refine append_byte (wr.drewN nq) rfl (.tmp 34) (.tmp 35) rfl w.heap.size _ _ _ _ 32 rfl (HO3.out nq) _ rfl rfl (by omega) (HW3.out nq).size ?_; intro A1 cap1 w1 hown1 hb1; have H1 := Lib.hid hown1; have B1 := Lib.hid ((HW3.out nq).trans hb1); clear hown1 hb1) | (at_builtin; refine append_byte w1 rfl (.tmp 37) (.tmp 41) rfl w.heap.size _ _ _ _ s[a] rfl H1.out _ rfl rfl (by omega) B1.out.size ?_; intro A2 cap2 w2 hown2 hb2; have H2 := Lib.hid hown2; have B2 := Lib.hid (B1.out.trans hb2); clear hown2 hb2) | (at_builtin; refine append_byte w2 rfl (.tmp 48) (.tmp 49) rfl w.heap.size _ _ _ _ 94 rfl H2.out _ rfl rfl (by omega) B2.out.size ?_; intro A3 cap3 w3 hown3 hb3; have H3 := Lib.hid hown3; have B3 := Lib.hid (B2.out.trans hb3); clear hown3 hb3) | (go_at_call 40; refine (Tryz.strconv_AppendInt_10 w.heap.size _ r (by omega) (by omega) _ _ _ H3.out B3.out.size (by omega) ((HT.out.tab h3).on B3.out)).mono ?_; rintro e w4 ⟨v4, rfl, hown4, hb4, -⟩; obtain ⟨g4, cap4, rfl⟩ := own_slice hown4 (by omega); have H4 := Lib.hid hown4; have B4 := Lib.hid (B3.out.trans hb4); clear hown4 hb4))
                go_roundw
                case rel =>
                  have hil := HIL.out
                  refine ⟨er, m + 1 + 1 + 1 + (Lib.itoa r).length, cap4, g, some ⟨g4, 0, none⟩, T ++ [32] ++ [s[a]] ++ [94] ++ Lib.itoa r, hle, rfl, rfl, rfl, by omega, ?_, by omega, ?_, B4.out⟩
                  · rw [bs_append]; exact H4.out
                  · rw [← HX.out, show (er == 0) = false by simp; omega]; simp
                case measure => simp [intOf]; omega
              · have haI : 0 < a := by omega
                have hdA : decide (0 < a) = true := by simp; omega
                have hdR : decide (1 < r) = false := by simp; omega
                have hab : (a == 0) = false := by simp [ha0]
                rw [hab] at HX
                rw [if_neg hr0] at HX
                have hil := itoa_len r (by omega)
                have HIL := Lib.hid hil
                clear hab hil ha0
                go_wp2_with (first | (at_builtin; refine append_byte (wr.drewN nq) rfl (.tmp 34) (.tmp 35) rfl w.heap.size _ _ _ _ 32 rfl (HO3.out nq) _ rfl rfl (by omega) (HW3.out nq).size ?_; intro A1 cap1 w1 hown1 hb1; have H1 := Lib.hid hown1; have B1 := Lib.hid ((HW3.out nq).trans hb1); clear hown1 hb1) | (at_builtin; refine append_byte w1 rfl (.tmp 37) (.tmp 41) rfl w.heap.size _ _ _ _ s[a] rfl H1.out _ rfl rfl (by omega) B1.out.size ?_; intro A2 cap2 w2 hown2 hb2; have H2 := Lib.hid hown2; have B2 := Lib.hid (B1.out.trans hb2); clear hown2 hb2))
                go_roundw
                case rel =>
                  have hil := HIL.out
                  refine ⟨er, m + 1 + 1, cap2, g, A2, T ++ [32] ++ [s[a]], hle, rfl, rfl, rfl, by omega, ?_, by omega, ?_, B2.out⟩
                  · exact H2.out
                  · rw [← HX.out, show (er == 0) = false by simp; omega]; simp
                case measure => simp [intOf]; omega
          · have hd1 : decide (er < s.size) = false := by simpa using hes
            go_wp2
            go_quiet (fail)
            by_cases ha0 : a = 0
            · by_cases hr0 : 1 < r
              · have haI : a ≤ 0 := by omega
                have hdA : decide (0 < a) = false := by simp; omega
                have hdR : decide (1 < r) = true := by simp; omega
                have hab : (a == 0) = true := by simp [ha0]
                rw [hab] at HX
                rw [if_pos hr0] at HX
                have hil := itoa_len r (by omega)
                have HIL := Lib.hid hil
                clear hab hil ha0
                go_wp2_with (first | (at_builtin; refine append_byte (wr.drewN nq) rfl (.tmp 37) (.tmp 41) rfl w.heap.size _ _ _ _ s[a] rfl (HO3.out nq) _ rfl rfl (by omega) (HW3.out nq).size ?_; intro A2 cap2 w2 hown2 hb2; have H2 := Lib.hid hown2; have B2 := Lib.hid ((HW3.out nq).trans hb2); clear hown2 hb2) | (at_builtin; refine append_byte w2 rfl (.tmp 48) (.tmp 49) rfl w.heap.size _ _ _ _ 94 rfl H2.out _ rfl rfl (by omega) B2.out.size ?_; intro A3 cap3 w3 hown3 hb3; have H3 := Lib.hid hown3; have B3 := Lib.hid (B2.out.trans hb3); clear hown3 hb3) | (go_at_call 40; refine (Tryz.strconv_AppendInt_10 w.heap.size _ r (by omega) (by omega) _ _ _ H3.out B3.out.size (by omega) ((HT.out.tab h3).on B3.out)).mono ?_; rintro e w4 ⟨v4, rfl, hown4, hb4, -⟩; obtain ⟨g4, cap4, rfl⟩ := own_slice hown4 (by omega); have H4 := Lib.hid hown4; have B4 := Lib.hid (B3.out.trans hb4); clear hown4 hb4))
                go_roundw
                case rel =>
                  have hil := HIL.out
                  refine ⟨er, m + 1 + 1 + (Lib.itoa r).length, cap4, g, some ⟨g4, 0, none⟩, T ++ [s[a]] ++ [94] ++ Lib.itoa r, hle, rfl, rfl, rfl, by omega, ?_, by omega, ?_, B4.out⟩
                  · rw [bs_append]; exact H4.out
                  · rw [← HX.out, show (er == 0) = false by simp; omega]; simp
                case measure => simp [intOf]; omega
              · have haI : a ≤ 0 := by omega
                have hdA : decide (0 < a) = false := by simp; omega
                have hdR : decide (1 < r) = false := by simp; omega
                have hab : (a == 0) = true := by simp [ha0]
                rw [hab] at HX
                rw [if_neg hr0] at HX
                have hil := itoa_len r (by omega)
                have HIL := Lib.hid hil
                clear hab hil ha0
                go_wp2_with (first | (at_builtin; refine append_byte (wr.drewN nq) rfl (.tmp 37) (.tmp 41) rfl w.heap.size _ _ _ _ s[a] rfl (HO3.out nq) _ rfl rfl (by omega) (HW3.out nq).size ?_; intro A2 cap2 w2 hown2 hb2; have H2 := Lib.hid hown2; have B2 := Lib.hid ((HW3.out nq).trans hb2); clear hown2 hb2))
                go_roundw
                case rel =>
                  have hil := HIL.out
                  refine ⟨er, m + 1, cap2, g, A2, T ++ [s[a]], hle, rfl, rfl, rfl, by omega, ?_, by omega, ?_, B2.out⟩
                  · exact H2.out
                  · rw [← HX.out, show (er == 0) = false by simp; omega]; simp
                case measure => simp [intOf]; omega
            · by_cases hr0 : 1 < r
              · have haI : 0 < a := by omega
                have hdA : decide (0 < a) = true := by simp; omega
                have hdR : decide (1 < r) = true := by simp; omega
                have hab : (a == 0) = false := by simp [ha0]
                rw [hab] at HX
                rw [if_pos hr0] at HX
                have hil := itoa_len r (by omega)
                have HIL := Lib.hid hil
                clear hab hil ha0
                go_wp2_with (first | (at_builtin; refine append_byte (wr.drewN nq) rfl (.tmp 34) (.tmp 35) rfl w.heap.size _ _ _ _ 32 rfl (HO3.out nq) _ rfl rfl (by omega) (HW3.out nq).size ?_; intro A1 cap1 w1 hown1 hb1; have H1 := Lib.hid hown1; have B1 := Lib.hid ((HW3.out nq).trans hb1); clear hown1 hb1) | (at_builtin; refine append_byte w1 rfl (.tmp 37) (.tmp 41) rfl w.heap.size _ _ _ _ s[a] rfl H1.out _ rfl rfl (by omega) B1.out.size ?_; intro A2 cap2 w2 hown2 hb2; have H2 := Lib.hid hown2; have B2 := Lib.hid (B1.out.trans hb2); clear hown2 hb2) | (at_builtin; refine append_byte w2 rfl (.tmp 48) (.tmp 49) rfl w.heap.size _ _ _ _ 94 rfl H2.out _ rfl rfl (by omega) B2.out.size ?_; intro A3 cap3 w3 hown3 hb3; have H3 := Lib.hid hown3; have B3 := Lib.hid (B2.out.trans hb3); clear hown3 hb3) | (go_at_call 40; refine (Tryz.strconv_AppendInt_10 w.heap.size _ r (by omega) (by omega) _ _ _ H3.out B3.out.size (by omega) ((HT.out.tab h3).on B3.out)).mono ?_; rintro e w4 ⟨v4, rfl, hown4, hb4, -⟩; obtain ⟨g4, cap4, rfl⟩ := own_slice hown4 (by omega); have H4 := Lib.hid hown4; have B4 := Lib.hid (B3.out.trans hb4); clear hown4 hb4))
                go_roundw
                case rel =>
                  have hil := HIL.out
                  refine ⟨er, m + 1 + 1 + 1 + (Lib.itoa r).length, cap4, g, some ⟨g4, 0, none⟩, T ++ [32] ++ [s[a]] ++ [94] ++ Lib.itoa r, hle, rfl, rfl, rfl, by omega, ?_, by omega, ?_, B4.out⟩
                  · rw [bs_append]; exact H4.out
                  · rw [← HX.out, show (er == 0) = false by simp; omega]; simp
                case measure => simp [intOf]; omega
              · have haI : 0 < a := by omega
                have hdA : decide (0 < a) = true := by simp; omega
                have hdR : decide (1 < r) = false := by simp; omega
                have hab : (a == 0) = false := by simp [ha0]
                rw [hab] at HX
                rw [if_neg hr0] at HX
                have hil := itoa_len r (by omega)
                have HIL := Lib.hid hil
                clear hab hil ha0
                go_wp2_with (first | (at_builtin; refine append_byte (wr.drewN nq) rfl (.tmp 34) (.tmp 35) rfl w.heap.size _ _ _ _ 32 rfl (HO3.out nq) _ rfl rfl (by omega) (HW3.out nq).size ?_; intro A1 cap1 w1 hown1 hb1; have H1 := Lib.hid hown1; have B1 := Lib.hid ((HW3.out nq).trans hb1); clear hown1 hb1) | (at_builtin; refine append_byte w1 rfl (.tmp 37) (.tmp 41) rfl w.heap.size _ _ _ _ s[a] rfl H1.out _ rfl rfl (by omega) B1.out.size ?_; intro A2 cap2 w2 hown2 hb2; have H2 := Lib.hid hown2; have B2 := Lib.hid (B1.out.trans hb2); clear hown2 hb2))
                go_roundw
                case rel =>
                  have hil := HIL.out
                  refine ⟨er, m + 1 + 1, cap2, g, A2, T ++ [32] ++ [s[a]], hle, rfl, rfl, rfl, by omega, ?_, by omega, ?_, B2.out⟩
                  · exact H2.out
                  · rw [← HX.out, show (er == 0) = false by simp; omega]; simp
                case measure => simp [intOf]; omega
    · have hk' : a = s.size := by omega
      subst hk'
      have hz : T = textW s.data.toList := by
        rw [← htx]; rw [List.drop_eq_nil_of_le (by simp)]; cases f <;> simp [textF]
      have hrun := run_string_own (P := Tryz.prog) wr 48 9 5 Tryz.underlying48 Tryz.underlying5 Tryz.underlying9 _ _ _ _ _ HO.out
      have HZ := Lib.hid hz
      clear hz htx
      go_wp2
      go_ret
      exact ⟨by rw [← HZ.out]; rfl, HB.out⟩
end Go.Proofs.YtflieikbhgneoaaGreatDoor
