/-
  Our own text, in the proof of the law WordBasics of package word. Proved here: Text of the reference package returns the text of a word. Conditions: the arguments read as the row says and the listed tables lie as the program lays them; none other.
-/
import Derived.Test.YtflieikbhgneoaaGreatDoorBa
import Derived.Test.YtflieikbhgneoaaGreatDoorWx
namespace Go.Proofs.YtflieikbhgneoaaGreatDoor
open Go Go.RowKit

theorem below_grow {w w1 : World} (q : Nat) (os : Array Obj) (h : w1 = Sort.grow (w.drewN q) os) : Below w.heap.size w w1 := by
  subst h
  exact ⟨rfl, rfl, rfl, by first | (simp [Sort.grow]; done) | (simp [Sort.grow]; omega), fun i hi => by
    show ((w.drewN q).heap ++ os)[i]? = _
    rw [Array.getElem?_append_left (by show i < w.heap.size; omega)]
    rfl⟩
theorem app_list (a b : ByteArray) : (a ++ b).data.toList = a.data.toList ++ b.data.toList := by simp [ByteArray.data_append]
theorem size_one (c : UInt8) : (ByteArray.mk #[c]).size = 1 := rfl
theorem letter_128 : ∀ c : UInt8, 0 ≤ idx c → c.toNat < 128 := by
  have h : ∀ n : Nat, n < 256 → 0 ≤ idx (UInt8.ofNat n) → (UInt8.ofNat n).toNat < 128 := by decide +kernel
  intro c; have := h c.toNat c.toNat_lt; simpa using this
theorem mk_list (l : List UInt8) : (ByteArray.mk l.toArray).data.toList = l := rfl

/-- One run more: the reference's text. -/
theorem rtext_rel (s T : ByteArray) (a r er g : Nat) (c : UInt8) (b : Bool) (hr : a + r = er) (h0 : 1 ≤ r)
    (hX : T.data.toList ++ ((if b then [] else [32]) ++ [c] ++ (if 1 < r then 94 :: Lib.itoa r else []) ++ textF g false (s.data.toList.drop er)) = textW s.data.toList)
    (U : ByteArray) (hU : U.data.toList = T.data.toList ++ (if b then [] else [32]) ++ [c] ++ (if 1 < r then 94 :: Lib.itoa r else [])) :
    U.data.toList ++ textF g (er == 0) (s.data.toList.drop er) = textW s.data.toList := by
  rw [← hX, hU, show (er == 0) = false by simp; omega]; simp

set_option maxHeartbeats 2000000 in
set_option maxRecDepth 100000 in
theorem rText_yes (s : ByteArray) (w : World) (ht : Tabs w) (hw : isW s.data.toList = true) :
    Calls Tryz.prog 20 #[.string s] w fun e w' => e = .returned (.string ⟨(textW s.data.toList).toArray⟩) ∧ Below w.heap.size w w' := by
  have hlen := isW_len hw
  have hs : s.size ≤ 100000 := by simpa using hlen
  have hI := rIs_any s w (by unfold maxLen; omega)
  have hlet := letter_of_isW hw
  rw [hw] at hI
  clear hlen hw
  by_cases hem : s.data.toList = []
  · obtain rfl : s = ⟨#[]⟩ := ba_ext (by rw [hem])
    clear hem ht hlet
    go_enter Tryz.func20, Tryz.ntmps20
    go_wp2_with (go_at_call 31; refine hI.mono ?_; rintro e w' ⟨rfl, rfl⟩)
    go_ret
    exact ⟨rfl, Below.refl _ _⟩
  have he : s.toList.isEmpty = false := by rw [ByteArray.toList_eq]; simpa using hem
  have HW : Hid (textW s.data.toList = textF s.data.toList.length true (s.data.toList.drop 0)) := Lib.hid (by simp [textW, hem])
  have HT := Lib.hid ht
  have HLET := Lib.hid hlet
  clear hem ht hlet
  go_enter Tryz.func20, Tryz.ntmps20
  go_wp2_with (go_at_call 31; refine hI.mono ?_; rintro e w' ⟨rfl, rfl⟩)
  clear hI
  go_loopw [3, 4, 5] (fun out i j wr => ∃ (a f : Nat) (T : ByteArray), a ≤ s.size ∧ i = .int .i64 a ∧ out = .string T ∧ T.size ≤ 30 * a ∧
      s.size ≤ f + a ∧ T.data.toList ++ textF f (a == 0) (s.data.toList.drop a) = textW s.data.toList ∧ Below w.heap.size w wr)
    (fun _ i _ _ => s.size - (intOf i).toNat)
  case atStart => exact ⟨0, s.size, ⟨#[]⟩, Nat.zero_le _, rfl, rfl, Nat.le_refl _, by omega, by rw [HW.out]; rfl, Below.refl _ _⟩
  case round =>
    obtain ⟨a, f, T, ha, rfl, rfl, hTl, hf, htx, hb⟩ := hrel
    have HB := Lib.hid hb
    clear hb
    by_cases hlt : a < s.size
    · obtain ⟨g, rfl⟩ : ∃ g, f = g + 1 := ⟨f - 1, by omega⟩
      rw [text_step s a g _ hlt] at htx
      have hr1 : 1 ≤ runN (s.data.toList.drop a) := by
        rw [List.drop_eq_getElem_cons (show a < s.data.toList.length by simpa using hlt)]; exact runN_pos _ _
      have hr2 := runN_le (s.data.toList.drop a)
      have hin := run_in s a
      have hen := run_end s a hlt
      rw [List.length_drop, show s.data.toList.length = s.size by simp] at hr2
      have henc := encode_byte s[a] (letter_128 _ (HLET.out _ (mem_ba s a hlt)))
      have hcv : ∀ w, (convert 5 9 (.int .u8 (s[a].toNat : Int))).run Tryz.prog w = .ok (.string ⟨#[s[a]]⟩) w := fun w => by
        rw [run_convert_int_string w 5 9 .u8 _ (by rw [Tryz.underlying5]; rfl) Tryz.underlying9, henc]
      clear henc
      have HCV := Lib.hid hcv
      clear hcv
      generalize hrr : runN (s.data.toList.drop a) = r at *
      have HX := Lib.hid htx
      have HIN := Lib.hid hin
      have HEN := Lib.hid hen
      clear hrr htx hin hen
      obtain ⟨wo, hwo⟩ : ∃ wo : World, wo = wr := ⟨_, rfl⟩
      rw [← hwo]
      have HWO := Lib.hid hwo
      clear hwo
      go_wp2
      go_loopw [5] (fun j w2 => ∃ (e n : Nat), a ≤ e ∧ e ≤ a + r ∧ j = .int .i64 e ∧ w2 = wo.drewN n)
        (fun j _ => s.size - (intOf j).toNat)
      case atStart => exact ⟨a, 0, Nat.le_refl _, by omega, rfl, rfl⟩
      case round =>
        obtain ⟨e, n, he1, he2, rfl, hw2⟩ := hrel
        have HW2 := Lib.hid hw2
        clear hw2
        by_cases hlt2 : e < a + r
        · obtain ⟨hes, heq⟩ := HIN.out e hlt he1 hlt2
          have hd1 : decide (e < s.size) = true := by simpa using hes
          have hd2 : ((s[e].toNat : Int) == (s[a].toNat : Int)) = true := by rw [heq]; simp
          clear heq
          go_wp2
          go_quiet (fail)
          go_wp2
          go_roundw
          case rel => exact ⟨e + 1, n + nq, by omega, by omega, by go_num, by rw [HW2.out, World.drewN_drewN]⟩
          case measure => simp [intOf]; omega
        · obtain rfl : e = a + r := by omega
          have hw3 : ∀ q, Below w.heap.size w (wr.drewN q) := fun q => by rw [HW2.out, HWO.out]; exact (HB.out.drewN n).drewN q
          have HW3 := Lib.hid hw3
          clear hw3
          obtain ⟨er, her⟩ : ∃ er : Nat, a + r = er := ⟨_, rfl⟩
          have hsub : (er : Int) - (a : Int) = (r : Int) := by omega
          rw [her] at HX HEN
          rw [her]
          have HER := Lib.hid her
          have hle : er ≤ s.size := by omega
          have hage : a < er := by omega
          have hil := itoa_len r (by omega)
          have HIL := Lib.hid hil
          have hcv := HCV.out
          have hrel := rtext_rel s T a r er g s[a] (a == 0) HER.out hr1 HX.out
          have HREL := Lib.hid hrel
          clear her he1 he2 hlt2 hil hrel
          obtain ⟨I, hI⟩ : ∃ I : ByteArray, I = ⟨(Lib.itoa r).toArray⟩ := ⟨_, rfl⟩
          have hIs : I.size ≤ 20 := by rw [hI]; exact HIL.out
          have hIt : ∀ q, Calls Tryz.prog 41 #[.int .i64 (r : Int)] (wr.drewN q) fun e w' => e = .returned (.string I) ∧ Below (wr.drewN q).heap.size (wr.drewN q) w' := fun q =>
            (Tryz.strconv_Itoa r (by omega) (by omega) (wr.drewN q) ((HT.out.on (HW3.out q)).pow)).mono (by
              rintro e w' ⟨rfl, k, os, hw'⟩
              exact ⟨by rw [hI], below_grow k os hw'⟩)
          have HIT := Lib.hid hIt
          have HI := Lib.hid hI
          clear hIt hI
          by_cases hes : er < s.size
          case' pos =>
            have hne := HEN.out hes
            have hd1 : decide (er < s.size) = true := by simpa using hes
            have hd2 : ((s[er].toNat : Int) == (s[a].toNat : Int)) = false := by
              rw [beq_eq_false_iff_ne]; intro h; exact hne (UInt8.toNat_inj.1 (by exact_mod_cast h))
            clear hne
            go_wp2
            go_quiet (fail)
          case' neg =>
            have hd1 : decide (er < s.size) = false := by simpa using hes
            go_wp2
            go_quiet (fail)
          all_goals
            rcases Nat.eq_zero_or_pos a with ha0 | ha0
            · rcases Nat.lt_or_ge 1 r with hr0 | hr0
              · have hdA : decide (0 < a) = false := by simp; omega
                have haI : a ≤ 0 := by omega
                have hab : (a == 0) = true := by simp [ha0]
                have hdR : decide (1 < r) = true := by simp; omega
                rw [hab] at HREL
                rw [if_pos hr0] at HREL
                clear hab
                clear ha0
                go_wp2_with (go_at_call 41; refine (HIT.out _).mono ?_; rintro e w4 ⟨rfl, hb4⟩)
                go_roundw
                case rel => exact ⟨er, g, T ++ ⟨#[s[a]]⟩ ++ ⟨#[94]⟩ ++ I, hle, rfl, rfl, by simp only [ByteArray.size_append, size_one]; omega, by omega, HREL.out _ (by rw [HI.out]; simp [ByteArray.data_append]), (HW3.out nq).trans (hb4.mono (HW3.out nq).size)⟩
                case measure => simp [intOf]; omega
              · have hdA : decide (0 < a) = false := by simp; omega
                have haI : a ≤ 0 := by omega
                have hab : (a == 0) = true := by simp [ha0]
                have hdR : decide (1 < r) = false := by simp; omega
                rw [hab] at HREL
                rw [if_neg (Nat.not_lt.2 hr0)] at HREL
                clear hab
                clear ha0
                go_wp2
                go_roundw
                case rel => exact ⟨er, g, T ++ ⟨#[s[a]]⟩, hle, rfl, rfl, by simp only [ByteArray.size_append, size_one]; omega, by omega, HREL.out _ (by simp [ByteArray.data_append]), HW3.out nq⟩
                case measure => simp [intOf]; omega
            · rcases Nat.lt_or_ge 1 r with hr0 | hr0
              · have hdA : decide (0 < a) = true := by simp; omega
                have hab : (a == 0) = false := by simp; omega
                have hdR : decide (1 < r) = true := by simp; omega
                rw [hab] at HREL
                rw [if_pos hr0] at HREL
                clear hab
                go_wp2_with (go_at_call 41; refine (HIT.out _).mono ?_; rintro e w4 ⟨rfl, hb4⟩)
                go_roundw
                case rel => exact ⟨er, g, T ++ ⟨#[32]⟩ ++ ⟨#[s[a]]⟩ ++ ⟨#[94]⟩ ++ I, hle, rfl, rfl, by simp only [ByteArray.size_append, size_one]; omega, by omega, HREL.out _ (by rw [HI.out]; simp [ByteArray.data_append]), (HW3.out nq).trans (hb4.mono (HW3.out nq).size)⟩
                case measure => simp [intOf]; omega
              · have hdA : decide (0 < a) = true := by simp; omega
                have hab : (a == 0) = false := by simp; omega
                have hdR : decide (1 < r) = false := by simp; omega
                rw [hab] at HREL
                rw [if_neg (Nat.not_lt.2 hr0)] at HREL
                clear hab
                go_wp2
                go_roundw
                case rel => exact ⟨er, g, T ++ ⟨#[32]⟩ ++ ⟨#[s[a]]⟩, hle, rfl, rfl, by simp only [ByteArray.size_append, size_one]; omega, by omega, HREL.out _ (by simp [ByteArray.data_append]), HW3.out nq⟩
                case measure => simp [intOf]; omega
    · have hk' : a = s.size := by omega
      subst hk'
      rw [List.drop_eq_nil_of_le (by simp)] at htx
      have hz : T.data.toList = textW s.data.toList := by rw [← htx]; cases f <;> simp [textF]
      have HZ := Lib.hid hz
      clear htx hz
      go_wp2
      go_ret
      exact ⟨by rw [← HZ.out]; exact congrArg (fun x => Ending.returned (Value.string x)) (ba_ext (by simp)), HB.out⟩
end Go.Proofs.YtflieikbhgneoaaGreatDoor
