/-
  Our own text, in the proof of the law RopeLetters of package rope (cayleylaw02). Proved here: RopeLetters returns true, whatever the list, the index and the word. Conditions: the nodes lie in memory as the slice says; the listed table lies as the program lays it.
-/
import Derived.Test.YtgklmcinbaghmaaGreatDoorDd
import Derived.Test.YtgklmcinbaghmaaGreatDoorRz
namespace Go.Proofs.YtgklmcinbaghmaaGreatDoor
open Go Go.RowKit

theorem chunkL_len (s : ByteArray) : (chunkL s).length = (s.size + 99) / 100 := by simp [chunkL]

theorem flat_chunks (l : List UInt8) : ∀ k, ((List.range k).map fun i => (l.drop (100 * i)).take 100).flatten = l.take (100 * k) := by
  intro k
  induction k with
  | zero => simp
  | succ k ih =>
    rw [List.range_succ, List.map_append, List.flatten_append, ih, Nat.mul_succ, List.take_add]
    simp

theorem chunkB_list (s : ByteArray) (k : Nat) : (chunkB s k).data.toList = (s.data.toList.drop (100 * k)).take 100 := by
  have hl : s.data.toList.length = s.size := rfl
  simp only [chunkB, ByteArray.data_extract, Array.toList_extract, List.extract_eq_take_drop]
  by_cases h : 100 * k + 100 ≤ s.size
  · rw [Nat.min_eq_left h]; congr 1; omega
  · rw [Nat.min_eq_right (by omega), List.take_of_length_le (by simp <;> omega), List.take_of_length_le (by simp <;> omega)]

theorem chunks_flat (s : ByteArray) : ((chunkL s).map fun s => s.data.toList).flatten = s.data.toList := by
  have hl : s.data.toList.length = s.size := rfl
  unfold chunkL
  rw [List.map_map]
  have : ((fun s => s.data.toList) ∘ chunkB s) = fun i => (s.data.toList.drop (100 * i)).take 100 := by funext k; exact chunkB_list s k
  rw [this, flat_chunks, List.take_of_length_le (by omega)]

theorem chunks_ok (s : ByteArray) (hw : s.data.toList.all (letterB 8) = true) : ∀ x ∈ chunkL s, leafB x.data.toList = true ∧ x.data.toList ≠ [] := by
  have hl : s.data.toList.length = s.size := rfl
  intro x hx
  obtain ⟨k, hk, rfl⟩ := List.mem_map.1 hx
  have hk' : k < (s.size + 99) / 100 := List.mem_range.1 hk
  rw [chunkB_list]
  refine ⟨?_, ?_⟩
  · unfold leafB
    rw [Bool.and_eq_true]
    refine ⟨by simp; omega, ?_⟩
    rw [List.all_eq_true] at hw ⊢
    exact fun c hc => hw c (List.mem_of_mem_drop (List.mem_of_mem_take hc))
  · intro h0
    have := congrArg List.length h0
    simp only [List.length_take, List.length_drop, List.length_nil, hl] at this
    omega

/-- The rope of a word: valid, with the word, and short. -/
theorem of_rope (s : ByteArray) (hs : s.size ≤ 100000) (hw : s.data.toList.all (letterB 8) = true) :
    wordR (ofC (chunkL s)) = s.data.toList ∧ wordE (ofC (chunkL s)) = 0 ∧ (ofC (chunkL s)).length = 2 * ((s.size + 99) / 100) - 1 := by
  have hl : s.data.toList.length = s.size := rfl
  have hlen : (ofC (chunkL s)).length = 2 * ((s.size + 99) / 100) - 1 := by rw [ofC_len, chunkL_len]
  obtain ⟨⟨L, h1, h2, h3⟩, h4⟩ := of_is (chunkL s) (chunks_ok s hw) (by rw [chunkL_len]; omega)
  rw [chunks_flat] at h3 h4
  have hlens : lens (ofC (chunkL s)) = some L := by unfold lens; rw [if_pos (by omega)]; exact h1
  have hlast : lastN L ≤ 100000 := by omega
  refine ⟨?_, ?_, hlen⟩
  · unfold wordR; rw [hlens]; simp only; rw [if_pos hlast]; exact h4
  · unfold wordE; rw [hlens]; simp only; rw [if_pos hlast]

/-- How the law goes on. -/
structure Sq (w0 : World) (A : Option Addr) (r : List Nd) (w : World) : Prop where
  tabs : Tabs w
  ra : RopeAt w A r
  below : Below w0.heap.size w0 w
theorem Sq.on {w0 : World} {A : Option Addr} {r : List Nd} {w w' : World} (h : Sq w0 A r w) (hb : Below w.heap.size w w') : Sq w0 A r w' :=
  ⟨h.tabs.on hb, h.ra.on hb, h.below.trans (hb.mono h.below.size)⟩
theorem q_at {w0 : World} {A : Option Addr} {r : List Nd} {w : World} (h : Sq w0 A r w) (cap : Nat) (i : Int) (hm : r.length ≤ maxLen) (c : UInt8) (e0 : Int) (hc : atB r i = c) (he : atE r i = e0) :
    Calls Tryz.prog 16 #[.slice A r.length cap, .int .i64 i] w fun e w' => e = .returned (.tuple #[.int .u8 c.toNat, .int .i64 e0]) ∧ Sq w0 A r w' := by
  subst hc he
  exact (At_any A r cap i w h.tabs h.ra hm).mono fun _ _ x => ⟨x.1, h.on x.2⟩
theorem q_rat {w0 : World} {A : Option Addr} {r : List Nd} {w : World} (h : Sq w0 A r w) (cap : Nat) (i : Int) (hm : r.length ≤ maxLen) (c : UInt8) (e0 : Int) (hc : atB r i = c) (he : atE r i = e0) :
    Calls Tryz.prog 17 #[.slice A r.length cap, .int .i64 i] w fun e w' => e = .returned (.tuple #[.int .u8 c.toNat, .int .i64 e0]) ∧ Sq w0 A r w' := by
  subst hc he
  exact (rAt_any A r cap i w h.ra hm).mono fun _ _ x => ⟨x.1, h.on x.2⟩
theorem q_word {w0 : World} {A : Option Addr} {r : List Nd} {w : World} (h : Sq w0 A r w) (cap : Nat) (hm : r.length ≤ maxLen) (b : ByteArray) (e0 : Int) (hc : (⟨(wordR r).toArray⟩ : ByteArray) = b) (he : wordE r = e0) :
    Calls Tryz.prog 18 #[.slice A r.length cap] w fun e w' => e = .returned (.tuple #[.string b, .int .i64 e0]) ∧ Sq w0 A r w' := by
  subst hc he
  exact (Word_any A r cap w h.tabs h.ra hm).mono fun _ _ x => ⟨x.1, h.on x.2⟩
theorem q_rword {w0 : World} {A : Option Addr} {r : List Nd} {w : World} (h : Sq w0 A r w) (O : Option Addr) (t : List Nd) (cap : Nat) (ho : RopeAt w O t) (hm : t.length ≤ maxLen) (b : ByteArray) (e0 : Int) (hc : (⟨(wordR t).toArray⟩ : ByteArray) = b) (he : wordE t = e0) :
    Calls Tryz.prog 19 #[.slice O t.length cap] w fun e w' => e = .returned (.tuple #[.string b, .int .i64 e0]) ∧ Sq w0 A r w' := by
  subst hc he
  exact (rWord_any O t cap w ho hm).mono fun _ _ x => ⟨x.1, h.on x.2⟩
theorem q_sane {w0 : World} {A : Option Addr} {r : List Nd} {w : World} (h : Sq w0 A r w) : Calls Tryz.prog 12 #[] w fun e w' => e = .returned (.bool true) ∧ Sq w0 A r w' :=
  (sane_any w h.tabs).mono fun _ _ x => ⟨x.1, h.on x.2⟩

theorem isW_wordB (l : List UInt8) : wordB l 100000 = isW l := by
  unfold wordB isW
  rw [Bool.and_comm]
  congr 1
  simp; omega

theorem ofC_small : ∀ l : List ByteArray, (∀ s ∈ l, s.size ≤ 100) → ∀ x ∈ ofC l, x.word.size ≤ maxLen := by
  intro l
  induction l using snoc_ind with
  | h0 => intro _ x hx; cases hx
  | hs l s ih =>
    intro h x hx
    have hs : s.size ≤ 100 := h s (by simp)
    have ih' := ih (fun y hy => h y (by simp [hy]))
    rw [ofC_snoc] at hx
    unfold addC at hx
    have e1 : (leafN s).word.size ≤ maxLen := by show s.size ≤ maxLen; unfold maxLen; omega
    have e2 : ∀ a b, (joinN a b).word.size ≤ maxLen := fun a b => Nat.zero_le _
    split at hx
    · simp only [List.mem_singleton] at hx
      subst hx; exact e1
    · rcases List.mem_append.1 hx with hx | hx
      · exact ih' x hx
      · simp only [List.mem_cons, List.not_mem_nil, or_false] at hx
        rcases hx with rfl | rfl
        · exact e1
        · exact e2 _ _
theorem chunkL_small (s : ByteArray) : ∀ x ∈ chunkL s, x.size ≤ 100 := by
  intro x hx
  obtain ⟨k, hk, rfl⟩ := List.mem_map.1 hx
  exact chunk_le s _ _ (by omega)

theorem ba_of {l : List UInt8} {s : ByteArray} (h : l = s.data.toList) : (⟨l.toArray⟩ : ByteArray) = s := by
  subst h; cases s; simp

set_option maxHeartbeats 4000000 in
set_option maxRecDepth 100000 in
theorem letters_bad (A : Option Addr) (r : List Nd) (cap : Nat) (i : Int) (s : ByteArray) (w : World) (ht : Tabs w) (hr : RopeAt w A r) (hm : r.length ≤ maxLen) (hs : s.size ≤ maxLen) (hw : isW s.data.toList = false) :
    Calls Tryz.prog 4 #[.slice A r.length cap, .int .i64 i, .string s] w fun e w' => e = .returned (.bool true) ∧ Below w.heap.size w w' := by
  have h0 : Sq w A r w := ⟨ht, hr, Below.refl _ _⟩
  have hck : ¬ checkI 8 s.data.toList = 0 := by
    intro h
    have h8 := checkI_8 s.data.toList
    rw [hw, h] at h8
    cases h8
  have HOF := Lib.hid (fun w ht => Of_no s w ht hs hck)
  have hrw := fun w => rIsWord_any s 100000 w hs
  rw [isW_wordB, hw] at hrw
  have HRW := Lib.hid hrw
  have HM := Lib.hid hm
  obtain ⟨c, hc⟩ : ∃ c, atB r i = c := ⟨_, rfl⟩
  obtain ⟨e0, he⟩ : ∃ e0, atE r i = e0 := ⟨_, rfl⟩
  obtain ⟨b, hb⟩ : ∃ b : ByteArray, (⟨(wordR r).toArray⟩ : ByteArray) = b := ⟨_, rfl⟩
  obtain ⟨f, hf⟩ : ∃ f, wordE r = f := ⟨_, rfl⟩
  have HC := Lib.hid hc
  have HE := Lib.hid he
  have HB := Lib.hid hb
  have HF := Lib.hid hf
  clear hc he hb hf hrw hm hw hck ht hr hs
  go_enter Tryz.func4, Tryz.ntmps4
  go_wp2_with fail
  refine (q_at h0 cap i HM.out c e0 HC.out HE.out).mono ?_; rintro e w1 ⟨rfl, h1⟩; clear h0
  go_wp2_with fail
  refine (q_rat h1 cap i HM.out c e0 HC.out HE.out).mono ?_; rintro e w2 ⟨rfl, h2⟩; clear h1
  go_wp2_with fail
  refine (q_word h2 cap HM.out b f HB.out HF.out).mono ?_; rintro e w3 ⟨rfl, h3⟩; clear h2
  go_wp2_with fail
  refine (q_rword h3 A r cap h3.ra HM.out b f HB.out HF.out).mono ?_; rintro e w4 ⟨rfl, h4⟩; clear h3
  go_wp2_with fail
  refine (HOF.out w4 h4.tabs).mono ?_; rintro e w5 ⟨rfl, rfl⟩
  go_wp2_with fail
  refine (HRW.out _).mono ?_; rintro e w5 ⟨rfl, rfl⟩
  go_wp2_with fail
  refine (q_sane h4).mono ?_; rintro e w5 ⟨rfl, h5⟩; clear h4
  go_wp2
  go_ret
  exact ⟨rfl, h5.below⟩

set_option maxHeartbeats 4000000 in
set_option maxRecDepth 100000 in
theorem letters_good (A : Option Addr) (r : List Nd) (cap : Nat) (i : Int) (s : ByteArray) (w : World) (ht : Tabs w) (hr : RopeAt w A r) (hm : r.length ≤ maxLen) (hs : s.size ≤ maxLen) (hw : isW s.data.toList = true) :
    Calls Tryz.prog 4 #[.slice A r.length cap, .int .i64 i, .string s] w fun e w' => e = .returned (.bool true) ∧ Below w.heap.size w w' := by
  have h0 : Sq w A r w := ⟨ht, hr, Below.refl _ _⟩
  have hck : checkI 8 s.data.toList = 0 := by
    have h8 := checkI_8 s.data.toList
    rw [hw] at h8
    simpa using h8
  have hw2 := hw
  unfold isW at hw2
  rw [Bool.and_eq_true, decide_eq_true_eq] at hw2
  have hsz : s.size ≤ 100000 := hw2.1
  obtain ⟨p1, p2, p3⟩ := of_rope s hsz hw2.2
  have p4 := ofC_small (chunkL s) (chunkL_small s)
  have hof : ∀ w', Sq w A r w' → Calls Tryz.prog 20 #[.string s] w' fun e w'' => ∃ O c, e = .returned (.tuple #[.slice O (ofC (chunkL s)).length c, .int .i64 0]) ∧ RopeAt w'' O (ofC (chunkL s)) ∧ Sq w A r w'' := by
    intro w' h'
    refine (Of_yes s hsz w' h'.tabs hck).mono ?_
    rintro e w'' ⟨O, c, rfl, ho, hb⟩
    exact ⟨O, c, rfl, ropeAt_own ho p4, h'.on hb⟩
  have hrw := fun w => rIsWord_any s 100000 w hs
  rw [isW_wordB, hw] at hrw
  have hbs := ba_of p1
  generalize ofC (chunkL s) = T at *
  have HBS := Lib.hid hbs
  have HBE := Lib.hid p2
  have HOF := Lib.hid hof
  have HRW := Lib.hid hrw
  have HM := Lib.hid hm
  have HTM := Lib.hid (show T.length ≤ maxLen by unfold maxLen; omega)
  have hd : decide ((T.length : Int) ≤ (s.size : Int) / 50 + 1) = true := by simp; omega
  obtain ⟨c, hc⟩ : ∃ c, atB r i = c := ⟨_, rfl⟩
  obtain ⟨e0, he⟩ : ∃ e0, atE r i = e0 := ⟨_, rfl⟩
  obtain ⟨b, hb⟩ : ∃ b : ByteArray, (⟨(wordR r).toArray⟩ : ByteArray) = b := ⟨_, rfl⟩
  obtain ⟨f, hf⟩ : ∃ f, wordE r = f := ⟨_, rfl⟩
  have HC := Lib.hid hc
  have HE := Lib.hid he
  have HB := Lib.hid hb
  have HF := Lib.hid hf
  have HP3 := Lib.hid p3
  have hT4 : T.length ≤ 4000 := by omega
  clear hc he hb hf hrw hm hw hw2 hck ht hr hof hbs p1 p2 p3 p4 hs
  go_enter Tryz.func4, Tryz.ntmps4
  go_wp2_with fail
  refine (q_at h0 cap i HM.out c e0 HC.out HE.out).mono ?_; rintro e w1 ⟨rfl, h1⟩; clear h0
  go_wp2_with fail
  refine (q_rat h1 cap i HM.out c e0 HC.out HE.out).mono ?_; rintro e w2 ⟨rfl, h2⟩; clear h1
  go_wp2_with fail
  refine (q_word h2 cap HM.out b f HB.out HF.out).mono ?_; rintro e w3 ⟨rfl, h3⟩; clear h2
  go_wp2_with fail
  refine (q_rword h3 A r cap h3.ra HM.out b f HB.out HF.out).mono ?_; rintro e w4 ⟨rfl, h4⟩; clear h3
  go_wp2_with fail
  refine (HOF.out w4 h4).mono ?_; rintro e w5 ⟨O, co, rfl, ho, h5⟩; clear h4
  go_wp2_with fail
  refine (HRW.out _).mono ?_; rintro e w6 ⟨rfl, rfl⟩
  go_wp2_with fail
  refine (q_rword h5 O T co ho HTM.out s 0 HBS.out HBE.out).mono ?_; rintro e w6 ⟨rfl, h6⟩; clear h5 ho
  go_wp2_with fail
  refine (q_sane h6).mono ?_; rintro e w7 ⟨rfl, h7⟩; clear h6
  by_cases hs0 : s.data.toList = []
  · obtain rfl := emp_ba hs0
    have hT0 : T.length = 0 := by rw [HP3.out]; rfl
    obtain rfl : T = [] := List.length_eq_zero_iff.1 hT0
    clear hT0 hd
    go_wp2
    go_ret
    exact ⟨rfl, h7.below⟩
  · have he1 : s.toList.isEmpty = false := by rw [ByteArray.toList_eq]; simpa using hs0
    have he2 : (!s.toList.isEmpty) = true := by rw [he1]; rfl
    clear hs0
    go_wp2
    go_ret
    exact ⟨rfl, h7.below⟩

theorem letters_any (A : Option Addr) (r : List Nd) (cap : Nat) (i : Int) (s : ByteArray) (w : World) (ht : Tabs w) (hr : RopeAt w A r) (hm : r.length ≤ maxLen) (hs : s.size ≤ maxLen) :
    Calls Tryz.prog 4 #[.slice A r.length cap, .int .i64 i, .string s] w fun e w' => e = .returned (.bool true) ∧ Below w.heap.size w w' := by
  cases hw : isW s.data.toList with
  | false => exact letters_bad A r cap i s w ht hr hm hs hw
  | true => exact letters_good A r cap i s w ht hr hm hs hw
end Go.Proofs.YtgklmcinbaghmaaGreatDoor
