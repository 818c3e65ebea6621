/-
  Our own text, in the proof of the law WordBasics of package word. Proved here: WordBasics returns true at every k, n, byte and two strings. Conditions: the arguments read as the row says and the listed tables lie as the program lays them; none other.
-/
import Derived.Test.YtflieikbhgneoaaGreatDoorBb
import Derived.Test.YtflieikbhgneoaaGreatDoorXf
namespace Go.Proofs.YtflieikbhgneoaaGreatDoor
open Go Go.RowKit

/-- What the law asks of its strings. -/
def shortB (s : ByteArray) : Bool := !(decide (1000 < s.size) && decide (s.size ≤ 100000))

set_option maxHeartbeats 400000 in
theorem short_any (ss : List ByteArray) (a : Addr) (cap : Nat) (w : World) (hl : ss.length ≤ 100) (hs : ∀ s ∈ ss, s.size ≤ maxLen) (hc : ∀ i (h : i < ss.length), w.cell? (a.add i) = some (.string ss[i])) :
    Calls Tryz.prog 6 #[.slice (some a) ss.length cap] w fun e w' => e = .returned (.bool (ss.all shortB)) ∧ w = w' := by
  go_enter Tryz.func6, Tryz.ntmps6
  go_wp2
  go_loop [3] (fun i => ∃ n : Nat, n ≤ ss.length ∧ i = .int .i64 n ∧ (ss.take n).all shortB = true) (fun i => ss.length - (intOf i).toNat)
  case atStart => exact ⟨0, Nat.zero_le _, rfl, rfl⟩
  case round =>
    obtain ⟨n, hn, rfl, hall⟩ := hrel
    have HA := Lib.hid hall
    clear hall
    by_cases hlt : n < ss.length
    · have hcn := hc n hlt
      have hsn := hs ss[n] (List.getElem_mem _)
      have hsucc : (ss.take (n + 1)).all shortB = (shortB ss[n]) := by
        rw [List.take_succ_eq_append_getElem hlt, List.all_append, HA.out]; simp
      have HS := Lib.hid hsucc
      have hz : shortB ss[n] = false → ss.all shortB = false := fun hb => by
        rw [List.all_eq_false]
        exact ⟨ss[n], List.getElem_mem _, by simpa using hb⟩
      have HZ := Lib.hid hz
      clear hz hsucc hc hs
      generalize ss[n] = s at *
      unfold maxLen at hsn
      by_cases h1 : 1000 < s.size
      · have h1' : decide (1000 < (s.size : Int)) = true := by simp; omega
        by_cases h2 : s.size ≤ 100000
        · have h2' : decide ((s.size : Int) ≤ 100000) = true := by simp; omega
          have Hb : Hid (shortB s = false) := Lib.hid (by simp [shortB, h1, h2])
          go_wp2
          go_ret
          exact ⟨by rw [HZ.out Hb.out]; rfl, rfl⟩
        · have h2' : decide ((s.size : Int) ≤ 100000) = false := by simp; omega
          have Hb : Hid (shortB s = true) := Lib.hid (by simp [shortB, h1, h2])
          go_wp2
          go_round
          case rel => exact ⟨n + 1, by omega, by go_num, by rw [HS.out, Hb.out]⟩
          case measure => simp [intOf]; omega
      · have h1' : decide (1000 < (s.size : Int)) = false := by simp; omega
        have Hb : Hid (shortB s = true) := Lib.hid (by simp [shortB, h1])
        go_wp2
        go_round
        case rel => exact ⟨n + 1, by omega, by go_num, by rw [HS.out, Hb.out]⟩
        case measure => simp [intOf]; omega
    · have hz := HA.out
      rw [List.take_of_length_le (by omega)] at hz
      have HZ := Lib.hid hz
      clear hz hc hs
      go_wp2
      go_ret
      exact ⟨by rw [HZ.out]; rfl, rfl⟩

/-- The world that the law's calls take and give back. -/
theorem b_sane (w0 w : World) (h : St w0 w) : Calls Tryz.prog 5 #[] w fun e w' => e = .returned (.bool true) ∧ St w0 w' :=
  (sane_any w h.tabs).mono fun _ _ k => ⟨k.1, h.on k.2⟩
theorem b_short (w0 w : World) (h : St w0 w) (u v : ByteArray) (hu : u.size ≤ maxLen) (hv : v.size ≤ maxLen) (b : Bool) (hb : (shortB u && shortB v) = b) :
    Calls Tryz.prog 6 #[.slice (some ⟨w.heap.size, 0, none⟩) 2 2] (w.alloc (.cells #[.string u, .string v] 9)) fun e w' => e = .returned (.bool b) ∧ St w0 w' := by
  have hblk : (w.alloc (.cells #[.string u, .string v] 9)).heap[w.heap.size]? = some (.cells #[.string u, .string v] 9 (0, 0)) := heap_alloc_new w _
  have c0 := cell_of_row _ w.heap.size 0 _ 9 (0, 0) hblk
  have c1 := cell_of_row _ w.heap.size 1 _ 9 (0, 0) hblk
  have hW := short_any [u, v] ⟨w.heap.size, 0, none⟩ 2 (w.alloc (.cells #[.string u, .string v] 9)) (by simp)
    (fun s hs' => by
      simp only [List.mem_cons, List.mem_nil_iff, or_false] at hs'
      rcases hs' with rfl | rfl <;> assumption)
    (fun i hi => by
      have ea : (⟨w.heap.size, 0, none⟩ : Addr).add i = ⟨w.heap.size, i, none⟩ := by simp only [Addr.add, Nat.zero_add]; split <;> simp_all
      rw [ea]
      match i, hi with
      | 0, _ => exact c0
      | 1, _ => exact c1)
  refine hW.mono ?_
  rintro e w' ⟨rfl, rfl⟩
  refine ⟨?_, h.on ((Below.refl w.heap.size w).alloc (Nat.le_refl _) _)⟩
  rw [← hb]; simp
theorem b_check (w0 w : World) (h : St w0 w) (k : Int) (u : ByteArray) (hu : u.size ≤ maxLen) (n : Int) (hn : checkI k u.data.toList = n) :
    Calls Tryz.prog 7 #[.int .i64 k, .string u] w fun e w' => e = .returned (.int .i64 n) ∧ St w0 w' :=
  (check_any k u w h.tabs hu).mono fun _ _ k => ⟨by rw [← hn]; exact k.1, h.same k.2⟩
theorem b_rcheck (w0 w : World) (h : St w0 w) (k : Int) (u : ByteArray) (hu : u.size ≤ maxLen) (n : Int) (hn : checkI k u.data.toList = n) :
    Calls Tryz.prog 8 #[.int .i64 k, .string u] w fun e w' => e = .returned (.int .i64 n) ∧ St w0 w' :=
  (rCheck_any k u w hu).mono fun _ _ k => ⟨by rw [← hn]; exact k.1, h.same k.2⟩
theorem b_index (w0 w : World) (h : St w0 w) (c : Int) (d : UInt8) (hc : c = d.toNat) (n : Int) (hn : idx d = n) :
    Calls Tryz.prog 9 #[.int .u8 c] w fun e w' => e = .returned (.int .i64 n) ∧ St w0 w' := by
  subst hc
  exact (index_any d w h.tabs).mono fun _ _ k => ⟨by rw [← hn]; exact k.1, h.same k.2⟩
theorem b_rindex (w0 w : World) (h : St w0 w) (c : Int) (d : UInt8) (hc : c = d.toNat) (n : Int) (hn : idx d = n) :
    Calls Tryz.prog 10 #[.int .u8 c] w fun e w' => e = .returned (.int .i64 n) ∧ St w0 w' := by
  subst hc
  exact (rIndex_any d w).mono fun _ _ k => ⟨by rw [← hn]; exact k.1, h.same k.2⟩
theorem let_out (n : Int) (h : ¬ (0 ≤ n ∧ n < 16)) : let_ n = 0 := by
  unfold let_; rw [if_pos (by omega)]
theorem b_letter (w0 w : World) (h : St w0 w) (n : Int) (c : Int) (hc : ((let_ n).toNat : Int) = c) :
    Calls Tryz.prog 11 #[.int .i64 n] w fun e w' => e = .returned (.int .u8 c) ∧ St w0 w' := by
  by_cases hn : 0 ≤ n ∧ n < 16
  · exact (Letter_any n w h.tabs hn.1 hn.2).mono fun _ _ k => ⟨by rw [← hc]; exact k.1, h.same k.2⟩
  · rw [let_out n hn] at hc
    exact (Letter_out n w (by omega)).mono fun _ _ k => ⟨by rw [← hc]; exact k.1, h.same k.2⟩
theorem b_rletter (w0 w : World) (h : St w0 w) (n : Int) (c : Int) (hc : ((let_ n).toNat : Int) = c) :
    Calls Tryz.prog 12 #[.int .i64 n] w fun e w' => e = .returned (.int .u8 c) ∧ St w0 w' := by
  by_cases hn : 0 ≤ n ∧ n < 16
  · exact (rLetter_any n w hn.1 hn.2).mono fun _ _ k => ⟨by rw [← hc]; exact k.1, h.same k.2⟩
  · rw [let_out n hn] at hc
    exact (rLetter_out n w (by omega)).mono fun _ _ k => ⟨by rw [← hc]; exact k.1, h.same k.2⟩
/-- The answers at words and at others. -/
def invA (u : ByteArray) : ByteArray := if isW u.data.toList = true then ⟨(invW u.data.toList).toArray⟩ else ⟨#[]⟩
def redA (u : ByteArray) : ByteArray := if isW u.data.toList = true then ⟨(red u.data.toList).toArray⟩ else ⟨#[]⟩
def textA (u : ByteArray) : ByteArray := if isW u.data.toList = true then ⟨(textW u.data.toList).toArray⟩ else ⟨#[]⟩
set_option maxHeartbeats 400000 in
theorem Inverse_no2 (s : ByteArray) (w : World) (ht : Tabs w) (hw : isW s.data.toList = false) (hs : s.size ≤ maxLen) :
    Calls Tryz.prog 13 #[.string s] w fun e w' => e = .returned (.string ⟨#[]⟩) ∧ w = w' := by
  have hI := isWord_any s w ht hs
  rw [hw] at hI
  clear ht hw
  go_enter Tryz.func13, Tryz.ntmps13
  go_wp2_with (go_at_call 35; refine hI.mono ?_; rintro e w' ⟨rfl, rfl⟩)
  go_ret
  exact ⟨rfl, rfl⟩
set_option maxHeartbeats 400000 in
theorem Reduce_no2 (s : ByteArray) (w : World) (ht : Tabs w) (hw : isW s.data.toList = false) (hs : s.size ≤ maxLen) :
    Calls Tryz.prog 15 #[.string s] w fun e w' => e = .returned (.string ⟨#[]⟩) ∧ w = w' := by
  have hI := isWord_any s w ht hs
  rw [hw] at hI
  clear ht hw
  go_enter Tryz.func15, Tryz.ntmps15
  go_wp2_with (go_at_call 35; refine hI.mono ?_; rintro e w' ⟨rfl, rfl⟩)
  go_ret
  exact ⟨rfl, rfl⟩
theorem isW_size {u : ByteArray} (h : isW u.data.toList = true) : u.size ≤ 100000 := by have := isW_len h; simpa using this
section
variable (w0 w : World) (h : St w0 w) (u : ByteArray) (hu : u.size ≤ maxLen)
include h hu
theorem b_inv (x : ByteArray) (hx : invA u = x) : Calls Tryz.prog 13 #[.string u] w fun e w' => e = .returned (.string x) ∧ St w0 w' := by
  subst hx
  cases hw : isW u.data.toList with
  | true => have := isW_size hw; exact (Inverse_yes u w h.tabs hw (by omega)).mono fun _ _ k => ⟨by rw [invA, if_pos hw]; exact k.1, h.on k.2⟩
  | false => exact (Inverse_no2 u w h.tabs hw hu).mono fun _ _ k => ⟨by rw [invA, if_neg (by simp [hw])]; exact k.1, h.same k.2⟩
theorem b_rinv (x : ByteArray) (hx : invA u = x) : Calls Tryz.prog 14 #[.string u] w fun e w' => e = .returned (.string x) ∧ St w0 w' := by
  subst hx
  cases hw : isW u.data.toList with
  | true => exact (rInverse_yes u w hw).mono fun _ _ k => ⟨by rw [invA, if_pos hw]; exact k.1, h.on k.2⟩
  | false => exact (rInverse_no u w hw hu).mono fun _ _ k => ⟨by rw [invA, if_neg (by simp [hw])]; exact k.1, h.same k.2⟩
theorem b_red (x : ByteArray) (hx : redA u = x) : Calls Tryz.prog 15 #[.string u] w fun e w' => e = .returned (.string x) ∧ St w0 w' := by
  subst hx
  cases hw : isW u.data.toList with
  | true => have := isW_size hw; exact (Reduce_yes u w h.tabs hw (by omega)).mono fun _ _ k => ⟨by rw [redA, if_pos hw]; exact k.1, h.on k.2⟩
  | false => exact (Reduce_no2 u w h.tabs hw hu).mono fun _ _ k => ⟨by rw [redA, if_neg (by simp [hw])]; exact k.1, h.same k.2⟩
theorem b_rred (x : ByteArray) (hx : redA u = x) : Calls Tryz.prog 16 #[.string u] w fun e w' => e = .returned (.string x) ∧ St w0 w' := by
  subst hx
  cases hw : isW u.data.toList with
  | true => exact (rReduce_yes u w hw).mono fun _ _ k => ⟨by rw [redA, if_pos hw]; exact k.1, h.on k.2⟩
  | false => exact (rReduce_no u w hw hu).mono fun _ _ k => ⟨by rw [redA, if_neg (by simp [hw])]; exact k.1, h.same k.2⟩
theorem b_text (x : ByteArray) (hx : textA u = x) : Calls Tryz.prog 19 #[.string u] w fun e w' => e = .returned (.string x) ∧ St w0 w' := by
  subst hx
  cases hw : isW u.data.toList with
  | true => exact (Text_yes u w h.tabs hw).mono fun _ _ k => ⟨by rw [textA, if_pos hw]; exact k.1, h.on k.2⟩
  | false => exact (Text_no u w h.tabs hw hu).mono fun _ _ k => ⟨by rw [textA, if_neg (by simp [hw])]; exact k.1, h.same k.2⟩
theorem b_rtext (x : ByteArray) (hx : textA u = x) : Calls Tryz.prog 20 #[.string u] w fun e w' => e = .returned (.string x) ∧ St w0 w' := by
  subst hx
  cases hw : isW u.data.toList with
  | true => exact (rText_yes u w h.tabs hw).mono fun _ _ k => ⟨by rw [textA, if_pos hw]; exact k.1, h.on k.2⟩
  | false => exact (rText_no u w hw hu).mono fun _ _ k => ⟨by rw [textA, if_neg (by simp [hw])]; exact k.1, h.same k.2⟩
theorem b_cmp (v : ByteArray) (hv : v.size ≤ maxLen) (n : Int) (hn : cmpW u.data.toList v.data.toList = n) : Calls Tryz.prog 17 #[.string u, .string v] w fun e w' => e = .returned (.int .i64 n) ∧ St w0 w' :=
  (Compare_any u v w h.tabs hu hv).mono fun _ _ k => ⟨by rw [← hn]; exact k.1, by obtain ⟨m, rfl⟩ := k.2; exact h.drewN m⟩
theorem b_rcmp (v : ByteArray) (hv : v.size ≤ maxLen) (n : Int) (hn : cmpW u.data.toList v.data.toList = n) : Calls Tryz.prog 18 #[.string u, .string v] w fun e w' => e = .returned (.int .i64 n) ∧ St w0 w' :=
  (rCompare_any u v w hu hv).mono fun _ _ k => ⟨by rw [← hn]; exact k.1, h.same k.2⟩
end

set_option maxHeartbeats 4000000 in
set_option maxRecDepth 100000 in
theorem basics_any (k n c : Int) (d : UInt8) (hc : c = d.toNat) (u v : ByteArray) (w : World) (ht : Tabs w) (hu : u.size ≤ maxLen) (hv : v.size ≤ maxLen) :
    Calls Tryz.prog 3 #[.int .i64 k, .int .i64 n, .int .u8 c, .string u, .string v] w fun e w' => e = .returned (.bool true) ∧ Below w.heap.size w w' := by
  have h0 : St w w := ⟨ht, Below.refl _ w⟩
  obtain ⟨b, hb⟩ : ∃ b, (shortB u && shortB v) = b := ⟨_, rfl⟩
  obtain ⟨x1, e1⟩ : ∃ x, checkI k u.data.toList = x := ⟨_, rfl⟩
  obtain ⟨x2, e2⟩ : ∃ x, idx d = x := ⟨_, rfl⟩
  obtain ⟨x3, e3⟩ : ∃ x : Int, ((let_ n).toNat : Int) = x := ⟨_, rfl⟩
  obtain ⟨x4, e4⟩ : ∃ x, invA u = x := ⟨_, rfl⟩
  obtain ⟨x5, e5⟩ : ∃ x, redA u = x := ⟨_, rfl⟩
  obtain ⟨x6, e6⟩ : ∃ x, cmpW u.data.toList v.data.toList = x := ⟨_, rfl⟩
  obtain ⟨x7, e7⟩ : ∃ x, textA u = x := ⟨_, rfl⟩
  have E0 := Lib.hid hb
  have E1 := Lib.hid e1
  have E2 := Lib.hid e2
  have E3 := Lib.hid e3
  have E4 := Lib.hid e4
  have E5 := Lib.hid e5
  have E6 := Lib.hid e6
  have E7 := Lib.hid e7
  have HC := Lib.hid hc
  have HU := Lib.hid hu
  have HV := Lib.hid hv
  clear hb e1 e2 e3 e4 e5 e6 e7 hc hu hv ht
  go_enter Tryz.func3, Tryz.ntmps3
  go_wp2_with fail
  refine (b_sane w _ h0).mono ?_; rintro e w1 ⟨rfl, h1⟩; clear h0
  go_wp2_with fail
  refine (b_short w _ h1 u v HU.out HV.out b E0.out).mono ?_; rintro e w2 ⟨rfl, h2⟩; clear h1
  cases b with
  | false =>
    go_wp2
    go_ret
    exact ⟨rfl, h2.below⟩
  | true =>
    go_wp2_with fail
    refine (b_check w _ h2 k u HU.out _ E1.out).mono ?_; rintro e w3 ⟨rfl, h3⟩; clear h2
    go_wp2_with fail
    refine (b_rcheck w _ h3 k u HU.out _ E1.out).mono ?_; rintro e w4 ⟨rfl, h4⟩; clear h3
    go_wp2_with fail
    refine (b_index w _ h4 c d HC.out _ E2.out).mono ?_; rintro e w5 ⟨rfl, h5⟩; clear h4
    go_wp2_with fail
    refine (b_rindex w _ h5 c d HC.out _ E2.out).mono ?_; rintro e w6 ⟨rfl, h6⟩; clear h5
    go_wp2_with fail
    refine (b_letter w _ h6 n _ E3.out).mono ?_; rintro e w7 ⟨rfl, h7⟩; clear h6
    go_wp2_with fail
    refine (b_rletter w _ h7 n _ E3.out).mono ?_; rintro e w8 ⟨rfl, h8⟩; clear h7
    go_wp2_with fail
    refine (b_inv w _ h8 u HU.out _ E4.out).mono ?_; rintro e w9 ⟨rfl, h9⟩; clear h8
    go_wp2_with fail
    refine (b_rinv w _ h9 u HU.out _ E4.out).mono ?_; rintro e w10 ⟨rfl, h10⟩; clear h9
    go_wp2_with fail
    refine (b_red w _ h10 u HU.out _ E5.out).mono ?_; rintro e w11 ⟨rfl, h11⟩; clear h10
    go_wp2_with fail
    refine (b_rred w _ h11 u HU.out _ E5.out).mono ?_; rintro e w12 ⟨rfl, h12⟩; clear h11
    go_wp2_with fail
    refine (b_cmp w _ h12 u HU.out v HV.out _ E6.out).mono ?_; rintro e w13 ⟨rfl, h13⟩; clear h12
    go_wp2_with fail
    refine (b_rcmp w _ h13 u HU.out v HV.out _ E6.out).mono ?_; rintro e w14 ⟨rfl, h14⟩; clear h13
    go_wp2_with fail
    refine (b_text w _ h14 u HU.out _ E7.out).mono ?_; rintro e w15 ⟨rfl, h15⟩; clear h14
    go_wp2_with fail
    refine (b_rtext w _ h15 u HU.out _ E7.out).mono ?_; rintro e w16 ⟨rfl, h16⟩; clear h15
    go_wp2
    go_ret
    exact ⟨rfl, h16.below⟩
end Go.Proofs.YtflieikbhgneoaaGreatDoor
