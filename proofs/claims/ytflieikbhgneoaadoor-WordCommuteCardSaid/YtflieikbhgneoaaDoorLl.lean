/-
  Our own text, in the proofs of the laws of package word (cayleylaw01). Proved here: WordCommute returns true at every two strings. Conditions: the arguments read as the row says and the listed tables lie as the program lays them; none other.
-/
import Derived.Test.YtflieikbhgneoaaDoorLk
import Derived.Test.YtflieikbhgneoaaDoorXg
namespace Go.Proofs.YtflieikbhgneoaaDoor
open Go Go.RowKit

theorem s_root (w0 w : World) (h : St w0 w) (u v : List UInt8) (hu : isW u = true) (hn : rootW u = v) :
    Calls Tryd.prog 15 #[.string ⟨u.toArray⟩] w fun e w' => ∃ n : Int, e = .returned (.tuple #[.string ⟨v.toArray⟩, .int .i64 n]) ∧ St w0 w' := by
  refine (Root_yes ⟨u.toArray⟩ w h.tabs hu).mono ?_
  rintro e w' ⟨rfl, k⟩
  exact ⟨_, by rw [← hn], h.on k⟩
theorem subL {a l : List UInt8} (hl : l.all (letterB 8) = true) (h : ∀ c ∈ a, c ∈ l) : a.all (letterB 8) = true := by
  rw [List.all_eq_true] at hl ⊢; exact fun c hc => hl c (h c hc)
theorem invL {l : List UInt8} (hl : l.all (letterB 8) = true) : (invW l).all (letterB 8) = true := by
  unfold invW
  rw [List.all_reverse, List.all_map, List.all_eq_true]
  intro c hc
  exact letterB_invc (List.all_eq_true.1 hl c hc)
theorem isW_root {u : List UInt8} (h : isW u = true) : isW (rootW u) = true := by
  have hr := isW_red h
  have hl := isW_len hr
  have hs := conj_core_len (red u)
  have ha := isW_all hr
  unfold rootW
  split
  · rfl
  · refine isW_of ?_ ?_
    · rw [List.length_append, List.length_append, invW_len, List.length_take]; omega
    · rw [List.all_append, List.all_append, Bool.and_eq_true, Bool.and_eq_true]
      exact ⟨⟨subL ha fun c hc => List.mem_of_mem_take hc, subL ha fun c hc => List.mem_of_mem_drop (List.mem_of_mem_take (List.mem_of_mem_take hc))⟩, invL (subL ha fun c hc => List.mem_of_mem_take hc)⟩

set_option maxHeartbeats 4000000 in
theorem commute_no (u v : List UInt8) (w : World) (ht : Tabs w) (hs : ∀ l ∈ [u, v], l.length ≤ maxLen) (hok : [u, v].all okW = false) :
    Calls Tryd.prog 5 #[.string ⟨u.toArray⟩, .string ⟨v.toArray⟩] w fun e w' => e = .returned (.bool true) ∧ Below w.heap.size w w' := by
  have h0 : St w w := ⟨ht, Below.refl _ w⟩
  have HS := Lib.hid hs
  have HOK := Lib.hid hok
  clear ht hs hok
  go_enter Tryd.func5, Tryd.ntmps5
  go_wp2_with fail
  refine (s_sane w _ h0).mono ?_; rintro e w1 ⟨rfl, h1⟩; clear h0
  go_wp2_with fail
  refine (words_at w w1 h1 [u, v] _ rfl 2 rfl (by simp) HS.out).mono ?_; rintro e w2 ⟨rfl, h2⟩; clear h1
  rw [HOK.out]
  go_wp2
  go_ret
  exact ⟨rfl, h2.below⟩

set_option maxHeartbeats 8000000 in
theorem commute_yes (u v : List UInt8) (w : World) (ht : Tabs w) (hok : [u, v].all okW = true) :
    Calls Tryd.prog 5 #[.string ⟨u.toArray⟩, .string ⟨v.toArray⟩] w fun e w' => e = .returned (.bool true) ∧ Below w.heap.size w w' := by
  have h0 : St w w := ⟨ht, Below.refl _ w⟩
  have hok2 := hok
  simp only [List.all_cons, List.all_nil, Bool.and_eq_true, Bool.and_true] at hok2
  obtain ⟨ku, kv⟩ := hok2
  have lu := okW_len ku
  have lv := okW_len kv
  have HS : Hid (∀ l ∈ [u, v], l.length ≤ maxLen) := Lib.hid (by intro l hl; simp at hl; unfold maxLen; rcases hl with rfl | rfl <;> omega)
  have HOK := Lib.hid hok
  have IU := Lib.hid (okW_isW ku)
  have IV := Lib.hid (okW_isW kv)
  have IS := Lib.hid (isW_root IV.out)
  have I1 := Lib.hid (isW_app IU.out IV.out (by omega))
  have I2 := Lib.hid (isW_app IV.out IU.out (by omega))
  have HC := Lib.hid (comm_iff u v)
  have HE := Lib.hid (rootW_nil (l := u))
  have c1 := catB u v _ rfl
  have c2 := catB v u _ rfl
  clear ht hok ku kv
  generalize hP : red (u ++ v) = P at *
  generalize hQ : red (v ++ u) = Q at *
  generalize hR : red u = R at *
  generalize u ++ v = uv at *
  generalize v ++ u = vu at *
  generalize hr : rootW u = r at *
  generalize hs : rootW v = s at *
  generalize hi : invW s = si at *
  have KP := Lib.hid hP
  have KQ := Lib.hid hQ
  have KU := Lib.hid hR
  have KR := Lib.hid hr
  have KS := Lib.hid hs
  have KI := Lib.hid hi
  clear hP hQ hR hr hs hi
  by_cases e1 : r = []
  · obtain rfl := HC.out.2 (.inl e1)
    obtain rfl := HE.out.1 e1
    subst e1
    go_enter Tryd.func5, Tryd.ntmps5
    go_wp2_with fail
    refine (s_sane w _ h0).mono ?_; rintro e w1 ⟨rfl, h1⟩; clear h0
    go_wp2_with fail
    refine (words_at w w1 h1 [u, v] _ rfl 2 rfl (by simp) HS.out).mono ?_; rintro e w2 ⟨rfl, h2⟩; clear h1
    rw [HOK.out]
    go_wp2_with fail
    refine (s_root w _ h2 u [] IU.out KR.out).mono ?_; rintro e w3 ⟨n1, rfl, h3⟩; clear h2
    go_wp2_with fail
    refine (s_root w _ h3 v s IV.out KS.out).mono ?_; rintro e w4 ⟨n2, rfl, h4⟩; clear h3
    go_wp2_with fail
    refine (s_red w _ h4 uv _ I1.out KP.out).mono ?_; rintro e w5 ⟨rfl, h5⟩; clear h4
    go_wp2_with fail
    refine (s_red w _ h5 vu _ I2.out KQ.out).mono ?_; rintro e w6 ⟨rfl, h6⟩; clear h5
    go_wp2_with fail
    refine (s_red w _ h6 u _ IU.out KU.out).mono ?_; rintro e w7 ⟨rfl, h7⟩; clear h6
    go_wp2
    go_ret
    exact ⟨rfl, h7.below⟩
  have e1b : (r == []) = false := by simpa using e1
  have e1c : r.isEmpty = false := by cases r with | nil => exact absurd rfl e1 | cons a t => rfl
  have hR0 : R ≠ [] := fun e => e1 (HE.out.2 e)
  have hRb : (R == []) = false := by simpa using hR0
  have hRc : R.isEmpty = false := by cases R with | nil => exact absurd rfl hR0 | cons a t => rfl
  by_cases e2 : s = []
  · obtain rfl := HC.out.2 (.inr (.inl e2))
    subst e2
    clear e1 hR0
    go_enter Tryd.func5, Tryd.ntmps5
    go_wp2_with fail
    refine (s_sane w _ h0).mono ?_; rintro e w1 ⟨rfl, h1⟩; clear h0
    go_wp2_with fail
    refine (words_at w w1 h1 [u, v] _ rfl 2 rfl (by simp) HS.out).mono ?_; rintro e w2 ⟨rfl, h2⟩; clear h1
    rw [HOK.out]
    go_wp2_with fail
    refine (s_root w _ h2 u r IU.out KR.out).mono ?_; rintro e w3 ⟨n1, rfl, h3⟩; clear h2
    go_wp2_with fail
    refine (s_root w _ h3 v [] IV.out KS.out).mono ?_; rintro e w4 ⟨n2, rfl, h4⟩; clear h3
    go_wp2_with fail
    refine (s_red w _ h4 uv _ I1.out KP.out).mono ?_; rintro e w5 ⟨rfl, h5⟩; clear h4
    go_wp2_with fail
    refine (s_red w _ h5 vu _ I2.out KQ.out).mono ?_; rintro e w6 ⟨rfl, h6⟩; clear h5
    go_wp2_with fail
    refine (s_red w _ h6 u _ IU.out KU.out).mono ?_; rintro e w7 ⟨rfl, h7⟩; clear h6
    go_wp2
    go_ret
    exact ⟨rfl, h7.below⟩
  have e2b : (s == []) = false := by simpa using e2
  have e2c : s.isEmpty = false := by cases s with | nil => exact absurd rfl e2 | cons a t => rfl
  by_cases e3 : r = s
  · obtain rfl := HC.out.2 (.inr (.inr (.inl e3)))
    subst e3
    clear e1 hR0 e2
    go_enter Tryd.func5, Tryd.ntmps5
    go_wp2_with fail
    refine (s_sane w _ h0).mono ?_; rintro e w1 ⟨rfl, h1⟩; clear h0
    go_wp2_with fail
    refine (words_at w w1 h1 [u, v] _ rfl 2 rfl (by simp) HS.out).mono ?_; rintro e w2 ⟨rfl, h2⟩; clear h1
    rw [HOK.out]
    go_wp2_with fail
    refine (s_root w _ h2 u r IU.out KR.out).mono ?_; rintro e w3 ⟨n1, rfl, h3⟩; clear h2
    go_wp2_with fail
    refine (s_root w _ h3 v r IV.out KS.out).mono ?_; rintro e w4 ⟨n2, rfl, h4⟩; clear h3
    go_wp2_with fail
    refine (s_red w _ h4 uv _ I1.out KP.out).mono ?_; rintro e w5 ⟨rfl, h5⟩; clear h4
    go_wp2_with fail
    refine (s_red w _ h5 vu _ I2.out KQ.out).mono ?_; rintro e w6 ⟨rfl, h6⟩; clear h5
    go_wp2_with fail
    refine (s_red w _ h6 u _ IU.out KU.out).mono ?_; rintro e w7 ⟨rfl, h7⟩; clear h6
    go_wp2
    go_ret
    exact ⟨rfl, h7.below⟩
  have e3b : (r == s) = false := by simpa using e3
  by_cases e4 : r = si
  · obtain rfl := HC.out.2 (.inr (.inr (.inr e4)))
    subst e4
    clear e1 hR0 e2 e3
    go_enter Tryd.func5, Tryd.ntmps5
    go_wp2_with fail
    refine (s_sane w _ h0).mono ?_; rintro e w1 ⟨rfl, h1⟩; clear h0
    go_wp2_with fail
    refine (words_at w w1 h1 [u, v] _ rfl 2 rfl (by simp) HS.out).mono ?_; rintro e w2 ⟨rfl, h2⟩; clear h1
    rw [HOK.out]
    go_wp2_with fail
    refine (s_root w _ h2 u _ IU.out KR.out).mono ?_; rintro e w3 ⟨n1, rfl, h3⟩; clear h2
    go_wp2_with fail
    refine (s_root w _ h3 v s IV.out KS.out).mono ?_; rintro e w4 ⟨n2, rfl, h4⟩; clear h3
    go_wp2_with fail
    refine (s_invW w _ h4 s _ IS.out KI.out).mono ?_; rintro e w5 ⟨rfl, h5⟩; clear h4
    go_wp2_with fail
    refine (s_red w _ h5 uv _ I1.out KP.out).mono ?_; rintro e w6 ⟨rfl, h6⟩; clear h5
    go_wp2_with fail
    refine (s_red w _ h6 vu _ I2.out KQ.out).mono ?_; rintro e w7 ⟨rfl, h7⟩; clear h6
    go_wp2_with fail
    refine (s_red w _ h7 u _ IU.out KU.out).mono ?_; rintro e w8 ⟨rfl, h8⟩; clear h7
    go_wp2
    go_ret
    exact ⟨rfl, h8.below⟩
  · have e4b : (r == si) = false := by simpa using e4
    have hPQ : P ≠ Q := fun e => by
      rcases HC.out.1 e with h | h | h | h
      · exact e1 h
      · exact e2 h
      · exact e3 h
      · exact e4 h
    have hPb : (P == Q) = false := by simpa using hPQ
    clear e1 hR0 e2 e3 e4 hPQ
    go_enter Tryd.func5, Tryd.ntmps5
    go_wp2_with fail
    refine (s_sane w _ h0).mono ?_; rintro e w1 ⟨rfl, h1⟩; clear h0
    go_wp2_with fail
    refine (words_at w w1 h1 [u, v] _ rfl 2 rfl (by simp) HS.out).mono ?_; rintro e w2 ⟨rfl, h2⟩; clear h1
    rw [HOK.out]
    go_wp2_with fail
    refine (s_root w _ h2 u r IU.out KR.out).mono ?_; rintro e w3 ⟨n1, rfl, h3⟩; clear h2
    go_wp2_with fail
    refine (s_root w _ h3 v s IV.out KS.out).mono ?_; rintro e w4 ⟨n2, rfl, h4⟩; clear h3
    go_wp2_with fail
    refine (s_invW w _ h4 s si IS.out KI.out).mono ?_; rintro e w5 ⟨rfl, h5⟩; clear h4
    go_wp2_with fail
    refine (s_red w _ h5 uv P I1.out KP.out).mono ?_; rintro e w6 ⟨rfl, h6⟩; clear h5
    go_wp2_with fail
    refine (s_red w _ h6 vu Q I2.out KQ.out).mono ?_; rintro e w7 ⟨rfl, h7⟩; clear h6
    go_wp2_with fail
    refine (s_red w _ h7 u R IU.out KU.out).mono ?_; rintro e w8 ⟨rfl, h8⟩; clear h7
    go_wp2
    go_ret
    exact ⟨rfl, h8.below⟩
end Go.Proofs.YtflieikbhgneoaaDoor
