/-
  Our own text, in the proofs of the laws of package word (cayleylaw01). Proved here: WordConjugacy returns true at every four strings. Conditions: the arguments read as the row says and the listed tables lie as the program lays them; none other.
-/
import Derived.Test.YtflieikbhgneoaaDoorLd
namespace Go.Proofs.YtflieikbhgneoaaDoor
open Go Go.RowKit

theorem s_form (w0 w : World) (h : St w0 w) (u v : List UInt8) (hu : isW u = true) (hn : formW u = v) :
    Calls Tryd.prog 17 #[.string ⟨u.toArray⟩] w fun e w' => e = .returned (.string ⟨v.toArray⟩) ∧ St w0 w' := by
  have hl := isW_len hu
  refine (Form_yes ⟨u.toArray⟩ w h.tabs hu (by rw [size_mk]; omega)).mono ?_
  rintro e w' ⟨rfl, k⟩
  exact ⟨by rw [← hn], h.on k⟩
theorem s_conjY (w0 w : World) (h : St w0 w) (u v x : List UInt8) (hu : isW u = true) (hv : isW v = true) (hf : formW u = formW v) (hx : conjX u v = x) :
    Calls Tryd.prog 16 #[.string ⟨u.toArray⟩, .string ⟨v.toArray⟩] w fun e w' => e = .returned (.tuple #[.string ⟨x.toArray⟩, .bool true]) ∧ St w0 w' := by
  refine (Conj_yes ⟨u.toArray⟩ ⟨v.toArray⟩ w h.tabs hu hv hf).mono ?_
  rintro e w' ⟨rfl, k⟩
  exact ⟨by rw [← hx], h.on k⟩
theorem s_conjB (w0 w : World) (h : St w0 w) (u v : List UInt8) (hu : isW u = true) (hv : isW v = true) (b : Bool) (hb : (formW u == formW v) = b) :
    Calls Tryd.prog 16 #[.string ⟨u.toArray⟩, .string ⟨v.toArray⟩] w fun e w' => ∃ x : ByteArray, e = .returned (.tuple #[.string x, .bool b]) ∧ St w0 w' := by
  have hl := isW_len hu
  have hl2 := isW_len hv
  cases b with
  | true =>
    refine (Conj_yes ⟨u.toArray⟩ ⟨v.toArray⟩ w h.tabs hu hv (by simpa using hb)).mono ?_
    rintro e w' ⟨rfl, k⟩
    exact ⟨_, rfl, h.on k⟩
  | false =>
    refine (Conj_no3 ⟨u.toArray⟩ ⟨v.toArray⟩ w h.tabs (by rw [size_mk]; omega) (by rw [size_mk]; omega) hu hv (by simpa using hb)).mono ?_
    rintro e w' ⟨rfl, k⟩
    exact ⟨_, rfl, h.on k⟩

theorem allL_sub {a l : List UInt8} (hl : l.all (letterB 8) = true) (h : ∀ c ∈ a, c ∈ l) : a.all (letterB 8) = true := by
  rw [List.all_eq_true] at hl ⊢; exact fun c hc => hl c (h c hc)
theorem allL_inv {l : List UInt8} (hl : l.all (letterB 8) = true) : (invW l).all (letterB 8) = true := by
  unfold invW
  rw [List.all_reverse, List.all_map, List.all_eq_true]
  intro c hc
  exact letterB_invc (List.all_eq_true.1 hl c hc)
theorem allL_red {l : List UInt8} (hl : l.all (letterB 8) = true) : (red l).all (letterB 8) = true := by
  have h1 := run_mem (p := letterB 8) l [] rfl hl
  unfold red; rw [List.all_reverse]; exact h1
theorem conjX_all {u v : List UInt8} (hu : u.all (letterB 8) = true) (hv : v.all (letterB 8) = true) : (conjX u v).all (letterB 8) = true := by
  unfold conjX
  refine allL_red ?_
  rw [List.all_append, List.all_append, Bool.and_eq_true, Bool.and_eq_true]
  refine ⟨⟨allL_sub (allL_red hu) (fun c hc => List.mem_of_mem_take hc), allL_inv (allL_sub (allL_red hv) fun c hc => ?_)⟩, allL_inv (allL_sub (allL_red hv) (fun c hc => List.mem_of_mem_take hc))⟩
  exact List.mem_of_mem_drop (List.mem_of_mem_take (List.mem_of_mem_take hc))
theorem conjX_len (u v : List UInt8) : (conjX u v).length ≤ u.length + 2 * v.length := by
  unfold conjX
  refine Nat.le_trans (red_len _) ?_
  have a1 : (conjW (red u)).length ≤ u.length := by
    have := red_len u
    unfold conjW; rw [List.length_take]; omega
  have a2 : (conjW (red v)).length ≤ v.length := by
    have := red_len v
    unfold conjW; rw [List.length_take]; omega
  have a3 := coreW_len (red v)
  have a4 := red_len v
  rw [List.length_append, List.length_append, invW_len, invW_len, List.length_take]
  omega

set_option maxHeartbeats 4000000 in
theorem conjugacy_no (u v z x : List UInt8) (w : World) (ht : Tabs w) (hs : ∀ l ∈ [u, v, z, x], l.length ≤ maxLen) (hok : [u, v, z, x].all okW = false) :
    Calls Tryd.prog 6 #[.string ⟨u.toArray⟩, .string ⟨v.toArray⟩, .string ⟨z.toArray⟩, .string ⟨x.toArray⟩] w fun e w' => e = .returned (.bool true) ∧ Below w.heap.size w w' := by
  have h0 : St w w := ⟨ht, Below.refl _ w⟩
  have HS := Lib.hid hs
  have HOK := Lib.hid hok
  clear ht hs hok
  go_enter Tryd.func6, Tryd.ntmps6
  go_wp2_with fail
  refine (s_sane w _ h0).mono ?_; rintro e w1 ⟨rfl, h1⟩; clear h0
  go_wp2_with fail
  refine (words_at w w1 h1 [u, v, z, x] _ rfl 4 rfl (by simp) HS.out).mono ?_; rintro e w2 ⟨rfl, h2⟩; clear h1
  rw [HOK.out]
  go_wp2
  go_ret
  exact ⟨rfl, h2.below⟩

set_option maxHeartbeats 8000000 in
theorem conjugacy_yes (u v z x : List UInt8) (w : World) (ht : Tabs w) (hok : [u, v, z, x].all okW = true) :
    Calls Tryd.prog 6 #[.string ⟨u.toArray⟩, .string ⟨v.toArray⟩, .string ⟨z.toArray⟩, .string ⟨x.toArray⟩] w fun e w' => e = .returned (.bool true) ∧ Below w.heap.size w w' := by
  have h0 : St w w := ⟨ht, Below.refl _ w⟩
  have hok2 := hok
  simp only [List.all_cons, List.all_nil, Bool.and_eq_true, Bool.and_true] at hok2
  obtain ⟨ku, kv, kz, kx⟩ := hok2
  have lu := okW_len ku
  have lv := okW_len kv
  have lz := okW_len kz
  have lx := okW_len kx
  have HS : Hid (∀ l ∈ [u, v, z, x], l.length ≤ maxLen) := Lib.hid (by intro l hl; simp at hl; unfold maxLen; rcases hl with rfl | rfl | rfl | rfl <;> omega)
  have HOK := Lib.hid hok
  have IU := Lib.hid (okW_isW ku)
  have IV := Lib.hid (okW_isW kv)
  have IZ := Lib.hid (okW_isW kz)
  have IX := Lib.hid (okW_isW kx)
  have lix := invW_len x
  have IP := Lib.hid (isW_app (isW_app IX.out IU.out (by omega)) (isW_invW IX.out) (by simp only [List.length_append]; omega))
  have lp : (x ++ u ++ invW x).length ≤ 3000 := by simp only [List.length_append]; omega
  have ly := conjX_len (x ++ u ++ invW x) u
  have IY : Hid (isW (conjX (x ++ u ++ invW x) u) = true) := Lib.hid (isW_of (by omega) (conjX_all (isW_all IP.out) (isW_all IU.out)))
  have liy := invW_len (conjX (x ++ u ++ invW x) u)
  have IQ := Lib.hid (isW_app (isW_app IY.out IU.out (by omega)) (isW_invW IY.out) (by simp only [List.length_append] at *; omega))
  have hfp := form_conj x u (isW_ltr IU.out) (isW_ltr IX.out)
  have FP : Hid (formW (x ++ u ++ invW x) = formW u) := Lib.hid hfp
  have RQ : Hid (red (conjX (x ++ u ++ invW x) u ++ u ++ invW (conjX (x ++ u ++ invW x) u)) = red (x ++ u ++ invW x)) := Lib.hid (conjX_conj _ _ hfp)
  have c1 := catB x u _ rfl
  have c2 := catB (x ++ u) (invW x) _ rfl
  have c3 := catB (conjX (x ++ u ++ invW x) u) u _ rfl
  have c4 := catB (conjX (x ++ u ++ invW x) u ++ u) (invW (conjX (x ++ u ++ invW x) u)) _ rfl
  have ly2 : (conjX (x ++ u ++ invW x) u).length ≤ 5000 := by omega
  have lxu : (x ++ u).length ≤ 2000 := by simp; omega
  have lyu : (conjX (x ++ u ++ invW x) u ++ u).length ≤ 6000 := by rw [List.length_append]; omega
  obtain ⟨a, hA⟩ : ∃ a, (formW u == formW v) = a := ⟨_, rfl⟩
  obtain ⟨c, hC⟩ : ∃ c, (formW v == formW z) = c := ⟨_, rfl⟩
  obtain ⟨d, hD⟩ : ∃ d, (formW u == formW z) = d := ⟨_, rfl⟩
  have BA := Lib.hid hA
  have BC := Lib.hid hC
  have BD := Lib.hid hD
  have BA' : Hid ((formW v == formW u) = a) := Lib.hid (by rw [← hA, Bool.beq_comm])
  have TR : Hid (a = true → c = true → d = true) := Lib.hid (by
    rintro rfl rfl
    simp only [beq_iff_eq] at hA hC
    rw [← hD, hA, hC]; simp)
  have TR2 : Hid (a = true → c = false → d = false) := Lib.hid (by
    rintro rfl rfl
    simp only [beq_iff_eq] at hA
    rw [← hD, hA]; exact hC)
  clear ht hok ku kv kz kx hfp hC hD ly
  generalize conjX (x ++ u ++ invW x) u ++ u ++ invW (conjX (x ++ u ++ invW x) u) = q at *
  generalize hyu : conjX (x ++ u ++ invW x) u ++ u = yu at *
  generalize hp : x ++ u ++ invW x = p at *
  generalize x ++ u = xu at *
  generalize hy : conjX p u = y at *
  generalize hix : invW x = ix at *
  generalize hiy : invW y = iy at *
  generalize hR : red p = R at *
  have FPU : Hid (formW p = formW u) := FP
  generalize hfu : formW u = fu at *
  generalize hfv : formW v = fv at *
  have FU : Hid (formW u = fu) := hfu
  have FV : Hid (formW v = fv) := hfv
  have KX : Hid (invW x = ix) := hix
  have KY : Hid (conjX p u = y) := hy
  have KIY : Hid (invW y = iy) := hiy
  have RP : Hid (red p = R) := hR
  have FP : Hid (formW p = formW u) := Lib.hid (by rw [FPU.out, FU.out])
  have BA : Hid ((formW u == formW v) = a) := Lib.hid (by rw [FU.out, FV.out]; exact BA.out)
  have BA' : Hid ((formW v == formW u) = a) := Lib.hid (by rw [FU.out, FV.out]; exact BA'.out)
  have BC : Hid ((formW v == formW z) = c) := Lib.hid (by rw [FV.out]; exact BC.out)
  have BD : Hid ((formW u == formW z) = d) := Lib.hid (by rw [FU.out]; exact BD.out)
  clear hyu hp hy hix hiy hR hfu hfv
  cases a with
  | true =>
    cases c with
    | true =>
      obtain rfl : d = true := TR.out rfl rfl
      go_enter Tryd.func6, Tryd.ntmps6
      go_wp2_with fail
      refine (s_sane w _ h0).mono ?_; rintro e w1 ⟨rfl, h1⟩; clear h0
      go_wp2_with fail
      refine (words_at w w1 h1 [u, v, z, x] _ rfl 4 rfl (by simp) HS.out).mono ?_; rintro e w2 ⟨rfl, h2⟩; clear h1
      rw [HOK.out]
      go_wp2_with fail
      refine (s_conjB w _ h2 u v IU.out IV.out _ BA.out).mono ?_; rintro e w3 ⟨x1, rfl, h3⟩; clear h2
      go_wp2_with fail
      refine (s_conjB w _ h3 v u IV.out IU.out _ BA'.out).mono ?_; rintro e w4 ⟨x2, rfl, h4⟩; clear h3
      go_wp2_with fail
      refine (s_conjB w _ h4 v z IV.out IZ.out _ BC.out).mono ?_; rintro e w5 ⟨x3, rfl, h5⟩; clear h4
      go_wp2_with fail
      refine (s_conjB w _ h5 u z IU.out IZ.out _ BD.out).mono ?_; rintro e w6 ⟨x4, rfl, h6⟩; clear h5
      go_wp2_with fail
      refine (s_form w _ h6 u fu IU.out FU.out).mono ?_; rintro e w7 ⟨rfl, h7⟩; clear h6
      go_wp2_with fail
      refine (s_form w _ h7 v fv IV.out FV.out).mono ?_; rintro e w8 ⟨rfl, h8⟩; clear h7
      go_wp2_with fail
      refine (s_invW w _ h8 x ix IX.out KX.out).mono ?_; rintro e w9 ⟨rfl, h9⟩; clear h8
      go_wp2_with fail
      refine (s_conjY w _ h9 p u y IP.out IU.out FP.out KY.out).mono ?_; rintro e w10 ⟨rfl, h10⟩; clear h9
      go_wp2_with fail
      refine (s_invW w _ h10 y iy IY.out KIY.out).mono ?_; rintro e w11 ⟨rfl, h11⟩; clear h10
      go_wp2_with fail
      refine (s_red w _ h11 q R IQ.out RQ.out).mono ?_; rintro e w12 ⟨rfl, h12⟩; clear h11
      go_wp2_with fail
      refine (s_invW w _ h12 x ix IX.out KX.out).mono ?_; rintro e w13 ⟨rfl, h13⟩; clear h12
      go_wp2_with fail
      refine (s_red w _ h13 p R IP.out RP.out).mono ?_; rintro e w14 ⟨rfl, h14⟩; clear h13
      go_wp2_with fail
      refine (s_invW w _ h14 x ix IX.out KX.out).mono ?_; rintro e w15 ⟨rfl, h15⟩; clear h14
      go_wp2_with fail
      refine (s_form w _ h15 p fu IP.out FPU.out).mono ?_; rintro e w16 ⟨rfl, h16⟩; clear h15
      go_wp2_with fail
      refine (s_form w _ h16 u fu IU.out FU.out).mono ?_; rintro e w17 ⟨rfl, h17⟩; clear h16
      go_wp2
      go_ret
      exact ⟨rfl, h17.below⟩
    | false =>
      obtain rfl : d = false := TR2.out rfl rfl
      go_enter Tryd.func6, Tryd.ntmps6
      go_wp2_with fail
      refine (s_sane w _ h0).mono ?_; rintro e w1 ⟨rfl, h1⟩; clear h0
      go_wp2_with fail
      refine (words_at w w1 h1 [u, v, z, x] _ rfl 4 rfl (by simp) HS.out).mono ?_; rintro e w2 ⟨rfl, h2⟩; clear h1
      rw [HOK.out]
      go_wp2_with fail
      refine (s_conjB w _ h2 u v IU.out IV.out _ BA.out).mono ?_; rintro e w3 ⟨x1, rfl, h3⟩; clear h2
      go_wp2_with fail
      refine (s_conjB w _ h3 v u IV.out IU.out _ BA'.out).mono ?_; rintro e w4 ⟨x2, rfl, h4⟩; clear h3
      go_wp2_with fail
      refine (s_conjB w _ h4 v z IV.out IZ.out _ BC.out).mono ?_; rintro e w5 ⟨x3, rfl, h5⟩; clear h4
      go_wp2_with fail
      refine (s_conjB w _ h5 u z IU.out IZ.out _ BD.out).mono ?_; rintro e w6 ⟨x4, rfl, h6⟩; clear h5
      go_wp2_with fail
      refine (s_form w _ h6 u fu IU.out FU.out).mono ?_; rintro e w7 ⟨rfl, h7⟩; clear h6
      go_wp2_with fail
      refine (s_form w _ h7 v fv IV.out FV.out).mono ?_; rintro e w8 ⟨rfl, h8⟩; clear h7
      go_wp2_with fail
      refine (s_invW w _ h8 x ix IX.out KX.out).mono ?_; rintro e w9 ⟨rfl, h9⟩; clear h8
      go_wp2_with fail
      refine (s_conjY w _ h9 p u y IP.out IU.out FP.out KY.out).mono ?_; rintro e w10 ⟨rfl, h10⟩; clear h9
      go_wp2_with fail
      refine (s_invW w _ h10 y iy IY.out KIY.out).mono ?_; rintro e w11 ⟨rfl, h11⟩; clear h10
      go_wp2_with fail
      refine (s_red w _ h11 q R IQ.out RQ.out).mono ?_; rintro e w12 ⟨rfl, h12⟩; clear h11
      go_wp2_with fail
      refine (s_invW w _ h12 x ix IX.out KX.out).mono ?_; rintro e w13 ⟨rfl, h13⟩; clear h12
      go_wp2_with fail
      refine (s_red w _ h13 p R IP.out RP.out).mono ?_; rintro e w14 ⟨rfl, h14⟩; clear h13
      go_wp2_with fail
      refine (s_invW w _ h14 x ix IX.out KX.out).mono ?_; rintro e w15 ⟨rfl, h15⟩; clear h14
      go_wp2_with fail
      refine (s_form w _ h15 p fu IP.out FPU.out).mono ?_; rintro e w16 ⟨rfl, h16⟩; clear h15
      go_wp2_with fail
      refine (s_form w _ h16 u fu IU.out FU.out).mono ?_; rintro e w17 ⟨rfl, h17⟩; clear h16
      go_wp2
      go_ret
      exact ⟨rfl, h17.below⟩
  | false =>
    cases c with
    | true =>
      cases d with
      | true =>
        go_enter Tryd.func6, Tryd.ntmps6
        go_wp2_with fail
        refine (s_sane w _ h0).mono ?_; rintro e w1 ⟨rfl, h1⟩; clear h0
        go_wp2_with fail
        refine (words_at w w1 h1 [u, v, z, x] _ rfl 4 rfl (by simp) HS.out).mono ?_; rintro e w2 ⟨rfl, h2⟩; clear h1
        rw [HOK.out]
        go_wp2_with fail
        refine (s_conjB w _ h2 u v IU.out IV.out _ BA.out).mono ?_; rintro e w3 ⟨x1, rfl, h3⟩; clear h2
        go_wp2_with fail
        refine (s_conjB w _ h3 v u IV.out IU.out _ BA'.out).mono ?_; rintro e w4 ⟨x2, rfl, h4⟩; clear h3
        go_wp2_with fail
        refine (s_conjB w _ h4 v z IV.out IZ.out _ BC.out).mono ?_; rintro e w5 ⟨x3, rfl, h5⟩; clear h4
        go_wp2_with fail
        refine (s_conjB w _ h5 u z IU.out IZ.out _ BD.out).mono ?_; rintro e w6 ⟨x4, rfl, h6⟩; clear h5
        go_wp2_with fail
        refine (s_form w _ h6 u fu IU.out FU.out).mono ?_; rintro e w7 ⟨rfl, h7⟩; clear h6
        go_wp2_with fail
        refine (s_form w _ h7 v fv IV.out FV.out).mono ?_; rintro e w8 ⟨rfl, h8⟩; clear h7
        go_wp2_with fail
        refine (s_invW w _ h8 x ix IX.out KX.out).mono ?_; rintro e w9 ⟨rfl, h9⟩; clear h8
        go_wp2_with fail
        refine (s_conjY w _ h9 p u y IP.out IU.out FP.out KY.out).mono ?_; rintro e w10 ⟨rfl, h10⟩; clear h9
        go_wp2_with fail
        refine (s_invW w _ h10 y iy IY.out KIY.out).mono ?_; rintro e w11 ⟨rfl, h11⟩; clear h10
        go_wp2_with fail
        refine (s_red w _ h11 q R IQ.out RQ.out).mono ?_; rintro e w12 ⟨rfl, h12⟩; clear h11
        go_wp2_with fail
        refine (s_invW w _ h12 x ix IX.out KX.out).mono ?_; rintro e w13 ⟨rfl, h13⟩; clear h12
        go_wp2_with fail
        refine (s_red w _ h13 p R IP.out RP.out).mono ?_; rintro e w14 ⟨rfl, h14⟩; clear h13
        go_wp2_with fail
        refine (s_invW w _ h14 x ix IX.out KX.out).mono ?_; rintro e w15 ⟨rfl, h15⟩; clear h14
        go_wp2_with fail
        refine (s_form w _ h15 p fu IP.out FPU.out).mono ?_; rintro e w16 ⟨rfl, h16⟩; clear h15
        go_wp2_with fail
        refine (s_form w _ h16 u fu IU.out FU.out).mono ?_; rintro e w17 ⟨rfl, h17⟩; clear h16
        go_wp2
        go_ret
        exact ⟨rfl, h17.below⟩
      | false =>
        go_enter Tryd.func6, Tryd.ntmps6
        go_wp2_with fail
        refine (s_sane w _ h0).mono ?_; rintro e w1 ⟨rfl, h1⟩; clear h0
        go_wp2_with fail
        refine (words_at w w1 h1 [u, v, z, x] _ rfl 4 rfl (by simp) HS.out).mono ?_; rintro e w2 ⟨rfl, h2⟩; clear h1
        rw [HOK.out]
        go_wp2_with fail
        refine (s_conjB w _ h2 u v IU.out IV.out _ BA.out).mono ?_; rintro e w3 ⟨x1, rfl, h3⟩; clear h2
        go_wp2_with fail
        refine (s_conjB w _ h3 v u IV.out IU.out _ BA'.out).mono ?_; rintro e w4 ⟨x2, rfl, h4⟩; clear h3
        go_wp2_with fail
        refine (s_conjB w _ h4 v z IV.out IZ.out _ BC.out).mono ?_; rintro e w5 ⟨x3, rfl, h5⟩; clear h4
        go_wp2_with fail
        refine (s_conjB w _ h5 u z IU.out IZ.out _ BD.out).mono ?_; rintro e w6 ⟨x4, rfl, h6⟩; clear h5
        go_wp2_with fail
        refine (s_form w _ h6 u fu IU.out FU.out).mono ?_; rintro e w7 ⟨rfl, h7⟩; clear h6
        go_wp2_with fail
        refine (s_form w _ h7 v fv IV.out FV.out).mono ?_; rintro e w8 ⟨rfl, h8⟩; clear h7
        go_wp2_with fail
        refine (s_invW w _ h8 x ix IX.out KX.out).mono ?_; rintro e w9 ⟨rfl, h9⟩; clear h8
        go_wp2_with fail
        refine (s_conjY w _ h9 p u y IP.out IU.out FP.out KY.out).mono ?_; rintro e w10 ⟨rfl, h10⟩; clear h9
        go_wp2_with fail
        refine (s_invW w _ h10 y iy IY.out KIY.out).mono ?_; rintro e w11 ⟨rfl, h11⟩; clear h10
        go_wp2_with fail
        refine (s_red w _ h11 q R IQ.out RQ.out).mono ?_; rintro e w12 ⟨rfl, h12⟩; clear h11
        go_wp2_with fail
        refine (s_invW w _ h12 x ix IX.out KX.out).mono ?_; rintro e w13 ⟨rfl, h13⟩; clear h12
        go_wp2_with fail
        refine (s_red w _ h13 p R IP.out RP.out).mono ?_; rintro e w14 ⟨rfl, h14⟩; clear h13
        go_wp2_with fail
        refine (s_invW w _ h14 x ix IX.out KX.out).mono ?_; rintro e w15 ⟨rfl, h15⟩; clear h14
        go_wp2_with fail
        refine (s_form w _ h15 p fu IP.out FPU.out).mono ?_; rintro e w16 ⟨rfl, h16⟩; clear h15
        go_wp2_with fail
        refine (s_form w _ h16 u fu IU.out FU.out).mono ?_; rintro e w17 ⟨rfl, h17⟩; clear h16
        go_wp2
        go_ret
        exact ⟨rfl, h17.below⟩
    | false =>
      cases d with
      | true =>
        go_enter Tryd.func6, Tryd.ntmps6
        go_wp2_with fail
        refine (s_sane w _ h0).mono ?_; rintro e w1 ⟨rfl, h1⟩; clear h0
        go_wp2_with fail
        refine (words_at w w1 h1 [u, v, z, x] _ rfl 4 rfl (by simp) HS.out).mono ?_; rintro e w2 ⟨rfl, h2⟩; clear h1
        rw [HOK.out]
        go_wp2_with fail
        refine (s_conjB w _ h2 u v IU.out IV.out _ BA.out).mono ?_; rintro e w3 ⟨x1, rfl, h3⟩; clear h2
        go_wp2_with fail
        refine (s_conjB w _ h3 v u IV.out IU.out _ BA'.out).mono ?_; rintro e w4 ⟨x2, rfl, h4⟩; clear h3
        go_wp2_with fail
        refine (s_conjB w _ h4 v z IV.out IZ.out _ BC.out).mono ?_; rintro e w5 ⟨x3, rfl, h5⟩; clear h4
        go_wp2_with fail
        refine (s_conjB w _ h5 u z IU.out IZ.out _ BD.out).mono ?_; rintro e w6 ⟨x4, rfl, h6⟩; clear h5
        go_wp2_with fail
        refine (s_form w _ h6 u fu IU.out FU.out).mono ?_; rintro e w7 ⟨rfl, h7⟩; clear h6
        go_wp2_with fail
        refine (s_form w _ h7 v fv IV.out FV.out).mono ?_; rintro e w8 ⟨rfl, h8⟩; clear h7
        go_wp2_with fail
        refine (s_invW w _ h8 x ix IX.out KX.out).mono ?_; rintro e w9 ⟨rfl, h9⟩; clear h8
        go_wp2_with fail
        refine (s_conjY w _ h9 p u y IP.out IU.out FP.out KY.out).mono ?_; rintro e w10 ⟨rfl, h10⟩; clear h9
        go_wp2_with fail
        refine (s_invW w _ h10 y iy IY.out KIY.out).mono ?_; rintro e w11 ⟨rfl, h11⟩; clear h10
        go_wp2_with fail
        refine (s_red w _ h11 q R IQ.out RQ.out).mono ?_; rintro e w12 ⟨rfl, h12⟩; clear h11
        go_wp2_with fail
        refine (s_invW w _ h12 x ix IX.out KX.out).mono ?_; rintro e w13 ⟨rfl, h13⟩; clear h12
        go_wp2_with fail
        refine (s_red w _ h13 p R IP.out RP.out).mono ?_; rintro e w14 ⟨rfl, h14⟩; clear h13
        go_wp2_with fail
        refine (s_invW w _ h14 x ix IX.out KX.out).mono ?_; rintro e w15 ⟨rfl, h15⟩; clear h14
        go_wp2_with fail
        refine (s_form w _ h15 p fu IP.out FPU.out).mono ?_; rintro e w16 ⟨rfl, h16⟩; clear h15
        go_wp2_with fail
        refine (s_form w _ h16 u fu IU.out FU.out).mono ?_; rintro e w17 ⟨rfl, h17⟩; clear h16
        go_wp2
        go_ret
        exact ⟨rfl, h17.below⟩
      | false =>
        go_enter Tryd.func6, Tryd.ntmps6
        go_wp2_with fail
        refine (s_sane w _ h0).mono ?_; rintro e w1 ⟨rfl, h1⟩; clear h0
        go_wp2_with fail
        refine (words_at w w1 h1 [u, v, z, x] _ rfl 4 rfl (by simp) HS.out).mono ?_; rintro e w2 ⟨rfl, h2⟩; clear h1
        rw [HOK.out]
        go_wp2_with fail
        refine (s_conjB w _ h2 u v IU.out IV.out _ BA.out).mono ?_; rintro e w3 ⟨x1, rfl, h3⟩; clear h2
        go_wp2_with fail
        refine (s_conjB w _ h3 v u IV.out IU.out _ BA'.out).mono ?_; rintro e w4 ⟨x2, rfl, h4⟩; clear h3
        go_wp2_with fail
        refine (s_conjB w _ h4 v z IV.out IZ.out _ BC.out).mono ?_; rintro e w5 ⟨x3, rfl, h5⟩; clear h4
        go_wp2_with fail
        refine (s_conjB w _ h5 u z IU.out IZ.out _ BD.out).mono ?_; rintro e w6 ⟨x4, rfl, h6⟩; clear h5
        go_wp2_with fail
        refine (s_form w _ h6 u fu IU.out FU.out).mono ?_; rintro e w7 ⟨rfl, h7⟩; clear h6
        go_wp2_with fail
        refine (s_form w _ h7 v fv IV.out FV.out).mono ?_; rintro e w8 ⟨rfl, h8⟩; clear h7
        go_wp2_with fail
        refine (s_invW w _ h8 x ix IX.out KX.out).mono ?_; rintro e w9 ⟨rfl, h9⟩; clear h8
        go_wp2_with fail
        refine (s_conjY w _ h9 p u y IP.out IU.out FP.out KY.out).mono ?_; rintro e w10 ⟨rfl, h10⟩; clear h9
        go_wp2_with fail
        refine (s_invW w _ h10 y iy IY.out KIY.out).mono ?_; rintro e w11 ⟨rfl, h11⟩; clear h10
        go_wp2_with fail
        refine (s_red w _ h11 q R IQ.out RQ.out).mono ?_; rintro e w12 ⟨rfl, h12⟩; clear h11
        go_wp2_with fail
        refine (s_invW w _ h12 x ix IX.out KX.out).mono ?_; rintro e w13 ⟨rfl, h13⟩; clear h12
        go_wp2_with fail
        refine (s_red w _ h13 p R IP.out RP.out).mono ?_; rintro e w14 ⟨rfl, h14⟩; clear h13
        go_wp2_with fail
        refine (s_invW w _ h14 x ix IX.out KX.out).mono ?_; rintro e w15 ⟨rfl, h15⟩; clear h14
        go_wp2_with fail
        refine (s_form w _ h15 p fu IP.out FPU.out).mono ?_; rintro e w16 ⟨rfl, h16⟩; clear h15
        go_wp2_with fail
        refine (s_form w _ h16 u fu IU.out FU.out).mono ?_; rintro e w17 ⟨rfl, h17⟩; clear h16
        go_wp2
        go_ret
        exact ⟨rfl, h17.below⟩
end Go.Proofs.YtflieikbhgneoaaDoor
