/-
  Our own text, in the proofs of the laws of package word (cayleylaw01). Proved here: WordGroup returns true at every three strings. Conditions: the arguments read as the row says and the listed tables lie as the program lays them; none other.
-/
import Derived.Test.YtflieikbhgneoaaDoorXg
namespace Go.Proofs.YtflieikbhgneoaaDoor
open Go Go.RowKit

theorem letterB_invc {c : UInt8} (h : letterB 8 c = true) : letterB 8 (invc c) = true := by
  unfold letterB at h ⊢
  simp only [Bool.and_eq_true, decide_eq_true_eq] at h ⊢
  have := invc_idx c h.1
  have hb := idx_bound c
  rw [this]
  split <;> omega
theorem isW_invW {u : List UInt8} (h : isW u = true) : isW (invW u) = true := by
  have hl := isW_len h
  refine isW_of (by rw [invW_len]; exact hl) ?_
  unfold invW
  rw [List.all_reverse, List.all_map, List.all_eq_true]
  intro c hc
  exact letterB_invc (List.all_eq_true.1 (isW_all h) c hc)

set_option maxHeartbeats 4000000 in
theorem group_no (u v z : List UInt8) (w : World) (ht : Tabs w) (hs : ∀ l ∈ [u, v, z], l.length ≤ maxLen) (hok : [u, v, z].all okW = false) :
    Calls Tryd.prog 4 #[.string ⟨u.toArray⟩, .string ⟨v.toArray⟩, .string ⟨z.toArray⟩] w fun e w' => e = .returned (.bool true) ∧ Below w.heap.size w w' := by
  have h0 : St w w := ⟨ht, Below.refl _ w⟩
  have HS := Lib.hid hs
  have HOK := Lib.hid hok
  clear ht hs hok
  go_enter Tryd.func4, Tryd.ntmps4
  go_wp2_with fail
  refine (s_sane w _ h0).mono ?_; rintro e w1 ⟨rfl, h1⟩; clear h0
  go_wp2_with fail
  refine (words_at w w1 h1 [u, v, z] _ rfl 3 rfl (by simp) HS.out).mono ?_; rintro e w2 ⟨rfl, h2⟩; clear h1
  rw [HOK.out]
  go_wp2
  go_ret
  exact ⟨rfl, h2.below⟩

theorem catB (a b c : List UInt8) (h : a ++ b = c) : ByteArray.mk a.toArray ++ ByteArray.mk b.toArray = ⟨c.toArray⟩ := by
  subst h; exact ba_ext (by simp [ByteArray.data_append])

set_option maxHeartbeats 4000000 in
theorem group_yes (u v z : List UInt8) (w : World) (ht : Tabs w) (hok : [u, v, z].all okW = true) :
    Calls Tryd.prog 4 #[.string ⟨u.toArray⟩, .string ⟨v.toArray⟩, .string ⟨z.toArray⟩] w fun e w' => e = .returned (.bool true) ∧ Below w.heap.size w w' := by
  have h0 : St w w := ⟨ht, Below.refl _ w⟩
  have hok2 := hok
  simp only [List.all_cons, List.all_nil, Bool.and_eq_true, Bool.and_true] at hok2
  obtain ⟨ku, kv, kz⟩ := hok2
  have lu := okW_len ku
  have lv := okW_len kv
  have lz := okW_len kz
  have HS : Hid (∀ l ∈ [u, v, z], l.length ≤ maxLen) := Lib.hid (by intro l hl; simp at hl; unfold maxLen; rcases hl with rfl | rfl | rfl <;> omega)
  have iu := okW_isW ku
  have iv := okW_isW kv
  have iz := okW_isW kz
  have HOK := Lib.hid hok
  have lm := red_len (v ++ z)
  have lp := red_len (u ++ v)
  have li := invW_len u
  have lJ := invW_len v
  have lip := invW_len (red (u ++ v))
  simp only [List.length_append] at lm lp
  have I1 := Lib.hid (isW_app iu iv (by omega))
  have ip' := isW_red I1.out
  have I2 := Lib.hid (isW_app ip' iz (by omega))
  have I3 := Lib.hid (isW_app iv iz (by omega))
  have I4 := Lib.hid (isW_app iu (isW_red I3.out) (by omega))
  have ii := isW_invW iu
  have I5 := Lib.hid (isW_app iu ii (by omega))
  have I6 := Lib.hid (isW_app ii iu (by omega))
  have I7 := Lib.hid iu
  have I8 := Lib.hid iv
  have I9 := Lib.hid ii
  have I10 := Lib.hid ip'
  have I11 := Lib.hid (isW_invW ip')
  have I12 := Lib.hid (isW_app (isW_invW iv) ii (by omega))
  have E1 : Hid (red (red (u ++ v) ++ z) = red (u ++ red (v ++ z))) := Lib.hid (red_assoc u v z)
  have E2 : Hid (red (u ++ invW u) = []) := Lib.hid (red_inv u)
  have E3 : Hid (red (invW u ++ u) = []) := Lib.hid (red_inv' u)
  have E4 : Hid (invW (invW u) = u) := Lib.hid (invW_invW u)
  have E5 : Hid (invW (u ++ v) = invW v ++ invW u) := Lib.hid (invW_app u v)
  have E6 : Hid (red (invW (red (u ++ v))) = red (invW v ++ invW u)) := Lib.hid (by rw [red_invW_red, invW_app])
  have c1 := catB u v _ rfl
  have c2 := catB (red (u ++ v)) z _ rfl
  have c3 := catB v z _ rfl
  have c4 := catB u (red (v ++ z)) _ rfl
  have c5 := catB u (invW u) _ rfl
  have c6 := catB (invW u) u _ rfl
  have c7 := catB (invW v) (invW u) _ rfl
  have c8 : ByteArray.mk u.toArray ++ ByteArray.mk #[] = ⟨u.toArray⟩ := catB u [] u (by simp)
  clear ht hok ku kv kz iu iv iz ip' ii
  generalize invW v ++ invW u = J at *
  generalize invW u ++ u = IU at *
  generalize u ++ invW u = UI at *
  generalize u ++ red (v ++ z) = UM at *
  generalize red (u ++ v) ++ z = PW at *
  generalize u ++ v = UV at *
  generalize v ++ z = VW at *
  generalize hm : red VW = m at *
  generalize hp : red UV = p at *
  generalize hip : invW p = ip at *
  generalize hR : red J = R at *
  generalize hL : red UM = L at *
  generalize hi : invW u = i at *
  generalize hv : invW v = j at *
  have K1 := Lib.hid hm
  have K2 := Lib.hid hp
  have K3 := Lib.hid hip
  have K4 := Lib.hid hR
  have K5 := Lib.hid hL
  have K6 := Lib.hid hi
  have K7 := Lib.hid hv
  clear hm hp hip hR hL hi hv
  go_enter Tryd.func4, Tryd.ntmps4
  go_wp2_with fail
  refine (s_sane w _ h0).mono ?_; rintro e w1 ⟨rfl, h1⟩; clear h0
  go_wp2_with fail
  refine (words_at w w1 h1 [u, v, z] _ rfl 3 rfl (by simp) HS.out).mono ?_; rintro e w2 ⟨rfl, h2⟩; clear h1
  rw [HOK.out]
  go_wp2_with fail
  refine (s_red w _ h2 UV p I1.out K2.out).mono ?_; rintro e w3 ⟨rfl, h3⟩; clear h2
  go_wp2_with fail
  refine (s_red w _ h3 PW L I2.out E1.out).mono ?_; rintro e w4 ⟨rfl, h4⟩; clear h3
  go_wp2_with fail
  refine (s_red w _ h4 VW m I3.out K1.out).mono ?_; rintro e w5 ⟨rfl, h5⟩; clear h4
  go_wp2_with fail
  refine (s_red w _ h5 UM L I4.out K5.out).mono ?_; rintro e w6 ⟨rfl, h6⟩; clear h5
  go_wp2_with fail
  refine (s_red w _ h6 u _ I7.out rfl).mono ?_; rintro e w7 ⟨rfl, h7⟩; clear h6
  go_wp2_with fail
  refine (s_red w _ h7 u _ I7.out rfl).mono ?_; rintro e w8 ⟨rfl, h8⟩; clear h7
  go_wp2_with fail
  refine (s_invW w _ h8 u i I7.out K6.out).mono ?_; rintro e w9 ⟨rfl, h9⟩; clear h8
  go_wp2_with fail
  refine (s_red w _ h9 UI [] I5.out E2.out).mono ?_; rintro e w10 ⟨rfl, h10⟩; clear h9
  go_wp2_with fail
  refine (s_red w _ h10 IU [] I6.out E3.out).mono ?_; rintro e w11 ⟨rfl, h11⟩; clear h10
  go_wp2_with fail
  refine (s_invW w _ h11 i u I9.out E4.out).mono ?_; rintro e w12 ⟨rfl, h12⟩; clear h11
  go_wp2_with fail
  refine (s_invW w _ h12 UV J I1.out E5.out).mono ?_; rintro e w13 ⟨rfl, h13⟩; clear h12
  go_wp2_with fail
  refine (s_invW w _ h13 v j I8.out K7.out).mono ?_; rintro e w14 ⟨rfl, h14⟩; clear h13
  go_wp2_with fail
  refine (s_invW w _ h14 p ip I10.out K3.out).mono ?_; rintro e w15 ⟨rfl, h15⟩; clear h14
  go_wp2_with fail
  refine (s_red w _ h15 ip R I11.out E6.out).mono ?_; rintro e w16 ⟨rfl, h16⟩; clear h15
  go_wp2_with fail
  refine (s_invW w _ h16 v j I8.out K7.out).mono ?_; rintro e w17 ⟨rfl, h17⟩; clear h16
  go_wp2_with fail
  refine (s_red w _ h17 J R I12.out K4.out).mono ?_; rintro e w18 ⟨rfl, h18⟩; clear h17
  go_wp2
  go_ret
  exact ⟨rfl, h18.below⟩
end Go.Proofs.YtflieikbhgneoaaDoor
