/-
  Our own text, in the proofs of the laws of package word (cayleylaw01). Proved here: WordOrder returns true at every five strings. Conditions: the arguments read as the row says and the listed tables lie as the program lays them; none other.
-/
import Derived.Test.YtflieikbhgneoaaDoorXg
namespace Go.Proofs.YtflieikbhgneoaaDoor
open Go Go.RowKit

set_option maxHeartbeats 4000000 in
theorem order_no (u v z x y : List UInt8) (w : World) (ht : Tabs w) (hs : ∀ l ∈ [u, v, z, x, y], l.length ≤ maxLen) (hok : [u, v, z, x, y].all okW = false) :
    Calls Tryd.prog 7 #[.string ⟨u.toArray⟩, .string ⟨v.toArray⟩, .string ⟨z.toArray⟩, .string ⟨x.toArray⟩, .string ⟨y.toArray⟩] w fun e w' => e = .returned (.bool true) ∧ Below w.heap.size w w' := by
  have h0 : St w w := ⟨ht, Below.refl _ w⟩
  have HS := Lib.hid hs
  have HOK := Lib.hid hok
  clear ht hs hok
  go_enter Tryd.func7, Tryd.ntmps7
  go_wp2_with fail
  refine (s_sane w _ h0).mono ?_; rintro e w1 ⟨rfl, h1⟩; clear h0
  go_wp2_with fail
  refine (words_at w w1 h1 [u, v, z, x, y] _ rfl 5 rfl (by simp) HS.out).mono ?_; rintro e w2 ⟨rfl, h2⟩; clear h1
  rw [HOK.out]
  go_wp2
  go_ret
  exact ⟨rfl, h2.below⟩

set_option maxHeartbeats 4000000 in
theorem order_yes (u v z x y : List UInt8) (w : World) (ht : Tabs w) (hok : [u, v, z, x, y].all okW = true) :
    Calls Tryd.prog 7 #[.string ⟨u.toArray⟩, .string ⟨v.toArray⟩, .string ⟨z.toArray⟩, .string ⟨x.toArray⟩, .string ⟨y.toArray⟩] w fun e w' => e = .returned (.bool true) ∧ Below w.heap.size w w' := by
  have h0 : St w w := ⟨ht, Below.refl _ w⟩
  have hok2 := hok
  simp only [List.all_cons, List.all_nil, Bool.and_eq_true, Bool.and_true] at hok2
  obtain ⟨ku, kv, kz, kx, ky⟩ := hok2
  have lu := okW_len ku
  have lv := okW_len kv
  have lz := okW_len kz
  have lx := okW_len kx
  have ly := okW_len ky
  have HS : Hid (∀ l ∈ [u, v, z, x, y], l.length ≤ maxLen) := Lib.hid (by intro l hl; simp at hl; unfold maxLen; rcases hl with rfl | rfl | rfl | rfl | rfl <;> omega)
  have iu := okW_isW ku
  have iv := okW_isW kv
  have iz := okW_isW kz
  have ix := okW_isW kx
  have iy := okW_isW ky
  have i1 : isW (x ++ u ++ y) = true := isW_app (isW_app ix iu (by omega)) iy (by simp; omega)
  have i2 : isW (x ++ v ++ y) = true := isW_app (isW_app ix iv (by omega)) iy (by simp; omega)
  have HOK := Lib.hid hok
  have HA : Hid (cmpW u v = -1 ∨ cmpW u v = 0 ∨ cmpW u v = 1) := Lib.hid (cmp_bd iu iv)
  have HB : Hid (cmpW v z = -1 ∨ cmpW v z = 0 ∨ cmpW v z = 1) := Lib.hid (cmp_bd iv iz)
  have HN : Hid (cmpW v u = -cmpW u v) := Lib.hid (cmp_neg iu iv)
  have HE : Hid (cmpW (x ++ u ++ y) (x ++ v ++ y) = cmpW u v) := Lib.hid (cmp_ctx iu iv i1 i2)
  have HZ : Hid (cmpW u v = 0 → u = v) := Lib.hid (cmp_zero iu iv)
  have HSelf : Hid (cmpW u u = 0) := Lib.hid (cmp_self iu)
  have HT : Hid (cmpW u v ≤ 0 → cmpW v z ≤ 0 → cmpW u z ≤ 0) := Lib.hid (cmp_trans iu iv iz)
  have HD : Hid (cmpW (red u) u ≤ 0) := Lib.hid (cmp_red iu)
  have lr := red_len u
  have IU := Lib.hid iu
  have HP : Hid (ByteArray.mk x.toArray ++ ByteArray.mk u.toArray ++ ByteArray.mk y.toArray = ⟨(x ++ u ++ y).toArray⟩) := Lib.hid (ba_ext (by simp [ByteArray.data_append]))
  have HQ : Hid (ByteArray.mk x.toArray ++ ByteArray.mk v.toArray ++ ByteArray.mk y.toArray = ⟨(x ++ v ++ y).toArray⟩) := Lib.hid (ba_ext (by simp [ByteArray.data_append]))
  have l1 : (x ++ u ++ y).length ≤ 100000 := by simp; omega
  have l2 : (x ++ v ++ y).length ≤ 100000 := by simp; omega
  generalize x ++ u ++ y = p at *
  generalize x ++ v ++ y = q at *
  clear ht hok ku kv kz kx ky iu iv iz ix iy i1 i2
  generalize hA : cmpW u v = A at *
  generalize hB : cmpW v z = B at *
  generalize hC : cmpW u z = C at *
  generalize hD : cmpW (red u) u = D at *
  generalize hN : cmpW v u = N at *
  generalize hE : cmpW p q = E at *
  obtain rfl := HN.out
  obtain rfl := HE.out
  clear HN HE
  have hA' := Lib.hid hA
  have hB' := Lib.hid hB
  have hC' := Lib.hid hC
  have hD' := Lib.hid hD
  have hN' := Lib.hid hN
  have hE' := Lib.hid hE
  clear hA hB hC hD hN hE
  have hDn : ¬ 0 < D := by have := HD.out; omega
  have hD0 : D ≤ 0 := HD.out
  rcases HA.out with rfl | rfl | rfl
  · have hne : (u == v) = false := by
      simp only [beq_eq_false_iff_ne]
      intro e
      have a1 := hA'.out
      rw [← e, HSelf.out] at a1
      simp at a1
    by_cases hB : B ≤ 0
    · have hB2 : ¬ 0 < B := by omega
      have hC : C ≤ 0 := HT.out (by omega) hB
      have hC2 : ¬ 0 < C := by omega
      go_enter Tryd.func7, Tryd.ntmps7
      go_wp2_with fail
      refine (s_sane w _ h0).mono ?_; rintro e w1 ⟨rfl, h1⟩; clear h0
      go_wp2_with fail
      refine (words_at w w1 h1 [u, v, z, x, y] _ rfl 5 rfl (by simp) HS.out).mono ?_; rintro e w2 ⟨rfl, h2⟩; clear h1
      rw [HOK.out]
      go_wp2_with fail
      refine (s_cmp w _ h2 u v (by omega) (by omega) _ hA'.out).mono ?_; rintro e w3 ⟨rfl, h3⟩; clear h2
      go_wp2_with fail
      refine (s_cmp w _ h3 v z (by omega) (by omega) _ hB'.out).mono ?_; rintro e w4 ⟨rfl, h4⟩; clear h3
      go_wp2_with fail
      refine (s_cmp w _ h4 v u (by omega) (by omega) _ hN'.out).mono ?_; rintro e w5 ⟨rfl, h5⟩; clear h4
      go_wp2_with fail
      refine (s_cmp w _ h5 u z (by omega) (by omega) _ hC'.out).mono ?_; rintro e w6 ⟨rfl, h6⟩; clear h5
      go_wp2_with fail
      rw [HP.out, HQ.out]
      refine (s_cmp w _ h6 p q (by omega) (by omega) _ hE'.out).mono ?_; rintro e w7 ⟨rfl, h7⟩; clear h6
      go_wp2_with fail
      refine (s_red w _ h7 u _ IU.out rfl).mono ?_; rintro e w8 ⟨rfl, h8⟩; clear h7
      go_wp2_with fail
      refine (s_cmp w _ h8 (red u) u (by omega) (by omega) _ hD'.out).mono ?_; rintro e w9 ⟨rfl, h9⟩; clear h8
      go_wp2
      go_ret
      exact ⟨rfl, h9.below⟩
    · have hB2 : 0 < B := by omega
      go_enter Tryd.func7, Tryd.ntmps7
      go_wp2_with fail
      refine (s_sane w _ h0).mono ?_; rintro e w1 ⟨rfl, h1⟩; clear h0
      go_wp2_with fail
      refine (words_at w w1 h1 [u, v, z, x, y] _ rfl 5 rfl (by simp) HS.out).mono ?_; rintro e w2 ⟨rfl, h2⟩; clear h1
      rw [HOK.out]
      go_wp2_with fail
      refine (s_cmp w _ h2 u v (by omega) (by omega) _ hA'.out).mono ?_; rintro e w3 ⟨rfl, h3⟩; clear h2
      go_wp2_with fail
      refine (s_cmp w _ h3 v z (by omega) (by omega) _ hB'.out).mono ?_; rintro e w4 ⟨rfl, h4⟩; clear h3
      go_wp2_with fail
      refine (s_cmp w _ h4 v u (by omega) (by omega) _ hN'.out).mono ?_; rintro e w5 ⟨rfl, h5⟩; clear h4
      go_wp2_with fail
      rw [HP.out, HQ.out]
      refine (s_cmp w _ h5 p q (by omega) (by omega) _ hE'.out).mono ?_; rintro e w6 ⟨rfl, h6⟩; clear h5
      go_wp2_with fail
      refine (s_red w _ h6 u _ IU.out rfl).mono ?_; rintro e w7 ⟨rfl, h7⟩; clear h6
      go_wp2_with fail
      refine (s_cmp w _ h7 (red u) u (by omega) (by omega) _ hD'.out).mono ?_; rintro e w8 ⟨rfl, h8⟩; clear h7
      go_wp2
      go_ret
      exact ⟨rfl, h8.below⟩
  · obtain rfl := HZ.out rfl
    obtain rfl : p = q := by have := HP.out.symm.trans HQ.out; simpa using this
    by_cases hB : B ≤ 0
    · have hB2 : ¬ 0 < B := by omega
      have hC : C ≤ 0 := HT.out (by omega) hB
      have hC2 : ¬ 0 < C := by omega
      go_enter Tryd.func7, Tryd.ntmps7
      go_wp2_with fail
      refine (s_sane w _ h0).mono ?_; rintro e w1 ⟨rfl, h1⟩; clear h0
      go_wp2_with fail
      refine (words_at w w1 h1 [u, u, z, x, y] _ rfl 5 rfl (by simp) HS.out).mono ?_; rintro e w2 ⟨rfl, h2⟩; clear h1
      rw [HOK.out]
      go_wp2_with fail
      refine (s_cmp w _ h2 u u (by omega) (by omega) _ hA'.out).mono ?_; rintro e w3 ⟨rfl, h3⟩; clear h2
      go_wp2_with fail
      refine (s_cmp w _ h3 u z (by omega) (by omega) _ hB'.out).mono ?_; rintro e w4 ⟨rfl, h4⟩; clear h3
      go_wp2_with fail
      refine (s_cmp w _ h4 u u (by omega) (by omega) _ hN'.out).mono ?_; rintro e w5 ⟨rfl, h5⟩; clear h4
      go_wp2_with fail
      refine (s_cmp w _ h5 u z (by omega) (by omega) _ hC'.out).mono ?_; rintro e w6 ⟨rfl, h6⟩; clear h5
      go_wp2_with fail
      rw [HP.out]
      refine (s_cmp w _ h6 p p (by omega) (by omega) _ hE'.out).mono ?_; rintro e w7 ⟨rfl, h7⟩; clear h6
      go_wp2_with fail
      refine (s_red w _ h7 u _ IU.out rfl).mono ?_; rintro e w8 ⟨rfl, h8⟩; clear h7
      go_wp2_with fail
      refine (s_cmp w _ h8 (red u) u (by omega) (by omega) _ hD'.out).mono ?_; rintro e w9 ⟨rfl, h9⟩; clear h8
      go_wp2
      go_ret
      exact ⟨rfl, h9.below⟩
    · have hB2 : 0 < B := by omega
      go_enter Tryd.func7, Tryd.ntmps7
      go_wp2_with fail
      refine (s_sane w _ h0).mono ?_; rintro e w1 ⟨rfl, h1⟩; clear h0
      go_wp2_with fail
      refine (words_at w w1 h1 [u, u, z, x, y] _ rfl 5 rfl (by simp) HS.out).mono ?_; rintro e w2 ⟨rfl, h2⟩; clear h1
      rw [HOK.out]
      go_wp2_with fail
      refine (s_cmp w _ h2 u u (by omega) (by omega) _ hA'.out).mono ?_; rintro e w3 ⟨rfl, h3⟩; clear h2
      go_wp2_with fail
      refine (s_cmp w _ h3 u z (by omega) (by omega) _ hB'.out).mono ?_; rintro e w4 ⟨rfl, h4⟩; clear h3
      go_wp2_with fail
      refine (s_cmp w _ h4 u u (by omega) (by omega) _ hN'.out).mono ?_; rintro e w5 ⟨rfl, h5⟩; clear h4
      go_wp2_with fail
      rw [HP.out]
      refine (s_cmp w _ h5 p p (by omega) (by omega) _ hE'.out).mono ?_; rintro e w6 ⟨rfl, h6⟩; clear h5
      go_wp2_with fail
      refine (s_red w _ h6 u _ IU.out rfl).mono ?_; rintro e w7 ⟨rfl, h7⟩; clear h6
      go_wp2_with fail
      refine (s_cmp w _ h7 (red u) u (by omega) (by omega) _ hD'.out).mono ?_; rintro e w8 ⟨rfl, h8⟩; clear h7
      go_wp2
      go_ret
      exact ⟨rfl, h8.below⟩
  · have hne : (u == v) = false := by
      simp only [beq_eq_false_iff_ne]
      intro e
      have a1 := hA'.out
      rw [← e, HSelf.out] at a1
      simp at a1
    go_enter Tryd.func7, Tryd.ntmps7
    go_wp2_with fail
    refine (s_sane w _ h0).mono ?_; rintro e w1 ⟨rfl, h1⟩; clear h0
    go_wp2_with fail
    refine (words_at w w1 h1 [u, v, z, x, y] _ rfl 5 rfl (by simp) HS.out).mono ?_; rintro e w2 ⟨rfl, h2⟩; clear h1
    rw [HOK.out]
    go_wp2_with fail
    refine (s_cmp w _ h2 u v (by omega) (by omega) _ hA'.out).mono ?_; rintro e w3 ⟨rfl, h3⟩; clear h2
    go_wp2_with fail
    refine (s_cmp w _ h3 v z (by omega) (by omega) _ hB'.out).mono ?_; rintro e w4 ⟨rfl, h4⟩; clear h3
    go_wp2_with fail
    refine (s_cmp w _ h4 v u (by omega) (by omega) _ hN'.out).mono ?_; rintro e w5 ⟨rfl, h5⟩; clear h4
    go_wp2_with fail
    rw [HP.out, HQ.out]
    refine (s_cmp w _ h5 p q (by omega) (by omega) _ hE'.out).mono ?_; rintro e w6 ⟨rfl, h6⟩; clear h5
    go_wp2_with fail
    refine (s_red w _ h6 u _ IU.out rfl).mono ?_; rintro e w7 ⟨rfl, h7⟩; clear h6
    go_wp2_with fail
    refine (s_cmp w _ h7 (red u) u (by omega) (by omega) _ hD'.out).mono ?_; rintro e w8 ⟨rfl, h8⟩; clear h7
    go_wp2
    go_ret
    exact ⟨rfl, h8.below⟩
end Go.Proofs.YtflieikbhgneoaaDoor
