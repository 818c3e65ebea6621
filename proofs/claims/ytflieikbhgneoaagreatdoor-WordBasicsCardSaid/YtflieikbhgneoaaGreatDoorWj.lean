/-
  Our own text, in the proofs of the laws of package word (cayleylaw01). Proved here: Form returns the cyclic form of a word. Conditions: the arguments read as the row says and the listed tables lie as the program lays them; none other.
-/
import Derived.Test.YtflieikbhgneoaaGreatDoorWi
namespace Go.Proofs.YtflieikbhgneoaaGreatDoor
open Go Go.RowKit

theorem lrF_le : ∀ f l i j c, min i j ≤ l.length → lrF f l i j c ≤ l.length := by
  intro f
  induction f with
  | zero => intro l i j c h; exact h
  | succ f ih =>
    intro l i j c h
    unfold lrF
    split
    · rename_i hc
      obtain ⟨h1, h2, h3⟩ := hc
      simp only
      split
      · exact ih _ _ _ _ h
      · split
        · split
          · exact ih _ _ _ _ (by omega)
          · exact ih _ _ _ _ (by omega)
        · split
          · exact ih _ _ _ _ (by omega)
          · exact ih _ _ _ _ (by omega)
    · exact h
theorem lrN_le (l : List UInt8) : lrN l ≤ l.length := lrF_le _ _ _ _ _ (by omega)

theorem coreW_len (l : List UInt8) : (coreW l).length ≤ l.length := by unfold coreW; simp; omega

/-- The cyclic form. -/
def formW (l : List UInt8) : List UInt8 := (coreW (red l)).drop (lrN (coreW (red l))) ++ (coreW (red l)).take (lrN (coreW (red l)))

theorem isW_len {l : List UInt8} (h : isW l = true) : l.length ≤ 100000 := by simp [isW] at h; exact h.1

set_option maxHeartbeats 400000 in
theorem Form_yes (s : ByteArray) (w : World) (ht : Tabs w) (hw : isW s.data.toList = true) (hs : s.size ≤ 140737488351232) :
    Calls Tryz.prog 25 #[.string s] w fun e w' => e = .returned (.string ⟨(formW s.data.toList).toArray⟩) ∧ Below w.heap.size w w' := by
  have hC := Cyclic_yes s w ht hw hs
  have hlen := isW_len hw
  have hl := red_len s.data.toList
  have hl2 := coreW_len (red s.data.toList)
  have hle := lrN_le (coreW (red s.data.toList))
  have HR : Hid (formW s.data.toList = (coreW (red s.data.toList)).drop (lrN (coreW (red s.data.toList))) ++ (coreW (red s.data.toList)).take (lrN (coreW (red s.data.toList)))) := Lib.hid rfl
  have HS := fun w ht => leastRotation_any ⟨(coreW (red s.data.toList)).toArray⟩ w ht (by rw [size_mk]; omega)
  rw [data_mk] at HS
  generalize hcc : coreW (red s.data.toList) = C at *
  generalize conjW (red s.data.toList) = D at *
  generalize lrN C = r at *
  have HT := Lib.hid ht
  have HH := Lib.hid HS
  clear hw hcc ht HS
  go_enter Tryz.func25, Tryz.ntmps25
  go_wp2_with (first | (go_at_call 23; refine hC.mono ?_; rintro e w' ⟨rfl, hb⟩) | (go_at_call 45; refine (HH.out _ (HT.out.on hb)).mono ?_; rintro e w' ⟨rfl, hd⟩))
  generalize hwb : (ByteArray.mk C.toArray) = cb at *
  have hz1 : r ≤ cb.size := by rw [← hwb]; exact hle
  have HWB := Lib.hid hwb
  clear hwb
  have hsz : cb.size ≤ 1000000 := by rw [← HWB.out, size_mk]; simp at hl hlen; omega
  have hadd : ∀ w, (Op.stringOp .add (cb.extract r cb.size) (cb.extract 0 r)).run Tryz.prog w = .ok (.string (cb.extract r cb.size ++ cb.extract 0 r)) w := fun w => run_string_add_sum w _ _ (by simp; omega)
  obtain ⟨n, hd⟩ := hd
  have HD := Lib.hid hd
  have HB := Lib.hid hb
  clear hd hb hC
  go_quiet (fail)
  go_wp2
  go_ret
  refine ⟨?_, (HB.out.trans (below_drawn HD.out _)).drewN nq⟩
  rw [HR.out]
  have e : cb.extract r cb.size ++ cb.extract 0 r = ⟨(C.drop r ++ C.take r).toArray⟩ := by
    rw [← HWB.out]
    apply ba_ext
    simp only [ByteArray.data_append, ByteArray.data_extract, Array.toList_append, Array.toList_extract, List.extract_eq_take_drop, size_mk, List.drop_zero, Nat.sub_zero]
    rw [List.take_of_length_le (by simp)]
  rw [← e]
  rfl
end Go.Proofs.YtflieikbhgneoaaGreatDoor
