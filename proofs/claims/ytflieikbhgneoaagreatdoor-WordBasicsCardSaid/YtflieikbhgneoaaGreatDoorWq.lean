/-
  Our own text, in the proofs of the laws of package word (cayleylaw01). Proved here: Root returns the root and its number. Conditions: the arguments read as the row says and the listed tables lie as the program lays them; none other.
-/
import Derived.Test.YtflieikbhgneoaaGreatDoorWp
import Derived.Deep.RegionWith
namespace Go.Proofs.YtflieikbhgneoaaGreatDoor
open Go Go.RowKit

theorem perN_spec (l : List UInt8) (h : l ≠ []) : 1 ≤ perN l ∧ perN l ≤ l.length := by
  unfold perN
  have hl : 0 < l.length := List.length_pos_iff.2 h
  cases hf : (List.range' 1 l.length).find? (perP l) with
  | none =>
    have := List.find?_eq_none.1 hf l.length (by simp [List.mem_range']; exact ⟨l.length - 1, by omega, by omega⟩)
    simp [perP, rotL] at this
  | some k =>
    have := List.mem_of_find?_eq_some hf
    simp [List.mem_range'] at this
    simp; omega

/-- The root of a word, and its number. -/
def rootW (l : List UInt8) : List UInt8 := if coreW (red l) = [] then [] else conjW (red l) ++ (coreW (red l)).take (perN (coreW (red l))) ++ invW (conjW (red l))
def rootN (l : List UInt8) : Nat := if coreW (red l) = [] then 0 else (coreW (red l)).length / perN (coreW (red l))

theorem period_any (s : ByteArray) (hs : s.size ≤ 1000000) (w : World) :
    Calls Tryz.prog 44 #[.string s] w fun e W' => e = .returned (.int .i64 (perN s.data.toList)) ∧ Below w.heap.size w W' := callsIn_wide.1 (period_in s hs w)

set_option maxHeartbeats 1000000 in
theorem Root_yes (s : ByteArray) (w : World) (ht : Tabs w) (hw : isW s.data.toList = true) :
    Calls Tryz.prog 24 #[.string s] w fun e w' => e = .returned (.tuple #[.string ⟨(rootW s.data.toList).toArray⟩, .int .i64 (rootN s.data.toList)]) ∧ Below w.heap.size w w' := by
  have hlen := isW_len hw
  have hs : s.size ≤ 100000 := by simpa using hlen
  have hC := Cyclic_yes s w ht hw (by omega)
  have hcc := conj_core_len (red s.data.toList)
  have hl := red_len s.data.toList
  by_cases hc : coreW (red s.data.toList) = []
  · have H1 : Hid (rootW s.data.toList = []) := Lib.hid (by simp [rootW, hc])
    have H2 : Hid (rootN s.data.toList = 0) := Lib.hid (by simp [rootN, hc])
    rw [hc] at hC
    clear hc hcc hl hlen hw ht
    go_enter Tryz.func24, Tryz.ntmps24
    go_wp2_with (go_at_call 23; refine hC.mono ?_; rintro e w' ⟨rfl, hb⟩)
    go_ret2
    exact ⟨by rw [H1.out, H2.out]; rfl, hb⟩
  have H1 : Hid (rootW s.data.toList = conjW (red s.data.toList) ++ (coreW (red s.data.toList)).take (perN (coreW (red s.data.toList))) ++ invW (conjW (red s.data.toList))) := Lib.hid (by simp only [rootW]; rw [if_neg hc])
  have H2 : Hid (rootN s.data.toList = (coreW (red s.data.toList)).length / perN (coreW (red s.data.toList))) := Lib.hid (by simp only [rootN]; rw [if_neg hc])
  have hp := perN_spec _ hc
  have hper := fun w h => period_any ⟨(coreW (red s.data.toList)).toArray⟩ h w
  simp only [data_mk] at hper
  generalize perN (coreW (red s.data.toList)) = p at *
  generalize coreW (red s.data.toList) = C at *
  generalize conjW (red s.data.toList) = D at *
  have he : C.isEmpty = false := by simpa using hc
  have HPER := Lib.hid (fun w => hper w (by rw [size_mk]; omega))
  have hD : D.length ≤ 100000 := by omega
  have hCl : C.length ≤ 100000 := by omega
  have hp1 := hp.1
  have hp2 := hp.2
  have hinv := fun w => inverse_any ⟨D.toArray⟩ w (by rw [size_mk]; omega)
  simp only [data_mk] at hinv
  have HINV := Lib.hid hinv
  have hxx : (ByteArray.mk C.toArray).extract 0 p = ⟨(C.take p).toArray⟩ := ba_ext (by simp [ByteArray.data_extract, List.extract_eq_take_drop])
  have hxs : ((ByteArray.mk C.toArray).extract 0 p).size = p := by rw [hxx, size_mk, List.length_take]; omega
  have hds := size_mk D
  have his := size_mk (invW D)
  rw [invW_len] at his
  have a1 : ∀ w, (Op.stringOp .add (ByteArray.mk D.toArray) ((ByteArray.mk C.toArray).extract 0 p)).run Tryz.prog w = .ok (.string (ByteArray.mk D.toArray ++ (ByteArray.mk C.toArray).extract 0 p)) w := fun w => run_string_add_sum w _ _ (by omega)
  have a2 : ∀ w, (Op.stringOp .add (ByteArray.mk D.toArray ++ (ByteArray.mk C.toArray).extract 0 p) (ByteArray.mk (invW D).toArray)).run Tryz.prog w = .ok (.string (ByteArray.mk D.toArray ++ (ByteArray.mk C.toArray).extract 0 p ++ ByteArray.mk (invW D).toArray)) w := fun w => run_string_add_sum w _ _ (by rw [ByteArray.size_append]; omega)
  have hyy : ByteArray.mk D.toArray ++ (ByteArray.mk C.toArray).extract 0 p ++ ByteArray.mk (invW D).toArray = ⟨(D ++ C.take p ++ invW D).toArray⟩ := by rw [hxx]; exact ba_ext (by simp [ByteArray.data_append])
  have HYY := Lib.hid hyy
  clear hyy hxx hxs hds his
  have hq : (C.length : Int).tdiv (p : Int) = ((C.length / p : Nat) : Int) := rfl
  have hq2 : IntKind.i64.wrap ((C.length : Int) / (p : Int)) = ((C.length / p : Nat) : Int) := by
    rw [show (C.length : Int) / (p : Int) = ((C.length / p : Nat) : Int) from rfl]
    have hdv := Nat.div_le_self C.length p
    generalize C.length / p = z at *
    exact IntWalk.i64_in _ (by omega)
  have hpz : ¬ (p : Int) = 0 := by omega
  have hpz2 : ¬ p = 0 := by omega
  clear hc hcc hl hlen hw ht hper hinv hp
  go_enter Tryz.func24, Tryz.ntmps24
  go_wp2_with fail
  refine hC.mono ?_; rintro e w1 ⟨rfl, hb1⟩
  have B1 := Lib.hid hb1
  clear hb1
  go_wp2_with fail
  refine (HPER.out _).mono ?_; rintro e w2 ⟨rfl, hb2⟩
  have B2 := Lib.hid (B1.out.trans (hb2.mono B1.out.size))
  clear hb2
  go_wp2_with fail
  go_region_with (go_at_call 36; refine (HINV.out _).mono ?_; rintro e w3 ⟨rfl, hb3⟩)
  go_wp2
  go_ret2
  refine ⟨?_, B2.out.trans (Below.trans ((Below.refl w.heap.size w2).drew) (hb3.mono B2.out.size))⟩
  rw [H1.out, H2.out, ← HYY.out]
  rfl
end Go.Proofs.YtflieikbhgneoaaGreatDoor
