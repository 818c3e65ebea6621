/-
  Our own text, in the proofs of the laws of package rope. Proved here: expand and Word return the word of the last node. Conditions: the nodes lie in memory as the slice says; the listed table lies as the program lays it.
-/
import Derived.Test.YtgklmcinbaghmaaGreatDoorRs
namespace Go.Proofs.YtgklmcinbaghmaaGreatDoor
open Go Go.RowKit

/-- The word of a rope. -/
def wordOf (r : List Nd) : List UInt8 := (dens r).getD (r.length - 1) []
theorem wordOf_len {r : List Nd} {L : List Nat} (h : lens r = some L) : (wordOf r).length = lastN L := by
  obtain ⟨h1, _, _⟩ := lens_ok h
  rcases Nat.eq_zero_or_pos r.length with h0 | h0
  · have : r = [] := List.length_eq_zero_iff.1 h0
    subst this
    have : L = [] := List.length_eq_zero_iff.1 (by simpa using h1)
    subst this; rfl
  · unfold wordOf lastN
    rw [dens_lens h _ (by omega), h1]

theorem heap6 (w : World) (o0 o1 o2 o3 o4 o5 : Obj) (w6 : World) (h : w6 = (((((w.alloc o0).alloc o1).alloc o2).alloc o3).alloc o4).alloc o5) :
    w6.heap[w.heap.size]? = some o0 ∧ w6.heap[w.heap.size + 1]? = some o1 ∧ w6.heap[w.heap.size + 2]? = some o2 ∧ w6.heap[w.heap.size + 3]? = some o3 ∧ w6.heap[w.heap.size + 4]? = some o4 ∧ w6.heap[w.heap.size + 5]? = some o5 ∧ Below w.heap.size w w6 ∧ w6.heap.size = w.heap.size + 6 := by
  subst h
  obtain ⟨h0, h1, h2, h3, h4, hb⟩ := heap5 w o0 o1 o2 o3 o4 _ rfl
  have s5 : (((((w.alloc o0).alloc o1).alloc o2).alloc o3).alloc o4).heap.size = w.heap.size + 5 := by simp
  generalize ((((w.alloc o0).alloc o1).alloc o2).alloc o3).alloc o4 = w5 at *
  have b5 := (Below.refl _ w5).alloc (Nat.le_refl _) o5
  refine ⟨?_, ?_, ?_, ?_, ?_, ?_, hb.trans (b5.mono (by omega)), by simp [s5]⟩
  · rw [b5.block _ (by omega)]; exact h0
  · rw [b5.block _ (by omega)]; exact h1
  · rw [b5.block _ (by omega)]; exact h2
  · rw [b5.block _ (by omega)]; exact h3
  · rw [b5.block _ (by omega)]; exact h4
  · rw [← s5]; exact heap_alloc_new _ _

theorem wr_start (w0 : World) (r : List Nd) (L : List Nat) (sl : Value) (B : Nat) (w6 : World)
    (h : w6 = (((((w0.alloc (.cells #[sl] 22)).alloc (.cells #[envV 76 B] 50)).alloc (.cells #[.slice none 0 0] 72)).alloc (.map #[] 0)).alloc (.cells #[.map (some (w0.heap.size + 1 + 1 + 1))] 102)).alloc (.cells #[wrV w0.heap.size] 103)) :
    Wr w0 r L sl B w0.heap.size w6 [] (fun _ => none) := by
  obtain ⟨h0, h1, h2, h3, h4, h5, hb, hs⟩ := heap6 w0 _ _ _ _ _ _ w6 h
  refine ⟨hb, h0, h1, ⟨none, 0, h2, World.ownsRow_nil _ _ _ _⟩, h4, h5, ?_, (fun k v hv => by cases hv), by omega⟩
  have hm := memo_made (((w0.alloc (.cells #[sl] 22)).alloc (.cells #[envV 76 B] 50)).alloc (.cells #[.slice none 0 0] 72))
  have s3 : (((w0.alloc (.cells #[sl] 22)).alloc (.cells #[envV 76 B] 50)).alloc (.cells #[.slice none 0 0] 72)).heap.size = w0.heap.size + 3 := by simp
  rw [s3] at hm
  have hc : cnt r.length (fun _ => none) = 0 := by simp [cnt]
  rw [hc]
  refine hm.block ?_
  rw [h3, ← s3, heap_alloc_new]

set_option maxHeartbeats 2000000 in
set_option maxRecDepth 100000 in
theorem expand_any (A : Option Addr) (r : List Nd) (cap : Nat) (L : List Nat) (hl : lens r = some L) (B : Nat) (w : World) (sl : Value) (henv : EnvI w B sl lenM L.length (memoL L)) (hr : RopeAt w A r) (hlim : lastN L ≤ 100000) :
    Calls Tryz.prog 39 #[.slice A r.length cap, envV 76 B] w fun e w' => e = .returned (.string ⟨(wordOf r).toArray⟩) ∧ Below w.heap.size w w' := by
  obtain ⟨k1, k2, k3⟩ := lens_ok hl
  have h1 := hmf
  have h2 := @run_makeMap Tryz.prog
  have hst := wr_start w r L (.slice A r.length cap) B _ rfl
  have HST := Lib.hid hst
  clear hst
  by_cases hp : 0 < r.length
  · have hd : decide (0 < r.length) = true := by simpa using hp
    obtain ⟨m, hm⟩ : ∃ m, r.length = m + 1 := ⟨r.length - 1, by omega⟩
    have hW := fun w6 T f (h : Wr w r L (.slice A r.length cap) B w.heap.size w6 T f) (hT : T.length + L.getD m 0 ≤ 100000) => write_any w r L A cap B w.heap.size rfl hl sl henv hr m (by omega) w6 T f h hT
    have hlast : L.getD m 0 ≤ 100000 := by
      have e : lastN L = L.getD m 0 := by unfold lastN; rw [k1, hm, Nat.add_sub_cancel]
      rw [← e]; exact hlim
    have hcast : (r.length : Int) - 1 = (m : Int) := by omega
    have HW := Lib.hid hW
    have HWO : Hid (wordOf r = (dens r).getD m []) := Lib.hid (by unfold wordOf; rw [hm, Nat.add_sub_cancel])
    have HM := Lib.hid hm
    have HLA := Lib.hid hlast
    clear hW hl henv hr k1 k2 hm hlim hlast
    go_enter Tryz.func39, Tryz.ntmps39
    go_wp2_with fail
    refine (HW.out _ [] (fun _ => none) HST.out (by have := HLA.out; simpa using this)).mono ?_
    rintro e w7 ⟨rfl, f7, hwr7, _, _⟩
    obtain ⟨Ao, co, p1, p2⟩ := hwr7.out
    have e2 := p1.cell 0
    rw [List.nil_append, ← HWO.out] at e2 p2
    have hrun := run_string_own (P := Tryz.prog) w7 72 9 5 Tryz.underlying72 Tryz.underlying5 Tryz.underlying9 _ _ _ _ _ p2
    have HB7 := Lib.hid hwr7.below
    clear hwr7 p1 p2
    go_wp2
    go_ret
    exact ⟨rfl, HB7.out⟩
  · have h0 : r.length = 0 := by omega
    obtain rfl : r = [] := List.length_eq_zero_iff.1 h0
    obtain ⟨Ao, co, p1, p2⟩ := HST.out.out
    clear hl henv hr k1 k2 hlim
    have hrun : ∀ w, (convert 72 9 (.slice none 0 0)).run Tryz.prog w = .ok (.string ⟨#[]⟩) w := fun w => run_string_own (P := Tryz.prog) w 72 9 5 Tryz.underlying72 Tryz.underlying5 Tryz.underlying9 0 none 0 0 [] (World.ownsRow_nil _ _ _ _)
    have HB := Lib.hid HST.out.below
    clear p1 p2
    go_enter Tryz.func39, Tryz.ntmps39
    go_wp2
    go_ret
    exact ⟨rfl, HB.out⟩

/-- What Word returns. -/
def wordR (r : List Nd) : List UInt8 := match lens r with | some L => if lastN L ≤ 100000 then wordOf r else [] | none => []
def wordE (r : List Nd) : Int := match lens r with | some L => if lastN L ≤ 100000 then 0 else 2 | none => 20

set_option maxHeartbeats 1000000 in
theorem Word_any (A : Option Addr) (r : List Nd) (cap : Nat) (w : World) (ht : Tabs w) (hr : RopeAt w A r) (hm : r.length ≤ maxLen) :
    Calls Tryz.prog 18 #[.slice A r.length cap] w fun e w' => e = .returned (.tuple #[.string ⟨(wordR r).toArray⟩, .int .i64 (wordE r)]) ∧ Below w.heap.size w w' := by
  have hM := measure_any A r cap w ht hr hm
  have HR := Lib.hid hr
  unfold maxLen at hm
  clear ht hr
  cases hl : lens r with
  | none =>
    have h1 : Hid (wordR r = [] ∧ wordE r = 20) := Lib.hid (by simp [wordR, wordE, hl])
    have HL := Lib.hid hl
    clear hl
    go_enter Tryz.func18, Tryz.ntmps18
    go_wp2_with fail
    refine hM.mono ?_
    rintro e w1 ⟨_, hno⟩
    obtain ⟨rfl, hb⟩ := hno HL.out
    go_wp2
    go_ret2
    exact ⟨by rw [h1.out.1, h1.out.2]; rfl, hb⟩
  | some L =>
    obtain ⟨k1, k2, k3⟩ := lens_ok hl
    have HL := Lib.hid hl
    have HK := Lib.hid k1
    by_cases hlim : lastN L ≤ 100000
    · have h1 : Hid (wordR r = wordOf r ∧ wordE r = 0) := Lib.hid (by simp [wordR, wordE, hl, hlim])
      have hd : decide (100000 < (lastN L : Int)) = false := by simp; omega
      have HLIM := Lib.hid hlim
      clear hl k1 k2 hlim
      go_enter Tryz.func18, Tryz.ntmps18
      go_wp2_with fail
      refine hM.mono ?_
      rintro e w1 ⟨hyes, _⟩
      obtain ⟨B, hB, rfl, henv, hb⟩ := hyes L HL.out
      have hv := value_last w1 B _ L (by rw [HK.out]; exact k3) henv ((r.length : Int) - 1) (by rw [HK.out])
      have hx := expand_any A r cap L HL.out B w1 _ henv (HR.out.on hb) HLIM.out
      have HV := Lib.hid hv
      have HX := Lib.hid hx
      have HB := Lib.hid hb
      clear hyes hv henv hx hb
      generalize lastN L = m at *
      go_wp2_with fail
      refine HV.out.mono ?_; rintro e w' ⟨rfl, rfl⟩
      go_wp2_with fail
      refine HX.out.mono ?_; rintro e w3 ⟨rfl, hb3⟩
      go_wp2
      go_ret2
      exact ⟨by rw [h1.out.1, h1.out.2]; rfl, HB.out.trans (hb3.mono HB.out.size)⟩
    · have h1 : Hid (wordR r = [] ∧ wordE r = 2) := Lib.hid (by simp [wordR, wordE, hl, hlim])
      have hd : decide (100000 < (lastN L : Int)) = true := by simp; omega
      clear hl k1 k2 hlim
      go_enter Tryz.func18, Tryz.ntmps18
      go_wp2_with fail
      refine hM.mono ?_
      rintro e w1 ⟨hyes, _⟩
      obtain ⟨B, hB, rfl, henv, hb⟩ := hyes L HL.out
      have hv := value_last w1 B _ L (by rw [HK.out]; exact k3) henv ((r.length : Int) - 1) (by rw [HK.out])
      have HV := Lib.hid hv
      clear hyes hv henv
      generalize lastN L = m at *
      go_wp2_with fail
      refine HV.out.mono ?_; rintro e w' ⟨rfl, rfl⟩
      go_wp2
      go_ret2
      exact ⟨by rw [h1.out.1, h1.out.2]; rfl, hb⟩
end Go.Proofs.YtgklmcinbaghmaaGreatDoor
