/-
  Our own text, in the proofs of the laws of package word (cayleylaw01). Proved here: atEnd and the commutator. Conditions: the arguments read as the row says and the listed tables lie as the program lays them; none other.
-/
import Derived.Test.YtflieikbhgneoaaGreatDoorWv
namespace Go.Proofs.YtflieikbhgneoaaGreatDoor
open Go Go.RowKit

/-- All but block b is as it was; blocks may have come. -/
structure Par (b : Nat) (w w' : World) : Prop where
  os : w'.os = w.os
  tape : w'.tape = w.tape
  output : w'.output = w.output
  size : w.heap.size ≤ w'.heap.size
  block : ∀ k, k < w.heap.size → k ≠ b → w'.heap[k]? = w.heap[k]?
theorem Par.refl (b : Nat) (w : World) : Par b w w := ⟨rfl, rfl, rfl, Nat.le_refl _, fun _ _ _ => rfl⟩
theorem Par.trans {b : Nat} {x y z : World} (h : Par b x y) (k : Par b y z) : Par b x z :=
  ⟨k.os.trans h.os, k.tape.trans h.tape, k.output.trans h.output, Nat.le_trans h.size k.size, fun i hi hn => (k.block i (Nat.lt_of_lt_of_le hi h.size) hn).trans (h.block i hi hn)⟩
theorem Par.of {b : Nat} {w w' : World} (h : Below w.heap.size w w') : Par b w w' := ⟨h.os, h.tape, h.output, h.size, fun k hk _ => h.block k hk⟩
theorem Par.put (b : Nat) (w : World) (m : List UInt8) : Par b w (putT w b m) :=
  ⟨rfl, rfl, rfl, by simp [World.setCell], fun k _ hk => Below.heap_setCell w ⟨b, 0, none⟩ _ k (by simpa using hk)⟩
theorem Par.below {b : Nat} {w w' : World} (h : Par b w w') (hb : b ≤ w.heap.size) : Below b w w' := ⟨h.os, h.tape, h.output, h.size, fun k hk => h.block k (by omega) (by omega)⟩
theorem Tabs.par {w w' : World} {b : Nat} (ht : Tabs w) (hb : 2 < b) (hl : b ≤ w.heap.size) (h : Par b w w') : Tabs w' := ht.below hb (h.below hl)
theorem AtT.lt {w : World} {b : Nat} {l : List UInt8} (h : AtT w b l) : b < w.heap.size := lt_of_cell h.1
theorem AtT.on {w w' : World} {b : Nat} {l : List UInt8} (h : AtT w b l) (hb : Below w.heap.size w w') : AtT w' b l :=
  ⟨(hb.cell (p := ⟨b, 0, none⟩) h.lt).trans h.1, (hb.frozen (p := ⟨b, 0, none⟩) h.lt).trans h.2⟩
theorem ownT.par {w w' : World} {B n b : Nat} {v : Value} {l : List UInt8} (h : ownT w B v n l) (hB : b < B) (hp : Par b w w') : ownT w' B v n l := by
  refine ⟨h.1, ?_⟩
  rcases h.2 with h1 | ⟨g, cap, cur, fz, hv, hg, hh, rest⟩
  · exact .inl h1
  · exact .inr ⟨g, cap, cur, fz, hv, hg, by rw [hp.block g (Array.getElem?_eq_some_iff.1 hh).1 (by omega)]; exact hh, rest⟩

def endF (t : List UInt8) : Bool := match trim t with
  | [] => true
  | c :: _ => decide (c = 41 ∨ c = 44 ∨ c = 93)

set_option maxHeartbeats 400000 in
theorem atEnd_any (b : Nat) (l : List UInt8) (w : World) (h : AtT w b l) :
    Calls Tryz.prog 65 #[.pointer (some ⟨b, 0, none⟩)] w fun e w' => e = .returned (.bool (endF l)) ∧ w' = putT w b (trim l) := by
  have hM := more_any b l w h
  have h1 := h.put (trim l)
  have hc := h1.1
  cases ht : trim l with
  | nil =>
    have HE : Hid (endF l = true) := Lib.hid (by unfold endF; rw [ht])
    rw [ht] at hM hc
    clear h h1 ht
    go_enter Tryz.func65, Tryz.ntmps65
    go_wp2_with (go_at_call 60; refine hM.mono ?_; rintro e w' ⟨rfl, rfl⟩)
    go_ret
    exact ⟨by rw [HE.out]; rfl, rfl⟩
  | cons c t =>
    have HE : Hid (endF l = decide (c = 41 ∨ c = 44 ∨ c = 93)) := Lib.hid (by unfold endF; rw [ht])
    rw [ht] at hM hc
    have hz : ((ByteArray.mk (c :: t).toArray)[0]'(by simp [ByteArray.size])) = c := rfl
    clear h h1 ht
    by_cases h1 : c = 41
    · subst h1
      go_enter Tryz.func65, Tryz.ntmps65
      go_wp2_with (go_at_call 60; refine hM.mono ?_; rintro e w' ⟨rfl, rfl⟩)
      go_ret
      exact ⟨by rw [HE.out]; rfl, rfl⟩
    by_cases h2 : c = 44
    · subst h2
      go_enter Tryz.func65, Tryz.ntmps65
      go_wp2_with (go_at_call 60; refine hM.mono ?_; rintro e w' ⟨rfl, rfl⟩)
      go_ret
      exact ⟨by rw [HE.out]; rfl, rfl⟩
    by_cases h3 : c = 93
    · subst h3
      go_enter Tryz.func65, Tryz.ntmps65
      go_wp2_with (go_at_call 60; refine hM.mono ?_; rintro e w' ⟨rfl, rfl⟩)
      go_ret
      exact ⟨by rw [HE.out]; rfl, rfl⟩
    have e1 := u8_ne c 41 41 rfl h1
    have e2 := u8_ne c 44 44 rfl h2
    have e3 := u8_ne c 93 93 rfl h3
    have HE2 : Hid (endF l = false) := Lib.hid (by rw [HE.out]; simp [h1, h2, h3])
    clear h1 h2 h3
    go_enter Tryz.func65, Tryz.ntmps65
    go_wp2_with (go_at_call 60; refine hM.mono ?_; rintro e w' ⟨rfl, rfl⟩)
    go_ret
    exact ⟨by rw [HE2.out]; rfl, rfl⟩

def commW (u v : List UInt8) : List UInt8 := ap (ap (ap u v) (invW u)) (invW v)

set_option maxHeartbeats 1000000 in
theorem comm_yes (u v : List UInt8) (w : World) (hl : 2 * (u.length + v.length) ≤ 100000) :
    Calls Tryz.prog 99 #[.string ⟨u.toArray⟩, .string ⟨v.toArray⟩] w fun e w' => e = .returned (.string ⟨(commW u v).toArray⟩) ∧ Below w.heap.size w w' := by
  obtain ⟨w1, hconv, hown, hb⟩ := bytes_T w u
  have hF := fit_yes (2 * ((u.length : Int) + v.length)) (by omega) w
  have HOWN := Lib.hid (hown (by omega))
  have HB := Lib.hid hb
  have hlu : u.length ≤ 100000 := by omega
  have hlv : v.length ≤ 100000 := by omega
  clear hown hb
  go_enter Tryz.func99, Tryz.ntmps99
  go_wp2_with (go_at_call 66; refine hF.mono ?_; rintro e w' ⟨rfl, rfl⟩)
  have hap1 := appendReduced_any w.heap.size _ _ _ u v w1 HOWN.out HB.out.size (by omega)
  generalize grownCap w u.length 0 5 = gc at *
  clear hconv
  refine hap1.mono ?_
  rintro e w2 ⟨⟨A2, n2, cap2, rfl, ho2⟩, hb2⟩
  clear hap1
  have B2 := Lib.hid (HB.out.trans hb2)
  have O2 := Lib.hid ho2
  have hl2 := ap_len u v
  clear hb2 ho2
  go_wp2_with fail
  refine (inverse_any ⟨u.toArray⟩ _ (by rw [size_mk]; omega)).mono ?_
  rintro e w3 ⟨rfl, hb3⟩
  have B3 := Lib.hid (B2.out.trans (hb3.mono B2.out.size))
  have O3 := Lib.hid (O2.out.below hb3)
  have hi1 := invW_len u
  have hap3 := appendReduced_any w.heap.size A2 n2 cap2 (ap u v) (invW u) w3 O3.out B3.out.size (by omega)
  clear hb3
  go_wp2_with fail
  refine hap3.mono ?_
  rintro e w4 ⟨⟨A4, n4, cap4, rfl, ho4⟩, hb4⟩
  clear hap3
  have B4 := Lib.hid (B3.out.trans hb4)
  have O4 := Lib.hid ho4
  have hl4 := ap_len (ap u v) (invW u)
  clear hb4 ho4
  go_wp2_with fail
  refine (inverse_any ⟨v.toArray⟩ _ (by rw [size_mk]; omega)).mono ?_
  rintro e w5 ⟨rfl, hb5⟩
  have B5 := Lib.hid (B4.out.trans (hb5.mono B4.out.size))
  have O5 := Lib.hid (O4.out.below hb5)
  have hi2 := invW_len v
  have hap5 := appendReduced_any w.heap.size A4 n4 cap4 (ap (ap u v) (invW u)) (invW v) w5 O5.out B5.out.size (by omega)
  clear hb5
  go_wp2_with fail
  refine hap5.mono ?_
  rintro e w6 ⟨⟨A6, n6, cap6, rfl, ho6⟩, hb6⟩
  clear hap5
  have B6 := Lib.hid (B5.out.trans hb6)
  have hrun := run_string_T w6 w.heap.size A6 n6 cap6 _ ho6
  have HR : Hid (commW u v = ap (ap (ap u v) (invW u)) (invW v)) := Lib.hid rfl
  generalize ap (ap (ap u v) (invW u)) (invW v) = R at *
  clear hb6 ho6
  go_wp2
  go_ret
  exact ⟨by rw [HR.out]; rfl, B6.out⟩

set_option maxHeartbeats 400000 in
theorem comm_no (u v : List UInt8) (w : World) (hl : 100000 < 2 * (u.length + v.length)) (h1 : u.length ≤ 100000) (h2 : v.length ≤ 100000) :
    Calls Tryz.prog 99 #[.string ⟨u.toArray⟩, .string ⟨v.toArray⟩] w fun e w' => e = .panicked (leaves 2) ∧ w = w' := by
  have hF := fit_no (2 * ((u.length : Int) + v.length)) (by omega) w
  go_enter Tryz.func99, Tryz.ntmps99
  go_wp2_with (go_at_call 66; refine hF.mono ?_; rintro e w' ⟨rfl, rfl⟩)
  exact ⟨rfl, rfl, rfl⟩
end Go.Proofs.YtflieikbhgneoaaGreatDoor
