/-
  Our own text, in the proof of the law RopeSlices of package rope (cayleylaw02). Proved here: how a slicer is made. Conditions: none.
-/
import Derived.Test.YtgklmcinbaghmaaGreatDoorFn
namespace Go.Proofs.YtgklmcinbaghmaaGreatDoor
open Go Go.RowKit

/-- How newSlicer ends. -/
def NewP (w : World) (A : Option Addr) (cap : Nat) (a : List Nd) (L : List Nat) (Bm : Nat) (e : Ending) (w' : World) : Prop :=
  e = .returned (.pointer (some ⟨w.heap.size, 0, none⟩)) ∧ Slc w' w.heap.size w.heap.size (w.heap.size + 1) Bm (w.heap.size + 2) A cap a L [] none 0 0 (fun _ => none) ∧ Below w.heap.size w w'

set_option maxHeartbeats 2000000 in
theorem newSlicer_any (A : Option Addr) (a : List Nd) (cap : Nat) (L : List Nat) (Bm : Nat) (w : World) (hlen : a.length ≤ 4000) (hm : EnvI w Bm (.slice A a.length cap) lenM L.length (memoL L)) (hr : RopeAt w A a) (hA : ∀ ad, A = some ad → ad.block < w.heap.size) :
    Calls Tryz.prog 46 #[.slice A a.length cap, envV 76 Bm] w (NewP w A cap a L Bm) := by
  have HM := Lib.hid hm
  have HR := Lib.hid hr
  have HA := Lib.hid hA
  have b1 := Blk.new w 85 #[.slice A a.length cap, envV 76 Bm, .nilFunc, .slice none 0 0]
  have b2 := b1.alloc (.cells #[.pointer (some ⟨w.heap.size, 0, none⟩)] 81)
  have b3 := Blk.new (w.alloc (.cells #[.slice A a.length cap, envV 76 Bm, .nilFunc, .slice none 0 0] 85)) 81 #[.pointer (some ⟨w.heap.size, 0, none⟩)]
  have b0 : Below w.heap.size w ((w.alloc (.cells #[.slice A a.length cap, envV 76 Bm, .nilFunc, .slice none 0 0] 85)).alloc (.cells #[.pointer (some ⟨w.heap.size, 0, none⟩)] 81)) := ((Below.refl _ w).alloc (Nat.le_refl _) _).alloc (by simp) _
  have s0 : ((w.alloc (.cells #[.slice A a.length cap, envV 76 Bm, .nilFunc, .slice none 0 0] 85)).alloc (.cells #[.pointer (some ⟨w.heap.size, 0, none⟩)] 81)).heap.size = w.heap.size + 2 := by simp
  have e1 : (w.alloc (.cells #[.slice A a.length cap, envV 76 Bm, .nilFunc, .slice none 0 0] 85)).heap.size = w.heap.size + 1 := by simp
  rw [e1] at b3
  have h1 := hmf
  have HB1 := Lib.hid b2
  have HB2 := Lib.hid b3
  have HB0 := Lib.hid b0
  clear hm hr hA b1 b2 b3 b0 e1
  go_enter Tryz.func46, Tryz.ntmps46
  go_wp2
  generalize (w.alloc (.cells #[.slice A a.length cap, envV 76 Bm, .nilFunc, .slice none 0 0] 85)).alloc (.cells #[.pointer (some ⟨w.heap.size, 0, none⟩)] 81) = w0 at *
  have HD0 := Lib.hid (HB0.out.drewN 1)
  have HD1 := Lib.hid (show Blk w0.drew w.heap.size 85 #[.slice A a.length cap, envV 76 Bm, .nilFunc, .slice none 0 0] from HB1.out)
  have HD2 := Lib.hid (show Blk w0.drew (w.heap.size + 1) 81 #[.pointer (some ⟨w.heap.size, 0, none⟩)] from HB2.out)
  have p1 : w0.drew.cell? ⟨w.heap.size + 1, 0, none⟩ = some (.pointer (some ⟨w.heap.size, 0, none⟩)) := HB2.out.cell 0
  have hev := evaluatorI_any A a.length cap (.func (.func 65) #[] #[.pointer (some ⟨w.heap.size + 1, 0, none⟩)]) (.func (.func 67) #[.pointer (some ⟨w.heap.size, 0, none⟩)] #[]) (.func (.func 68) #[.pointer (some ⟨w.heap.size, 0, none⟩)] #[]) w0.drew hlen
  rw [show w0.drew.heap.size = w.heap.size + 2 from s0] at hev
  have HE := Lib.hid hev
  clear hev
  go_region_held3 (fun W => W.cell? ⟨w.heap.size + 1, 0, none⟩ = some (.pointer (some ⟨w.heap.size, 0, none⟩)))
    (first | with_reducible exact p1 | with_reducible exact q1 | with_reducible exact q2)
    (first
      | (go_at_call 54; ((with_reducible refine HE.out.mono ?_); rintro e w3 ⟨rfl, henv, hb⟩; have c2 := HD2.out.below hb (by omega); have c1 := HD1.out.below hb (by omega); have q1 : w3.cell? ⟨w.heap.size + 1, 0, none⟩ = some (.pointer (some ⟨w.heap.size, 0, none⟩)) := c2.cell 0; have t1 : w3.cell? ⟨w.heap.size, 2, none⟩ = some .nilFunc := c1.cell 2; have t2 : w3.frozen? ⟨w.heap.size, 2, none⟩ = false := c1.frozen 2; have q2 : (w3.setCell ⟨w.heap.size, 2, none⟩ (envV 76 (w.heap.size + 2))).cell? ⟨w.heap.size + 1, 0, none⟩ = some (.pointer (some ⟨w.heap.size, 0, none⟩)) := (World.cell?_setCell_other _ _ _ _ (by simp)).trans q1; have HC1 := Lib.hid c1; have HC2 := Lib.hid c2; have HNV := Lib.hid henv; have HBB := Lib.hid hb; clear c1 c2 henv hb p1)))
  all_goals (
    rename_i hHeld
    go_wp2
    go_ret
    have hb := HBB.out
    have hml := HM.out.lt
    have hss := hb.size
    have hb4 : Below w.heap.size w (w3.setCell ⟨w.heap.size, 2, none⟩ (envV 76 (w.heap.size + 2))) := (HD0.out.trans (hb.mono (by omega))).setCell (p := ⟨w.heap.size, 2, none⟩) (Nat.le_refl _) _
    have hme : ∀ {Bx : Nat} {sl : Value} {ms : Array Value} {q : Nat} {ff : Int → Option Value} {u : Value}, EnvI w3 Bx sl ms q ff → (Bx + 4 < w.heap.size ∨ w.heap.size < Bx) → EnvI (w3.setCell ⟨w.heap.size, 2, none⟩ u) Bx sl ms q ff := fun hE hx => hE.same' fun i h1 h2 => heap_setCell_ne _ _ _ _ (by simp; omega)
    refine ⟨rfl, ⟨HC1.out.set_ 2 _, ?_, ?_, ?_, ?_, ?_, HA.out, Nat.le_refl _, Nat.le_refl _⟩, hb4⟩
    · exact HC2.out.far (by simp) _
    · exact ⟨rfl, .inl ⟨rfl, rfl⟩⟩
    · exact hme (HM.out.blocks fun i h1 h2 => (hb.block i (by omega)).trans (HD0.out.block i (by omega))) (.inl (by omega))
    · exact hme HNV.out (.inr (by omega))
    · intro k hk
      obtain ⟨ad, e, hx, hs⟩ := HR.out k hk
      refine ⟨ad, e, hx.on hb4 ?_, hs⟩
      have := HA.out ad e
      unfold Addr.add
      split <;> exact this)
end Go.Proofs.YtgklmcinbaghmaaGreatDoor
