/-
  Our own text, in the proofs of the laws of package word (cayleylaw01). Proved here: a base of an expression, given its expressions. Conditions: the arguments read as the row says and the listed tables lie as the program lays them; none other.
-/
import Derived.Test.YtflieikbhgneoaaGreatDoorWx
namespace Go.Proofs.YtflieikbhgneoaaGreatDoor
open Go Go.RowKit

/-- What an expression's call owes, at fuel f. -/
def ExprAt (f b : Nat) : Prop := ∀ text r w, exprF f text = some r → AtT w b text → text.length ≤ 1000000 → Calls Tryz.prog 51 #[.pointer (some ⟨b, 0, none⟩)] w (ParPost w b r)

theorem ExprAt.lim {f b : Nat} (h : ExprAt f b) {text : List UInt8} {w : World} (hr : exprF f text = some .lim) (hat : AtT w b text) (hl : text.length ≤ 1000000) :
    Calls Tryz.prog 51 #[.pointer (some ⟨b, 0, none⟩)] w fun e w' => e = .panicked (leaves 2) ∧ Par b w w' := (h text _ w hr hat hl).mono fun _ _ h => ⟨h.2, h.1⟩
theorem ExprAt.ok {f b : Nat} (h : ExprAt f b) {text v t : List UInt8} {w : World} (hr : exprF f text = some (.ok v t)) (hat : AtT w b text) (hl : text.length ≤ 1000000) :
    Calls Tryz.prog 51 #[.pointer (some ⟨b, 0, none⟩)] w fun e w' => e = .returned (.string ⟨v.toArray⟩) ∧ Par b w w' ∧ AtT w' b t ∧ v.length ≤ 100000 ∧ t.length ≤ 1000000 := (h text _ w hr hat hl).mono fun _ _ h => ⟨h.2.1, h.1, h.2.2⟩

set_option maxHeartbeats 1000000 in
theorem base_of (f b : Nat) (text : List UInt8) (r : Res) (w : World) (hr : baseF (f + 1) text = some r) (h : AtT w b text) (hl : text.length ≤ 1000000) (hexpr : ExprAt f b) :
    Calls Tryz.prog 83 #[.pointer (some ⟨b, 0, none⟩)] w (ParPost w b r) := by
  have HX := Lib.hid hexpr
  clear hexpr
  unfold baseF at hr
  cases htm : trim text with
  | nil => rw [htm] at hr; simp at hr
  | cons c t =>
    rw [htm] at hr
    simp only at hr
    have hN := next_any b text w h c t htm
    have hat := h.put t
    have hp0 := Par.put b w t
    have htl := trim_len text
    rw [htm] at htl
    simp only [List.length_cons] at htl
    have htl1 : t.length ≤ 1000000 := by omega
    generalize hw1 : putT w b t = w1 at *
    clear hw1 h htm htl hl
    by_cases h1 : c = 49
    · rw [if_pos h1] at hr
      obtain rfl : r = .ok [] t := by simpa using hr.symm
      subst h1
      clear hr
      go_enter Tryz.func83, Tryz.ntmps83
      go_wp2_with (go_at_call 62; refine hN.mono ?_; rintro e w1 ⟨rfl, rfl⟩)
      go_ret
      exact ⟨hp0, rfl, hat, by simp, htl1⟩
    rw [if_neg h1] at hr
    have e1 := u8_ne c 49 49 rfl h1
    by_cases h2 : c = 40
    · rw [if_pos h2] at hr
      subst h2
      clear e1 h1
      cases hx : exprF f t with
      | none => rw [hx] at hr; simp at hr
      | some r0 =>
        rw [hx] at hr
        cases r0 with
        | lim =>
          obtain rfl : r = .lim := by simpa using hr.symm
          have hE := HX.out.lim hx hat htl1
          clear hr hx
          go_enter Tryz.func83, Tryz.ntmps83
          go_wp2_with fail
          refine hN.mono ?_; rintro e w1 ⟨rfl, rfl⟩
          go_wp2_with fail
          refine hE.mono ?_; rintro e w2 ⟨rfl, hp⟩
          exact ⟨rfl, hp0.trans hp, rfl⟩
        | ok v t2 =>
          simp only at hr
          have hE := HX.out.ok hx hat htl1
          cases ht2 : trim t2 with
          | nil => rw [ht2] at hr; simp at hr
          | cons c3 t3 =>
            rw [ht2] at hr
            obtain rfl : r = .ok v t3 := by simpa using hr.symm
            have htl2 := trim_len t2
            rw [ht2] at htl2
            simp only [List.length_cons] at htl2
            clear hr hx
            go_enter Tryz.func83, Tryz.ntmps83
            go_wp2_with fail
            refine hN.mono ?_; rintro e w1 ⟨rfl, rfl⟩
            go_wp2_with fail
            refine hE.mono ?_; rintro e w2 ⟨rfl, hp, hat2, hvl, htl3⟩
            have hN2 := next_any b t2 w2 hat2 c3 t3 ht2
            have hat3 := hat2.put t3
            have hp3 := (hp0.trans hp).trans (Par.put b w2 t3)
            clear hat2 hp ht2
            go_wp2_with fail
            refine hN2.mono ?_; rintro e w3 ⟨rfl, rfl⟩
            go_wp2
            go_ret
            exact ⟨hp3, rfl, hat3, hvl, by omega⟩
    rw [if_neg h2] at hr
    have e2 := u8_ne c 40 40 rfl h2
    by_cases h3 : c = 91
    · rw [if_pos h3] at hr
      subst h3
      clear e1 h1 e2 h2
      cases hx : exprF f t with
      | none => rw [hx] at hr; simp at hr
      | some r0 =>
        rw [hx] at hr
        cases r0 with
        | lim =>
          obtain rfl : r = .lim := by simpa using hr.symm
          have hE := HX.out.lim hx hat htl1
          clear hr hx
          go_enter Tryz.func83, Tryz.ntmps83
          go_wp2_with fail
          refine hN.mono ?_; rintro e w1 ⟨rfl, rfl⟩
          go_wp2_with fail
          refine hE.mono ?_; rintro e w2 ⟨rfl, hp⟩
          exact ⟨rfl, hp0.trans hp, rfl⟩
        | ok u t2 =>
          simp only at hr
          have hE := HX.out.ok hx hat htl1
          cases ht2 : trim t2 with
          | nil => rw [ht2] at hr; simp at hr
          | cons c3 t3 =>
            rw [ht2] at hr
            simp only at hr
            have htl2 := trim_len t2
            rw [ht2] at htl2
            simp only [List.length_cons] at htl2
            cases hx2 : exprF f t3 with
            | none => rw [hx2] at hr; simp at hr
            | some r1 =>
              rw [hx2] at hr
              go_enter Tryz.func83, Tryz.ntmps83
              go_wp2_with fail
              refine hN.mono ?_; rintro e w1 ⟨rfl, rfl⟩
              go_wp2_with fail
              refine hE.mono ?_; rintro e w2 ⟨rfl, hp, hat2, hul, htl3⟩
              have hN2 := next_any b t2 w2 hat2 c3 t3 ht2
              have hat3 := hat2.put t3
              have hp3 := (hp0.trans hp).trans (Par.put b w2 t3)
              clear hat2 hp ht2 hx hE hN
              go_wp2_with fail
              refine hN2.mono ?_; rintro e w3 ⟨rfl, rfl⟩
              cases r1 with
              | lim =>
                obtain rfl : r = .lim := by simpa using hr.symm
                have hE2 := HX.out.lim hx2 hat3 (by omega)
                clear hr hx2
                go_wp2_with fail
                refine hE2.mono ?_; rintro e w4 ⟨rfl, hp⟩
                exact ⟨rfl, hp3.trans hp, rfl⟩
              | ok v t4 =>
                simp only at hr
                have hE2 := HX.out.ok hx2 hat3 (by omega)
                cases ht4 : trim t4 with
                | nil => rw [ht4] at hr; simp at hr
                | cons c5 t5 =>
                  rw [ht4] at hr
                  simp only [Option.some.injEq] at hr
                  have htl4 := trim_len t4
                  rw [ht4] at htl4
                  simp only [List.length_cons] at htl4
                  clear hx2
                  go_wp2_with fail
                  refine hE2.mono ?_; rintro e w4 ⟨rfl, hp, hat4, hvl, htl5⟩
                  have hN3 := next_any b t4 w4 hat4 c5 t5 ht4
                  have hat5 := hat4.put t5
                  have hp5 := (hp3.trans hp).trans (Par.put b w4 t5)
                  clear hat4 hp ht4 hE2
                  go_wp2_with fail
                  refine hN3.mono ?_; rintro e w5 ⟨rfl, rfl⟩
                  by_cases hfit : 2 * (u.length + v.length) ≤ 100000
                  · have hr2 : r = .ok (commW u v) t5 := by rw [← hr]; simp only [fitF]; rw [if_pos (by omega)]
                    have hcl : (commW u v).length ≤ 100000 := by
                      have a1 := ap_len u v
                      have a2 := ap_len (ap u v) (invW u)
                      have a3 := ap_len (ap (ap u v) (invW u)) (invW v)
                      rw [invW_len] at a2 a3
                      unfold commW
                      omega
                    have hC := fun w => comm_yes u v w hfit
                    have HC := Lib.hid hC
                    subst hr2
                    clear hr hC
                    go_wp2_with fail
                    refine (HC.out _).mono ?_; rintro e w6 ⟨rfl, hb6⟩
                    go_wp2
                    go_ret
                    exact ⟨hp5.trans (Par.of hb6), rfl, hat5.on hb6, hcl, by omega⟩
                  · have hr2 : r = .lim := by rw [← hr]; simp only [fitF]; rw [if_neg (by omega)]
                    have hC := fun w => comm_no u v w (by omega) hul hvl
                    have HC := Lib.hid hC
                    subst hr2
                    clear hr hC
                    go_wp2_with fail
                    refine (HC.out _).mono ?_; rintro e w6 ⟨rfl, rfl⟩
                    exact ⟨rfl, hp5, rfl⟩
    rw [if_neg h3] at hr
    have e3 := u8_ne c 91 91 rfl h3
    by_cases h4 : c.toNat < 128
    · rw [if_pos h4] at hr
      obtain rfl : r = .ok [c] t := by simpa using hr.symm
      have henc := encode_byte c h4
      have hconv : ∀ w, (convert 5 9 (.int .u8 (c.toNat : Int))).run Tryz.prog w = .ok (.string ⟨#[c]⟩) w := fun w => by
        rw [run_convert_int_string w 5 9 .u8 _ (by rw [Tryz.underlying5]; rfl) Tryz.underlying9, henc]
      clear hr h1 h2 h3 henc
      go_enter Tryz.func83, Tryz.ntmps83
      go_wp2_with (go_at_call 62; refine hN.mono ?_; rintro e w1 ⟨rfl, rfl⟩)
      go_ret
      exact ⟨hp0, rfl, hat, by simp, htl1⟩
    · rw [if_neg h4] at hr
      cases hr
end Go.Proofs.YtflieikbhgneoaaGreatDoor
