/-
  Our own text, in the proofs of the laws of package word (cayleylaw01). Proved here: an expression, and all three parts at every depth. Conditions: the arguments read as the row says and the listed tables lie as the program lays them; none other.
-/
import Derived.Test.YtflieikbhgneoaaGreatDoorWz
namespace Go.Proofs.YtflieikbhgneoaaGreatDoor
open Go Go.RowKit

/-- What a factor's call owes, at fuel f. -/
def FactorAt (f b : Nat) : Prop := ∀ text r w, factorF f text = some r → AtT w b text → text.length ≤ 1000000 → Calls Tryz.prog 64 #[.pointer (some ⟨b, 0, none⟩)] w (ParPost w b r)

theorem FactorAt.lim {f b : Nat} (h : FactorAt f b) {text : List UInt8} {w : World} (hr : factorF f text = some .lim) (hat : AtT w b text) (hl : text.length ≤ 1000000) :
    Calls Tryz.prog 64 #[.pointer (some ⟨b, 0, none⟩)] w fun e w' => e = .panicked (leaves 2) ∧ Par b w w' := (h text _ w hr hat hl).mono fun _ _ h => ⟨h.2, h.1⟩
theorem FactorAt.ok {f b : Nat} (h : FactorAt f b) {text v t : List UInt8} {w : World} (hr : factorF f text = some (.ok v t)) (hat : AtT w b text) (hl : text.length ≤ 1000000) :
    Calls Tryz.prog 64 #[.pointer (some ⟨b, 0, none⟩)] w fun e w' => e = .returned (.string ⟨v.toArray⟩) ∧ Par b w w' ∧ AtT w' b t ∧ v.length ≤ 100000 ∧ t.length ≤ 1000000 := (h text _ w hr hat hl).mono fun _ _ h => ⟨h.2.1, h.1, h.2.2⟩

/-- The length of the text that is left. -/
def textN (w : World) (b : Nat) : Nat := match w.cell? ⟨b, 0, none⟩ with | some (.string s) => s.size | _ => 0
theorem AtT.textN {w : World} {b : Nat} {l : List UInt8} (h : AtT w b l) : textN w b = l.length := by
  unfold Go.Proofs.YtflieikbhgneoaaGreatDoor.textN; rw [h.1]; exact size_mk l

theorem ownT.len {w : World} {B n : Nat} {v : Value} {l : List UInt8} (h : ownT w B v n l) : n = l.length := h.1.symm

set_option maxHeartbeats 2000000 in
set_option maxRecDepth 100000 in
theorem expr_of (f b : Nat) (hF : ∀ g, g ≤ f → FactorAt g b) (text : List UInt8) (r : Res) (w : World) (hr : exprF (f + 1) text = some r) (h : AtT w b text) (hl : text.length ≤ 1000000) :
    Calls Tryz.prog 51 #[.pointer (some ⟨b, 0, none⟩)] w (ParPost w b r) := by
  have HF := Lib.hid hF
  clear hF
  unfold exprF at hr
  cases hx : factorF f text with
  | none => rw [hx] at hr; simp at hr
  | some r0 =>
    rw [hx] at hr
    cases r0 with
    | lim =>
      obtain rfl : r = .lim := by simpa using hr.symm
      have hE := (HF.out f (Nat.le_refl _)).lim hx h hl
      clear hr hx h
      go_enter Tryz.func51, Tryz.ntmps51
      go_wp2_with fail
      refine hE.mono ?_; rintro e w2 ⟨rfl, hp⟩
      exact ⟨rfl, hp, rfl⟩
    | ok v t =>
      simp only at hr
      have hE := (HF.out f (Nat.le_refl _)).ok hx h hl
      have hlt := (shrinks f).2.1 _ _ _ hx
      clear hx h
      go_enter Tryz.func51, Tryz.ntmps51
      go_wp2_with fail
      refine hE.mono ?_; rintro e w2 ⟨rfl, hp, hat, hvl, htl⟩
      have hA := atEnd_any b t w2 hat
      have hat2 := hat.put (trim t)
      have hp2 := hp.trans (Par.put b w2 (trim t))
      have htt := trim_len t
      clear hE hat hp
      generalize hw3 : putT w2 b (trim t) = w3 at *
      clear hw3
      by_cases he : endF t = true
      · rw [if_pos he] at hr
        obtain rfl : r = .ok v (trim t) := by simpa using hr.symm
        rw [he] at hA
        clear hr he
        go_wp2_with fail
        refine hA.mono ?_; rintro e w3 ⟨rfl, rfl⟩
        go_wp2
        go_ret
        exact ⟨hp2, rfl, hat2, hvl, by omega⟩
      · rw [if_neg he] at hr
        simp only [Bool.not_eq_true] at he
        rw [he] at hA
        clear he
        obtain ⟨w4, hconv, hown, hb⟩ := bytes_T w3 v
        have HOWN := Lib.hid (hown (by omega))
        have HB := Lib.hid hb
        have hat4 := hat2.on hb
        have hp4 := hp2.trans (Par.of hb)
        have HAT := Lib.hid hat4
        have HP := Lib.hid hp4
        have HR := Lib.hid hr
        have hbB := hat2.lt
        have hp2sz := hp2.size
        have HBS := Lib.hid hb.size
        clear hown hb hat4 hp4 hr hat2 hp2
        go_wp2_with fail
        refine hA.mono ?_; rintro e w3 ⟨rfl, rfl⟩
        go_wp2_with fail
        have hB3 := HB.out.size
        have hwB := hp2sz
        generalize hBB : w3.heap.size = B at *
        clear hconv hA hBB
        go_loopw [4, 5] (fun a c wr => ∃ (A : Option Addr) (n cap total g : Nat) (p t' : List UInt8), a = .slice A n cap ∧ c = .int .i64 (total : Int) ∧ ownT wr B a n p ∧ AtT wr b t' ∧ Par b w wr ∧ B ≤ wr.heap.size ∧
            loopF g p total t' = some r ∧ g ≤ f ∧ p.length ≤ total ∧ total ≤ 100000 ∧ t'.length ≤ 1000000)
          (fun _ _ wr => textN wr b)
        case atStart => exact ⟨_, _, _, _, f, v, trim t, rfl, rfl, HOWN.out, HAT.out, HP.out, HBS.out, HR.out, Nat.le_refl _, Nat.le_refl _, hvl, by omega⟩
        case round =>
          obtain ⟨A, n, cap, total, g, p, t', rfl, rfl, hown, hat, hp, hBw, hr, hg, hpt, htot, htl'⟩ := hrel
          clear HOWN HAT HP HBS HR HB
          cases g with
          | zero => simp [loopF] at hr
          | succ g =>
            unfold loopF at hr
            have htn := hat.textN
            have hA := atEnd_any b t' wr hat
            have hat2 := hat.put (trim t')
            have hp2 := hp.trans (Par.put b wr (trim t'))
            have hown2 := hown.par hbB (Par.put b wr (trim t'))
            have hB2 : B ≤ (putT wr b (trim t')).heap.size := by simp [World.setCell]; exact hBw
            have htt := trim_len t'
            clear hat hp hown
            generalize hw3 : putT wr b (trim t') = w5 at *
            clear hw3
            by_cases he : endF t' = true
            · rw [if_pos he] at hr
              obtain rfl : r = .ok p (trim t') := by simpa using hr.symm
              rw [he] at hA
              have hrun := run_string_T w5 B A n cap p hown2
              clear hr he hown2
              go_wp2_with (go_at_call 65; refine hA.mono ?_; rintro e w5 ⟨rfl, rfl⟩)
              go_ret
              exact ⟨hp2, rfl, hat2, by omega, by omega⟩
            · rw [if_neg he] at hr
              simp only [Bool.not_eq_true] at he
              rw [he] at hA
              clear he
              cases hx : factorF g (trim t') with
              | none => rw [hx] at hr; simp at hr
              | some r1 =>
                rw [hx] at hr
                cases r1 with
                | lim =>
                  obtain rfl : r = .lim := by simpa using hr.symm
                  have hE := (HF.out g (by omega)).lim hx hat2 (by omega)
                  clear hr hx
                  go_wp2_with fail
                  refine hA.mono ?_; rintro e w5 ⟨rfl, rfl⟩
                  go_wp2_with fail
                  refine hE.mono ?_; rintro e w6 ⟨rfl, hp⟩
                  exact ⟨rfl, hp2.trans hp, rfl⟩
                | ok u t2 =>
                  simp only at hr
                  have hE := (HF.out g (by omega)).ok hx hat2 (by omega)
                  have hlt2 := (shrinks g).2.1 _ _ _ hx
                  clear hx
                  go_wp2_with fail
                  refine hA.mono ?_; rintro e w5 ⟨rfl, rfl⟩
                  go_wp2_with fail
                  refine hE.mono ?_; rintro e w6 ⟨rfl, hp, hat6, hul, htl6⟩
                  have hown6 := hown2.par hbB hp
                  have hp6 := hp2.trans hp
                  have hB6 := Nat.le_trans hB2 hp.size
                  clear hp hE hA hown2 hp2 hB2 hat2
                  by_cases hfit : total + u.length ≤ 100000
                  · rw [if_pos hfit] at hr
                    have hFY := fit_yes ((total : Int) + (u.length : Int)) (by omega) w6
                    have hal := ap_len p u
                    have hR := appendReduced_any B A n cap p u w6 hown6 hB6 (by omega)
                    have htn6 : t2.length < textN wr b := by rw [htn]; omega
                    clear hown6
                    go_wp2_with fail
                    refine hFY.mono ?_; rintro e w6 ⟨rfl, rfl⟩
                    go_wp2_with fail
                    refine hR.mono ?_; rintro e w7 ⟨⟨A', n', cap', rfl, hown7⟩, hb7⟩
                    have hat7 : AtT w7 b t2 := ⟨(hb7.cell (p := ⟨b, 0, none⟩) hbB).trans hat6.1, (hb7.frozen (p := ⟨b, 0, none⟩) hbB).trans hat6.2⟩
                    have hp7 : Par b w w7 := ⟨hb7.os.trans hp6.os, hb7.tape.trans hp6.tape, hb7.output.trans hp6.output, Nat.le_trans hp6.size hb7.size, fun k hk hn => (hb7.block k (by omega)).trans (hp6.block k hk hn)⟩
                    go_wp2
                    go_roundw
                    case rel => exact ⟨A', n', cap', total + u.length, g, ap p u, t2, rfl, by simp, hown7, hat7, hp7, Nat.le_trans hB6 hb7.size, hr, by omega, by omega, hfit, htl6⟩
                    case measure => rw [hat7.textN]; exact htn6
                  · rw [if_neg hfit] at hr
                    obtain rfl : r = .lim := by simpa using hr.symm
                    have hFY := fit_no ((total : Int) + (u.length : Int)) (by omega) w6
                    go_wp2_with fail
                    refine hFY.mono ?_; rintro e w7 ⟨rfl, rfl⟩
                    exact ⟨rfl, hp6, rfl⟩

/-- All three, at every fuel. -/
theorem all_at (b : Nat) : ∀ f, (∀ g, g ≤ f → FactorAt g b) ∧ ExprAt f b ∧ (∀ text r w, baseF f text = some r → AtT w b text → text.length ≤ 1000000 → Calls Tryz.prog 83 #[.pointer (some ⟨b, 0, none⟩)] w (ParPost w b r)) := by
  intro f
  induction f with
  | zero =>
    refine ⟨fun g hg => ?_, ?_, ?_⟩
    · obtain rfl : g = 0 := by omega
      intro text r w hr; simp [factorF] at hr
    · intro text r w hr; simp [exprF] at hr
    · intro text r w hr; simp [baseF] at hr
  | succ f ih =>
    obtain ⟨iF, iE, iB⟩ := ih
    refine ⟨fun g hg => ?_, fun text r w hr h hl => expr_of f b iF text r w hr h hl, fun text r w hr h hl => base_of f b text r w hr h hl iE⟩
    by_cases e : g ≤ f
    · exact iF g e
    · obtain rfl : g = f + 1 := by omega
      intro text r w hr h hl
      exact factor_of f b text r w hr h (fun r0 h0 => iB text r0 w h0 h hl)

theorem expr_any (b f : Nat) (text : List UInt8) (r : Res) (w : World) (hr : exprF f text = some r) (h : AtT w b text) (hl : text.length ≤ 1000000) :
    Calls Tryz.prog 51 #[.pointer (some ⟨b, 0, none⟩)] w (ParPost w b r) := (all_at b f).2.1 text r w hr h hl
end Go.Proofs.YtflieikbhgneoaaGreatDoor
