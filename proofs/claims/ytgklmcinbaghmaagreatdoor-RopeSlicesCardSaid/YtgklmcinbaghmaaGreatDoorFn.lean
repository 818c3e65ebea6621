/-
  Our own text, in the proof of the law RopeSlices of package rope (cayleylaw02). Proved here: the slicer cuts every node. Conditions: the nodes lie in memory as the slice says.
-/
import Derived.Test.YtgklmcinbaghmaaGreatDoorFm
namespace Go.Proofs.YtgklmcinbaghmaaGreatDoor
open Go Go.RowKit

theorem cut_any {base Q P Bm B : Nat} {ad : Addr} {cap : Nat} {a : List Nd} {L : List Nat} (hl : Lie base Q P Bm B) (hlens : lens a = some L) : ∀ k, k < a.length → CutIH base Q P Bm B ad cap a L k := by
  obtain ⟨hLl, hok, hlen⟩ := lens_ok hlens
  intro k
  induction k using Nat.strongRecOn with
  | ind k ih =>
    intro hk W o Ao co n f i j h hij hj hP
    have hll := fun x (hx : x < a.length) => dens_lens hlens x hx
    by_cases hwh : i = 0 ∧ j = L.getD k 0
    · obtain ⟨rfl, rfl⟩ := hwh
      have hx : XC L k 0 (L.getD k 0) = 0 := by unfold XC; rw [if_pos ⟨rfl, rfl⟩]
      have hu : cutW (wordK a k) 0 (L.getD k 0) = wordK a k := by rw [← hll k hk]; exact cutW_all _
      rw [hx, hu]
      exact cut_whole hl hlens h k hk (by omega)
    · have hxp := XC_pos L k i j hwh
      rcases node_is hlens k hk with ⟨hw, hlf, h1, h2, h3, hd⟩ | ⟨hw, b, c, hb1, hc1, h1, h2, h3, hd, hn⟩ | ⟨hw, b, m, hb1, hm, h1, h2, h3, hd, hn⟩
      · exact (cut_leaf hl hlens h k hk i j hij hj hwh (by omega) hw hlf hd).mono fun _ _ x => x.more hxp
      · refine cut_join hl hlens h k hk i j hij hj hwh _ _ b c hw h1 h2 h3 fun W2 h2' => ?_
        exact cutJoin_any hl hLl hlen h2' k hk i j hij hj hwh hP b c hb1 hc1 hn (okL_get hok (i := b) (by omega)).1 (okL_get hok (i := c) (by omega)).1 (okL_le hok k) hd (hll b (by omega)) (hll c (by omega)) (ih b hb1 (by omega)) (ih c hc1 (by omega))
      · refine cut_pow hl hlens h k hk i j hij hj hwh _ _ b m hm hw h1 h3 fun W2 h2' => ?_
        exact cutPower_any hl hLl hlen h2' k hk i j hij hj hwh hP b m hb1 hn (okL_get hok (i := b) (by omega)).1 (okL_le hok k) (okL_le hok b) hd (hll b (by omega)) (ih b hb1 (by omega)) (keep_any hl hlens b (by omega))

end Go.Proofs.YtgklmcinbaghmaaGreatDoor
