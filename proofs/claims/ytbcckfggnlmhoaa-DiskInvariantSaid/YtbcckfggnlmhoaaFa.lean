/-
  Our own text, in the proof of the law DiskGroup of package disk (cayleylaw04). Proved here: products, inverses, conjugates and simplified disks are valid, and their boundaries. Conditions: none.
-/
import Derived.Test.YtbcckfggnlmhoaaEh
namespace Go.Proofs.Ytbcckfggnlmhoaa

theorem chk_one {p : Pr} {d : List Cel} (hp : presB p = true) (hd : diskB p d = true) : chk p [] [d] = 0 := chk_0 hp rfl (by simp [hd])
theorem chk_one' {p : Pr} {d : List Cel} (h : chk p [] [d] = 0) : presB p = true ∧ diskB p d = true := by
  obtain ⟨h1, _, h3⟩ := chk_ok h
  exact ⟨h1, by simpa using h3⟩
theorem chk_word {p : Pr} {u : List UInt8} {d : List Cel} (h : chk p [u] [d] = 0) : presB p = true ∧ isWd p.k u = true ∧ diskB p d = true := by
  obtain ⟨h1, h2, h3⟩ := chk_ok h
  exact ⟨h1, by simpa using h2, by simpa using h3⟩

theorem diskB_mk {p : Pr} {d : List Cel} (h1 : d.length ≤ 100000) (h2 : conjs d ≤ 1000000) (h3 : ∀ c ∈ d, isRelB p c.rel = true ∧ isWd p.k c.conj = true) : diskB p d = true :=
  diskB_good h1 h2 (List.all_eq_true.2 fun c hc => by unfold cellB; rw [(h3 c hc).1, (h3 c hc).2]; rfl)
theorem conjs_rev (d : List Cel) : conjs d.reverse = conjs d := by simp [conjs, List.map_reverse]
theorem conjs_map_inv (d : List Cel) : conjs (d.map invC) = conjs d := by
  unfold conjs; rw [List.map_map]; rfl
theorem diskB_inv {p : Pr} {d : List Cel} (h : diskB p d = true) : diskB p (ginv invC d) = true := by
  obtain ⟨h1, h2, h3⟩ := diskB_facts h
  refine diskB_mk (by rw [ginv_len]; exact h1) (by unfold ginv; rw [conjs_rev, conjs_map_inv]; exact h2) ?_
  intro c hc
  simp only [ginv, List.mem_reverse, List.mem_map] at hc
  obtain ⟨x, hx, rfl⟩ := hc
  exact h3 x hx
theorem conjs_gstp (r : List Cel) (c : Cel) : conjs (gstp invC r c) ≤ conjs r + c.conj.length := by
  cases r with
  | nil => simp [gstp, conjs]
  | cons x t =>
    rw [gstp_cons]; split
    · rw [conjs_cons]; omega
    · rw [conjs_cons, conjs_cons]; omega
theorem conjs_grun : ∀ (l r : List Cel), conjs (grun invC r l) ≤ conjs r + conjs l
  | [], r => by simp [grun, conjs]
  | c :: l, r => by
    have h1 := conjs_grun l (gstp invC r c)
    have h2 := conjs_gstp r c
    rw [conjs_cons]
    show conjs (grun invC (gstp invC r c) l) ≤ _
    omega
theorem conjs_redC : ∀ d : List Cel, conjs (d.map redC) ≤ conjs d
  | [] => Nat.le_refl _
  | c :: d => by
    rw [List.map_cons, conjs_cons, conjs_cons]
    have h1 := conjs_redC d
    have h2 := redC_len c
    omega
theorem diskB_simp {p : Pr} {d : List Cel} (h : diskB p d = true) : diskB p (simp4 d) = true := by
  obtain ⟨h1, h2, h3⟩ := diskB_facts h
  refine diskB_mk (Nat.le_trans (simp4_len d) h1) ?_ ?_
  · have a1 := conjs_grun (d.map redC) []
    have a2 := conjs_redC d
    have a3 : conjs ([] : List Cel) = 0 := rfl
    unfold simp4 gred
    rw [conjs_rev]; omega
  · intro c hc
    obtain ⟨x, hx, rfl⟩ := simp4_mem d c hc
    obtain ⟨g1, g2⟩ := h3 x hx
    refine ⟨g1, ?_⟩
    have := isWd_len g2
    have l := redC_len x
    have e : (redC x).conj = red x.conj := rfl
    unfold isWd
    rw [e, all_red (isWd_all g2)]
    rw [e] at l
    simp; omega
theorem conI_0 {p : Pr} {d : List Cel} {u : List UInt8} (h : conI p d u = 0) : chk p [u] [d] = 0 ∧ (∀ c ∈ d, u.length + c.conj.length ≤ 100000) ∧ conjs (d.map (conC u)) ≤ 1000000 := by
  unfold conI at h
  split at h
  · rename_i hk
    split at h
    · rename_i hh
      refine ⟨hk, fun c hc => ?_, hh.2⟩
      have := List.all_eq_true.1 hh.1 c hc
      simpa using this
    · omega
  · rename_i hk; exact absurd h hk
theorem diskB_con {p : Pr} {d : List Cel} {u : List UInt8} (h : conI p d u = 0) : diskB p (d.map (conC u)) = true := by
  obtain ⟨hk, ha, hc⟩ := conI_0 h
  obtain ⟨hp, hu, hd⟩ := chk_word hk
  obtain ⟨h1, h2, h3⟩ := diskB_facts hd
  refine diskB_mk (by rw [List.length_map]; exact h1) hc ?_
  intro c hc
  obtain ⟨x, hx, rfl⟩ := List.mem_map.1 hc
  obtain ⟨g1, g2⟩ := h3 x hx
  refine ⟨g1, ?_⟩
  have hl := gred_len invc (u ++ x.conj)
  rw [List.length_append] at hl
  have hx := ha x hx
  have e : (conC u x).conj = red (u ++ x.conj) := rfl
  unfold isWd
  rw [e, all_red (k := p.k) (by rw [List.all_append, isWd_all hu, isWd_all g2]; rfl)]
  simp only [Bool.and_true, decide_eq_true_eq]
  show (gred invc (u ++ x.conj)).length ≤ _
  omega
theorem prodI_0 {p : Pr} {d e : List Cel} (h : prodI p d e = 0) : diskB p (d ++ e) = true := by
  unfold prodI at h
  split at h
  · split at h
    · assumption
    · omega
  · rename_i hk; exact absurd h hk

theorem bdS_prod {p : Pr} {d e : List Cel} (hd : chk p [] [d] = 0) (he : chk p [] [e] = 0) (h : prodI p d e = 0) : chk p [] [prodL p d e] = 0 ∧ bdS p (prodL p d e) = red (bdS p d ++ bdS p e) ∧ (prodL p d e).length ≤ 5000000000000 := by
  have e1 : prodL p d e = d ++ e := if_pos h
  have h1 := prodI_0 h
  rw [e1]
  have hk := chk_one (chk_one' hd).1 h1
  exact ⟨hk, by rw [bdS_yes hk, bdS_yes hd, bdS_yes he, bnd_app], by have := (diskB_facts h1).1; omega⟩
theorem bdS_inv {p : Pr} {d : List Cel} (hd : chk p [] [d] = 0) : chk p [] [invL p d] = 0 ∧ bdS p (invL p d) = invW (bdS p d) ∧ (invL p d).length ≤ 5000000000000 := by
  have e1 : invL p d = ginv invC d := if_pos hd
  have h1 := diskB_inv (chk_one' hd).2
  rw [e1]
  have hk := chk_one (chk_one' hd).1 h1
  exact ⟨hk, by rw [bdS_yes hk, bdS_yes hd, bnd_inv], by have := (diskB_facts h1).1; omega⟩
theorem bdS_con {p : Pr} {d : List Cel} {u : List UInt8} (hd : chk p [] [d] = 0) (h : conI p d u = 0) : chk p [] [conL p d u] = 0 ∧ bdS p (conL p d u) = red (u ++ bdS p d ++ invW u) ∧ (conL p d u).length ≤ 5000000000000 := by
  have e1 : conL p d u = d.map (conC u) := if_pos h
  have h1 := diskB_con h
  rw [e1]
  have hk := chk_one (chk_one' hd).1 h1
  exact ⟨hk, by rw [bdS_yes hk, bdS_yes hd, bnd_con], by have := (diskB_facts h1).1; omega⟩
theorem bdS_simp {p : Pr} {d : List Cel} (hd : chk p [] [d] = 0) : chk p [] [simL p d] = 0 ∧ bdS p (simL p d) = bdS p d ∧ (simL p d).length ≤ d.length := by
  have e1 : simL p d = simp4 d := if_pos hd
  have h1 := diskB_simp (chk_one' hd).2
  rw [e1]
  have hk := chk_one (chk_one' hd).1 h1
  exact ⟨hk, by rw [bdS_yes hk, bdS_yes hd, bnd_simp4], simp4_len d⟩
theorem bdS_all {p : Pr} {d : List Cel} (hd : chk p [] [d] = 0) : (bdS p d).all (letB 8) = true ∧ (bdS p d).length ≤ 100000000 := by
  rw [bdS_yes hd]
  obtain ⟨h1, h2⟩ := chk_one' hd
  exact ⟨all_mono (presB_k h1).2.1 (bnd_all h1 h2), bnd_len h1 h2⟩
theorem word_all {p : Pr} {d : List Cel} {u : List UInt8} (h : conI p d u = 0) : u.all (letB 8) = true ∧ u.length ≤ 100000 := by
  obtain ⟨h1, h2, _⟩ := chk_word (conI_0 h).1
  exact ⟨all_mono (presB_k h1).2.1 (isWd_all h2), isWd_len h2⟩
end Go.Proofs.Ytbcckfggnlmhoaa
