/-
  Our own text, in the proofs of the laws of package word (cayleylaw01). Proved here: the laws of shortlex, on lists of bytes. Conditions: the arguments read as the row says and the listed tables lie as the program lays them; none other.
-/
import Derived.Test.YtflieikbhgneoaaDoorMa
namespace Go.Proofs.YtflieikbhgneoaaDoor

/-! SHORTLEX. -/
theorem idx_inj : ∀ c d : UInt8, 0 ≤ idx c → idx c = idx d → c = d := by
  have h : ∀ n : Nat, n < 256 → 0 ≤ idx (UInt8.ofNat n) → let_ (idx (UInt8.ofNat n)) = UInt8.ofNat n := by decide +kernel
  intro c d hc he
  have h1 := h c.toNat c.toNat_lt (by simpa using hc)
  have h2 := h d.toNat d.toNat_lt (by rw [he] at hc; simpa using hc)
  simp at h1 h2
  rw [← h1, ← h2, he]

theorem cI_lt {x y : Int} (h : x < y) : Lib.compareInt x y = -1 := by simp [Lib.compareInt, h]
theorem cI_gt {x y : Int} (h : y < x) : Lib.compareInt x y = 1 := by simp [Lib.compareInt, h]; omega
theorem cI_eq {x : Int} : Lib.compareInt x x = 0 := by simp [Lib.compareInt]
theorem cI_neg (x y : Int) : Lib.compareInt y x = -Lib.compareInt x y := by
  rcases Int.lt_trichotomy x y with h | h | h
  · rw [cI_lt h, cI_gt h]; rfl
  · subst h; rw [cI_eq]; rfl
  · rw [cI_lt h, cI_gt h]
theorem cI_bd (x y : Int) : Lib.compareInt x y = -1 ∨ Lib.compareInt x y = 0 ∨ Lib.compareInt x y = 1 := by
  rcases Int.lt_trichotomy x y with h | h | h
  · exact .inl (cI_lt h)
  · subst h; exact .inr (.inl cI_eq)
  · exact .inr (.inr (cI_gt h))
theorem cI_zero {x y : Int} (h : Lib.compareInt x y = 0) : x = y := by
  rcases Int.lt_trichotomy x y with k | k | k
  · rw [cI_lt k] at h; simp at h
  · exact k
  · rw [cI_gt k] at h; simp at h
theorem cI_le {x y : Int} : Lib.compareInt x y ≤ 0 ↔ x ≤ y := by
  rcases Int.lt_trichotomy x y with k | k | k
  · rw [cI_lt k]; simp; omega
  · subst k; rw [cI_eq]; simp
  · rw [cI_gt k]; simp; omega

theorem lexI_cons (c d : UInt8) (u v : List UInt8) : lexI (c :: u) (d :: v) = if c = d then lexI u v else Lib.compareInt (idx c) (idx d) := rfl
theorem lexI_neg : ∀ u v : List UInt8, lexI v u = -lexI u v
  | [], [] => rfl
  | [], _ :: _ => rfl
  | _ :: _, [] => rfl
  | c :: u, d :: v => by
    rw [lexI_cons, lexI_cons]
    by_cases h : c = d
    · rw [if_pos h, if_pos h.symm]; exact lexI_neg u v
    · rw [if_neg h, if_neg (fun e => h e.symm)]; exact cI_neg _ _
theorem lexI_bd : ∀ u v : List UInt8, lexI u v = -1 ∨ lexI u v = 0 ∨ lexI u v = 1
  | [], [] => .inr (.inl rfl)
  | [], _ :: _ => .inr (.inl rfl)
  | _ :: _, [] => .inr (.inl rfl)
  | c :: u, d :: v => by
    rw [lexI_cons]
    split
    · exact lexI_bd u v
    · exact cI_bd _ _
theorem lexI_self : ∀ u : List UInt8, lexI u u = 0
  | [] => rfl
  | c :: u => by rw [lexI_cons, if_pos rfl]; exact lexI_self u
def Ltr (u : List UInt8) : Prop := ∀ c ∈ u, 0 ≤ idx c
theorem lexI_zero : ∀ u v : List UInt8, Ltr u → u.length = v.length → lexI u v = 0 → u = v
  | [], [], _, _, _ => rfl
  | [], _ :: _, _, h, _ => by simp at h
  | _ :: _, [], _, h, _ => by simp at h
  | c :: u, d :: v, hu, hl, h => by
    rw [lexI_cons] at h
    split at h
    · rename_i e
      subst e
      rw [lexI_zero u v (fun x hx => hu x (List.mem_cons_of_mem _ hx)) (by simpa using hl) h]
    · rename_i hn
      exact absurd (idx_inj c d (hu c (List.mem_cons_self ..)) (cI_zero h)) hn
theorem lexI_trans : ∀ u v w : List UInt8, Ltr u → Ltr v → u.length = v.length → v.length = w.length → lexI u v ≤ 0 → lexI v w ≤ 0 → lexI u w ≤ 0
  | [], [], _, _, _, _, _, _, _ => by simp [lexI]
  | [], _ :: _, _, _, _, h, _, _, _ => by simp at h
  | _ :: _, [], _, _, _, h, _, _, _ => by simp at h
  | _ :: _, _ :: _, [], _, _, _, h, _, _ => by simp at h
  | c :: u, d :: v, e :: w, hu, hv, h1, h2, k1, k2 => by
    rw [lexI_cons] at k1 k2 ⊢
    by_cases p : c = d
    · subst p
      rw [if_pos rfl] at k1
      by_cases q : c = e
      · rw [if_pos q] at k2 ⊢
        exact lexI_trans u v w (fun x hx => hu x (List.mem_cons_of_mem _ hx)) (fun x hx => hv x (List.mem_cons_of_mem _ hx)) (by simpa using h1) (by simpa using h2) k1 k2
      · rw [if_neg q] at k2 ⊢; exact k2
    · rw [if_neg p] at k1
      have hcd := cI_le.1 k1
      have hc := hu c (List.mem_cons_self ..)
      by_cases q : d = e
      · subst q; rw [if_neg p]; exact k1
      · rw [if_neg q] at k2
        have hde := cI_le.1 k2
        by_cases r : c = e
        · subst r
          exact absurd (idx_inj c d hc (by omega)) p
        · rw [if_neg r]; exact cI_le.2 (by omega)
theorem lexI_pre : ∀ x u v : List UInt8, lexI (x ++ u) (x ++ v) = lexI u v
  | [], _, _ => rfl
  | c :: x, u, v => by rw [List.cons_append, List.cons_append, lexI_cons, if_pos rfl]; exact lexI_pre x u v
theorem lexI_post : ∀ u v y : List UInt8, u.length = v.length → lexI (u ++ y) (v ++ y) = lexI u v
  | [], [], y, _ => by simp [lexI_self, lexI]
  | [], _ :: _, _, h => by simp at h
  | _ :: _, [], _, h => by simp at h
  | c :: u, d :: v, y, h => by
    rw [List.cons_append, List.cons_append, lexI_cons, lexI_cons]
    split
    · exact lexI_post u v y (by simpa using h)
    · rfl

theorem isW_ltr {u : List UInt8} (h : isW u = true) : Ltr u := by
  unfold isW at h
  simp only [Bool.and_eq_true, List.all_eq_true, letterB, decide_eq_true_eq] at h
  exact fun c hc => (h.2 c hc).1
theorem isW_of {u : List UInt8} (hl : u.length ≤ 100000) (h : u.all (letterB 8) = true) : isW u = true := by simp [isW, hl, h]
theorem isW_all {u : List UInt8} (h : isW u = true) : u.all (letterB 8) = true := by unfold isW at h; simp only [Bool.and_eq_true] at h; exact h.2

theorem cmp_of {u v : List UInt8} (hu : isW u = true) (hv : isW v = true) : cmpW u v = if u.length = v.length then lexI u v else Lib.compareInt u.length v.length := by
  unfold cmpW; rw [if_pos ⟨hu, hv⟩]
theorem cmp_neg {u v : List UInt8} (hu : isW u = true) (hv : isW v = true) : cmpW v u = -cmpW u v := by
  rw [cmp_of hu hv, cmp_of hv hu]
  by_cases h : u.length = v.length
  · rw [if_pos h, if_pos h.symm]; exact lexI_neg u v
  · rw [if_neg h, if_neg (fun e => h e.symm)]; exact cI_neg _ _
theorem cmp_bd {u v : List UInt8} (hu : isW u = true) (hv : isW v = true) : cmpW u v = -1 ∨ cmpW u v = 0 ∨ cmpW u v = 1 := by
  rw [cmp_of hu hv]
  split
  · exact lexI_bd u v
  · exact cI_bd _ _
theorem cmp_zero {u v : List UInt8} (hu : isW u = true) (hv : isW v = true) (h : cmpW u v = 0) : u = v := by
  rw [cmp_of hu hv] at h
  split at h
  · rename_i e; exact lexI_zero u v (isW_ltr hu) e h
  · rename_i e; exact absurd (by exact_mod_cast cI_zero h) e
theorem cmp_self {u : List UInt8} (hu : isW u = true) : cmpW u u = 0 := by rw [cmp_of hu hu, if_pos rfl]; exact lexI_self u
theorem cmp_len {u v : List UInt8} (hu : isW u = true) (hv : isW v = true) (h : cmpW u v ≤ 0) : u.length ≤ v.length := by
  rw [cmp_of hu hv] at h
  split at h
  · omega
  · have := cI_le.1 h; omega
theorem cmp_trans {u v w : List UInt8} (hu : isW u = true) (hv : isW v = true) (hw : isW w = true) (h1 : cmpW u v ≤ 0) (h2 : cmpW v w ≤ 0) : cmpW u w ≤ 0 := by
  have l1 := cmp_len hu hv h1
  have l2 := cmp_len hv hw h2
  rw [cmp_of hu hw]
  split
  · rename_i e
    rw [cmp_of hu hv, if_pos (by omega)] at h1
    rw [cmp_of hv hw, if_pos (by omega)] at h2
    exact lexI_trans u v w (isW_ltr hu) (isW_ltr hv) (by omega) (by omega) h1 h2
  · exact cI_le.2 (by omega)
theorem cmp_ctx {u v x y : List UInt8} (hu : isW u = true) (hv : isW v = true) (h1 : isW (x ++ u ++ y) = true) (h2 : isW (x ++ v ++ y) = true) : cmpW (x ++ u ++ y) (x ++ v ++ y) = cmpW u v := by
  rw [cmp_of hu hv, cmp_of h1 h2]
  by_cases h : u.length = v.length
  · rw [if_pos h, if_pos (by simp [h])]
    rw [lexI_post _ _ y (by simp [h]), lexI_pre]
  · rw [if_neg h, if_neg (by simp; omega)]
    rcases Int.lt_trichotomy (u.length : Int) v.length with k | k | k
    · rw [cI_lt k, cI_lt (by simp; omega)]
    · omega
    · rw [cI_gt k, cI_gt (by simp; omega)]

theorem stp_mem {p : UInt8 → Bool} {r : List UInt8} {c : UInt8} (hr : r.all p = true) (hc : p c = true) : (stp r c).all p = true := by
  unfold stp
  split
  · simp [hc]
  · simp only [List.all_cons, Bool.and_eq_true] at hr
    split
    · exact hr.2
    · simp [hc, hr.1, hr.2]
theorem run_mem {p : UInt8 → Bool} : ∀ (l r : List UInt8), r.all p = true → l.all p = true → (run r l).all p = true
  | [], _, hr, _ => hr
  | c :: l, r, hr, hl => by
    simp only [List.all_cons, Bool.and_eq_true] at hl
    exact run_mem l _ (stp_mem hr hl.1) hl.2
theorem isW_red {l : List UInt8} (h : isW l = true) : isW (red l) = true := by
  have h1 := run_mem (p := letterB 8) l [] rfl (isW_all h)
  have hl := red_len l
  have hl2 : l.length ≤ 100000 := by unfold isW at h; simp only [Bool.and_eq_true, decide_eq_true_eq] at h; exact h.1
  refine isW_of (by omega) ?_
  unfold red; rw [List.all_reverse]; exact h1
theorem red_same {l : List UInt8} (h : (red l).length = l.length) : red l = l := by
  have : ∀ (l r : List UInt8), (run r l).length = r.length + l.length → run r l = l.reverse ++ r := by
    intro l
    induction l with
    | nil => intro r _; rfl
    | cons c l ih =>
      intro r h
      have h2 : (run (stp r c) l).length = r.length + (l.length + 1) := h
      have hle : (run (stp r c) l).length ≤ (stp r c).length + l.length := by
        have : ∀ (l : List UInt8) r, (l.foldl stp r).length ≤ r.length + l.length := by
          intro l
          induction l with
          | nil => intro r; simp
          | cons c l ih => intro r; have := ih (stp r c); have := stp_len r c; simp; omega
        exact this l _
      have hs := stp_len r c
      have e : stp r c = c :: r := by
        cases r with
        | nil => rfl
        | cons x t =>
          rw [stp_cons] at hle hs ⊢
          split
          · rename_i hx; rw [if_pos hx] at hle; simp at hle h2; rw [stp_cons, if_pos hx] at h2; omega
          · rfl
      show run (stp r c) l = _
      rw [ih (stp r c) (by rw [h2, e]; simp; omega), e]
      simp
  have h1 := this l [] (by unfold red at h; rw [List.length_reverse] at h; show (redR l).length = _; simpa using h)
  show (run [] l).reverse = l
  rw [h1]; simp
theorem cmp_red {u : List UInt8} (hu : isW u = true) : cmpW (red u) u ≤ 0 := by
  rw [cmp_of (isW_red hu) hu]
  split
  · rename_i e; rw [red_same e, lexI_self]; exact Int.le_refl _
  · have := red_len u; exact cI_le.2 (by omega)
end Go.Proofs.YtflieikbhgneoaaDoor
