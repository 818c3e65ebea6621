/-
  Our own text, in the proof of the law RopeSlices of package rope (cayleylaw02). Proved here: cutPower. Conditions: the nodes lie in memory as the slice says.
-/
import Derived.Test.YtgklmcinbaghmaaGreatDoorFl
import Derived.Deep.DeepCutAuto
namespace Go.Proofs.YtgklmcinbaghmaaGreatDoor
open Go Go.RowKit

theorem XC_end {L : List Nat} {b r : Nat} (hr : 0 < r) : XC L b r (L.getD b 0) = 2 * b + 1 := by
  unfold XC; rw [if_neg (by omega), if_pos (.inr rfl)]
theorem XC_beg {L : List Nat} {b r : Nat} (hr : r < L.getD b 0) : XC L b 0 r = 2 * b + 1 := by
  unfold XC; rw [if_neg (by omega), if_pos (.inl rfl)]
theorem XC_single {L : List Nat} {b k m i j : Nat} (hb : b < k) (hk : L.getD k 0 = m * L.getD b 0) (hn : 1 ≤ L.getD b 0) (hij : i < j) (hnw : ¬ (i = 0 ∧ j = L.getD k 0)) (hs : j - i / L.getD b 0 * L.getD b 0 ≤ L.getD b 0) :
    XC L b (i - i / L.getD b 0 * L.getD b 0) (j - i / L.getD b 0 * L.getD b 0) ≤ XC L k i j := by
  have h2 : i / L.getD b 0 * L.getD b 0 ≤ i := Nat.div_mul_le_self _ _
  unfold XC
  rw [if_neg hnw]
  split
  · omega
  · split
    · split <;> omega
    · rename_i hno
      rw [if_neg ?_]
      · omega
      · rintro (h | h)
        · subst h; exact hno (.inl (by simp))
        · refine hno (.inr ?_)
          rw [h, hk, ← Nat.sub_mul] at hs ⊢
          have h3 : 0 < (m - i / L.getD b 0) := by
            rcases Nat.eq_zero_or_pos (m - i / L.getD b 0) with h0 | h0
            · have : m * L.getD b 0 ≤ i / L.getD b 0 * L.getD b 0 := Nat.mul_le_mul_right _ (by omega)
              omega
            · exact h0
          have h4 : (m - i / L.getD b 0) * L.getD b 0 ≥ 1 * L.getD b 0 := Nat.mul_le_mul_right _ h3
          omega
theorem XC_parts {L : List Nat} {b k m i j c2 : Nat} (hb : b < k) (hk : L.getD k 0 = m * L.getD b 0) (hnw : ¬ (i = 0 ∧ j = L.getD k 0)) (hc : c2 ≤ 1) :
    (if 0 < i % L.getD b 0 then 2 * b + 1 else 0) + c2 + (if 0 < j % L.getD b 0 then 2 * b + 1 else 0) + ((if 0 < i % L.getD b 0 then 1 else 0) + c2 + (if 0 < j % L.getD b 0 then 1 else 0) - 1) ≤ XC L k i j := by
  unfold XC
  rw [if_neg hnw]
  by_cases h0 : i = 0
  · subst h0
    rw [if_pos (show 0 = 0 ∨ j = L.getD k 0 from .inl rfl)]
    simp only [Nat.zero_mod, Nat.lt_irrefl, if_false]
    split <;> omega
  · by_cases h1 : j = L.getD k 0
    · rw [if_pos (show i = 0 ∨ j = L.getD k 0 from .inr h1)]
      have : j % L.getD b 0 = 0 := by rw [h1, hk]; exact Nat.mul_mod_left _ _
      rw [this]
      simp only [Nat.lt_irrefl, if_false]
      split <;> omega
    · rw [if_neg (show ¬ (i = 0 ∨ j = L.getD k 0) by omega)]
      split <;> split <;> omega

/-- What the variable parts holds. -/
def PartsP (base Q P Bm B : Nat) (A : Option Addr) (cap : Nat) (a : List Nd) (L : List Nat) (w0 : World) (o : List Nd) (Ao : Option Addr) (f : Int → Option Value) (k : Nat) (u : List UInt8) (x c : Nat) (v : Value) (w : World) : Prop :=
  ∃ ps us Ap cp oa Aa ca na fa, v = .slice Ap ps.length cp ∧ Parts base Q P Bm B A cap a L w0 o Ao f k ps us x Ap cp oa Aa ca na fa w ∧ us.flatten = u ∧ ps.length = c

set_option maxHeartbeats 1000000 in
set_option maxRecDepth 100000 in
theorem cutPower_any {w : World} {base Q P Bm B : Nat} {ad : Addr} {cap : Nat} {a : List Nd} {L : List Nat} {o : List Nd} {Ao : Option Addr} {co n0 : Nat} {f : Int → Option Value}
    (hl : Lie base Q P Bm B) (hLl : L.length = a.length) (hlen : a.length ≤ 4000) (h : KS w base Q P Bm B (some ad) cap a L o Ao co n0 f) (k : Nat) (hk : k < a.length) (i j : Nat) (hij : i < j) (hj : j ≤ L.getD k 0) (hnw : ¬ (i = 0 ∧ j = L.getD k 0)) (hP : Phi a o f + XC L k i j ≤ 4000)
    (b m : Nat) (hb : b < k) (hLk : L.getD k 0 = m * L.getD b 0) (hb0 : 1 ≤ L.getD b 0) (hmx : (L.getD k 0 : Int) ≤ 1152921504606846976) (hbx : (L.getD b 0 : Int) ≤ 1152921504606846976)
    (hd : wordK a k = copies m (wordK a b)) (hlb : (wordK a b).length = L.getD b 0)
    (IHb : CutIH base Q P Bm B ad cap a L b) (IHk : KeepIH base Q P Bm B ad cap a L b) :
    Calls Tryz.prog 69 #[.pointer (some ⟨Q, 0, none⟩), .int .i64 (b : Int), .int .i64 (i : Int), .int .i64 (j : Int)] w (CutP base Q P Bm B (some ad) cap a L k (XC L k i j) (cutW (wordK a k) i j) w o Ao f) := by
  obtain ⟨n, hn⟩ : ∃ n, L.getD b 0 = n := ⟨_, rfl⟩
  have hjm : (j : Int) ≤ 1152921504606846976 := by omega
  have q1 : w.cell? ⟨Q, 1, none⟩ = some (envV 76 Bm) := h.st.q.cell 1
  have HV := Lib.hid (value_at w Bm _ L (by omega) h.st.len (b : Int) (by omega))
  rw [Int.toNat_natCast, hn] at HV
  have h0w : base ≤ w.heap.size := by have := h.st.q.lt; have := h.st.baseQ; omega
  have H := Lib.hid h
  have HL := Lib.hid hl
  have HD := Lib.hid hd
  have HLB := Lib.hid (hlb.trans hn)
  have HIB := Lib.hid IHb
  have HIK := Lib.hid IHk
  have HPP := Lib.hid hP
  have hXs := fun hs => XC_single hb hLk hb0 hij hnw hs
  have hXp := fun c2 hc => XC_parts (c2 := c2) hb hLk hnw hc
  have hjL : j ≤ m * n := by rw [← hn, ← hLk]; exact hj
  rw [hn] at hXs hXp hb0 hbx
  have HXS := Lib.hid hXs
  have HXP := Lib.hid hXp
  have HN := Lib.hid hn
  have hn0 : 1 ≤ n := hb0
  obtain ⟨qi, hqi⟩ : ∃ qi, i / n = qi := ⟨_, rfl⟩
  obtain ⟨ai, hai⟩ : ∃ ai, qi * n = ai := ⟨_, rfl⟩
  have haile : ai ≤ i := by rw [← hai, ← hqi]; exact Nat.div_mul_le_self _ _
  have b1 : (i : Int) ≤ 1152921504606846976 := by omega
  have b2 : (qi : Int) ≤ 1152921504606846976 := by have := Nat.div_le_self i n; omega
  have b3 : (ai : Int) ≤ 1152921504606846976 := by omega
  have e1 : (i : Int) / (n : Int) = (qi : Int) := by rw [← hqi]; rfl
  have e2 : (qi : Int) * (n : Int) = (ai : Int) := by rw [← hai, Int.natCast_mul]
  have HQI := Lib.hid hqi
  have HAI := Lib.hid hai
  have HLK := Lib.hid hLk
  clear h hl hd hlb IHb IHk hP hXs hXp hn hqi hai hj hmx hnw hLk hb0
  go_enter Tryz.func69, Tryz.ntmps69
  go_wp2_with fail
  refine HV.out.mono ?_; rintro e w1 ⟨rfl, rfl⟩
  by_cases hs : j - ai ≤ n
  · have hd1 : decide ((j : Int) - (ai : Int) ≤ (n : Int)) = true := by simp; omega
    have hs' : j - i / n * n ≤ n := by rw [HQI.out, HAI.out]; exact hs
    have hx := HXS.out hs'
    rw [HQI.out, HAI.out] at hx
    have hcx := HIB.out w o Ao co n0 f (i - ai) (j - ai) H.out (by omega) (by rw [HN.out]; omega) (by have := HPP.out; omega)
    have hz1 : ((i - ai : Nat) : Int) = (i : Int) - (ai : Int) := by omega
    have hz2 : ((j - ai : Nat) : Int) = (j : Int) - (ai : Int) := by omega
    rw [hz1, hz2] at hcx
    have HC := Lib.hid hcx
    have HX := Lib.hid hx
    have HU : Hid (cutW (wordK a k) i j = cutW (wordK a b) (i - ai) (j - ai)) := Lib.hid (by
      rw [HD.out]
      have := cut_single (t := m) (u := wordK a b) hij (by rw [HLB.out]; exact hjL) (by rw [HLB.out]; exact hs')
      rw [HLB.out, HQI.out, HAI.out] at this
      exact this)
    clear hx hcx hz1 hz2 hs'
    go_wp2_with fail
    refine HC.out.mono ?_; rintro e w3 hc3
    obtain ⟨idx, he⟩ : ∃ idx : Nat, e = .returned (.int .i64 (idx : Int)) := by obtain ⟨idx, _, _, _, _, _, he, _⟩ := hc3; exact ⟨idx, he⟩
    subst he
    have HCC := Lib.hid ((hc3.up (m := k) (by omega)).more HX.out)
    clear hc3
    go_wp2
    go_ret
    rw [HU.out]
    exact HCC.out
  · have hd1 : decide ((j : Int) - (ai : Int) ≤ (n : Int)) = false := by simp; omega
    obtain ⟨ri, hri⟩ : ∃ ri, i % n = ri := ⟨_, rfl⟩
    have e3 : (i : Int) % (n : Int) = (ri : Int) := by rw [← hri]; rfl
    have HRI := Lib.hid hri
    clear hri
    have e4 : (ri : Int) < (n : Int) ∧ 0 ≤ (ri : Int) := by have := Nat.mod_lt i (show 0 < n by omega); rw [HRI.out] at this; omega
    have hB0 := h0w
    go_upto_if 44 with fail
    go_cut [11] from 41 to 54 (fun s11 wx => PartsP base Q P Bm B (some ad) cap a L w o Ao f k (if 0 < ri then cutW (wordK a b) ri n else []) (if 0 < ri then 2 * b + 1 else 0) (if 0 < ri then 1 else 0) s11 wx)
    case first =>
      by_cases hr : 0 < ri
      · have hd2 : decide (0 < (ri : Int)) = true := by simp; omega
        have hcx := HIB.out w o Ao co n0 f ri n H.out (by omega) (by rw [HN.out]; exact Nat.le_refl _) (by
          have h1 := HPP.out
          have h2 := HXP.out 0 (by omega)
          have h3 := XC_end (L := L) (b := b) hr
          rw [HN.out] at h3
          rw [HRI.out, if_pos hr] at h2
          omega)
        have hxe := XC_end (L := L) (b := b) hr
        rw [HN.out] at hxe
        rw [hxe] at hcx
        have HC := Lib.hid hcx
        have HRP := Lib.hid hr
        clear hcx hxe hr
        go_wp2_with fail
        refine HC.out.mono ?_; rintro e wa ⟨ia, oa, Aa, ca, na, fa, rfl, ka, xa, pa, ha, ua, la, ga⟩
        have HKA := Lib.hid ka
        have HXA := Lib.hid xa
        have HPA := Lib.hid pa
        have HHA := Lib.hid ha
        have HUA := Lib.hid ua
        have HLA := Lib.hid la
        have HGA := Lib.hid ga
        have hgs := ga.size
        clear ka xa pa ha ua la ga
        go_wp2_with (at_builtin; refine append_part wa rfl (.tmp 45) (.tmp 53) rfl w.heap.size none 0 0 [] ia rfl (World.ownsRow_nil _ _ _ _) rfl (by omega) hgs ?_; intro A9 c9 w9 hown9 hg9; have HO9 := Lib.hid hown9; have HG9 := Lib.hid hg9; clear hown9 hg9)
        go_meet
        case rel =>
          have hp0 : Parts base Q P Bm B (some ad) cap a L w o Ao f k [] [] 0 none 0 o Ao co n0 f w := ⟨World.ownsRow_nil _ _ _ _, H.out, ⟨[], by simp⟩, rfl, fun z hz => absurd hz (Nat.not_lt_zero z), Nat.le_refl _, fun _ _ => rfl, fun _ => rfl, fun _ p hp => (by cases hp), SGrow.refl _ _ _ _⟩
          have := hp0.snoc hB0 HKA.out HXA.out HPA.out HHA.out (fun z hz => HUA.out z (by omega)) HLA.out HGA.out HO9.out HG9.out
          refine ⟨[ia], [cutW (wordK a b) ri n], A9, c9, oa, Aa, ca, na, fa, rfl, ?_, ?_, ?_⟩
          · rw [if_pos HRP.out]
            simpa using this
          · rw [if_pos HRP.out]; simp
          · rw [if_pos HRP.out]; rfl
      · have hd2 : decide (0 < (ri : Int)) = false := by simp; omega
        have HRP := Lib.hid hr
        clear hr
        go_wp2_with fail
        go_meet
        case rel =>
          have hp0 : Parts base Q P Bm B (some ad) cap a L w o Ao f k [] [] 0 none 0 o Ao co n0 f w := ⟨World.ownsRow_nil _ _ _ _, H.out, ⟨[], by simp⟩, rfl, fun z hz => absurd hz (Nat.not_lt_zero z), Nat.le_refl _, fun _ _ => rfl, fun _ => rfl, fun _ p hp => (by cases hp), SGrow.refl _ _ _ _⟩
          refine ⟨[], [], none, 0, o, Ao, co, n0, f, rfl, ?_, ?_, ?_⟩
          · rw [if_neg HRP.out]; exact hp0
          · rw [if_neg HRP.out]; rfl
          · rw [if_neg HRP.out]; rfl
    case rest =>
      obtain ⟨ps, us, Ap, cp, oa, Aa, ca, na, fa, rfl, hps, hu1, hc1⟩ := hcut
      obtain ⟨x1, hx1⟩ : ∃ x1, (if 0 < ri then 2 * b + 1 else 0) = x1 := ⟨_, rfl⟩
      obtain ⟨n1, hn1⟩ : ∃ n1, (if 0 < ri then 1 else 0) = n1 := ⟨_, rfl⟩
      obtain ⟨v1, hv1⟩ : ∃ v1, (if 0 < ri then cutW (wordK a b) ri n else []) = v1 := ⟨_, rfl⟩
      rw [hx1] at hps
      rw [hn1] at hc1
      rw [hv1] at hu1
      obtain ⟨qj, hqj⟩ : ∃ qj, j / n = qj := ⟨_, rfl⟩
      obtain ⟨qc, hqc⟩ : ∃ qc, (i + n - 1) / n = qc := ⟨_, rfl⟩
      obtain ⟨rj, hrj⟩ : ∃ rj, j % n = rj := ⟨_, rfl⟩
      have hcp := cut_parts (t := m) (u := wordK a b) (i := i) (j := j) (by rw [HLB.out]; exact hn0) hij (by rw [HLB.out]; exact hjL) (by rw [HLB.out, HQI.out, HAI.out]; omega)
      rw [HLB.out, HRI.out, hqj, hqc, hrj, hv1] at hcp
      obtain ⟨wh, hwh⟩ : ∃ wh, qj - qc = wh := ⟨_, rfl⟩
      rw [hwh] at hcp
      have hqq : qc ≤ qj := hcp.2
      have hqjn : qj * n ≤ j := by rw [← hqj]; exact Nat.div_mul_le_self _ _
      have hwn : wh * n ≤ j := Nat.le_trans (Nat.mul_le_mul_right _ (by omega)) hqjn
      have hqjb : (qj : Int) ≤ 1152921504606846976 := by have := Nat.div_le_self j n; omega
      have hqcb : (qc : Int) ≤ 1152921504606846976 := by omega
      have hqqI : (qc : Int) ≤ (qj : Int) := by omega
      have hxp := HXP.out (if 0 < wh then 1 else 0) (by split <;> omega)
      rw [HRI.out, hrj, hx1, hn1] at hxp
      have HPS := Lib.hid hps
      have HU1 := Lib.hid hu1
      have HC1 := Lib.hid hc1
      have HCP := Lib.hid hcp.1
      have HXP2 := Lib.hid hxp
      have HWN := Lib.hid hwn
      have HRJ := Lib.hid hrj
      have hps1 : ps.length ≤ 1 := by rw [hc1, ← hn1]; split <;> omega
      have hnz : ¬ (n : Int) = 0 := by omega
      have t1 : (j : Int).tdiv (n : Int) = (qj : Int) := by rw [← hqj]; rfl
      have t3 : (i : Int) + (n : Int) - 1 = ((i + n - 1 : Nat) : Int) := by omega
      have t2 : ((i : Int) + (n : Int) - 1).tdiv (n : Int) = (qc : Int) := by rw [t3, ← hqc]; rfl
      have w1 : IntKind.i64.wrap ((i : Int) + (n : Int)) = (i : Int) + (n : Int) := IntWalk.i64_in _ (by omega)
      have w2 : IntKind.i64.wrap ((i : Int) + (n : Int) - 1) = (i : Int) + (n : Int) - 1 := IntWalk.i64_in _ (by omega)
      have w3 : IntKind.i64.wrap ((qj : Int) - (qc : Int)) = (wh : Int) := by rw [IntWalk.i64_in _ (by omega)]; omega
      clear hps hu1 hc1 hcp hxp hx1 hn1 hv1 hqj hqc hrj t3 hqq hqjn hwn e1 e2
      go_wp2
      go_quiet (fail)
      clear t1 t2 w1 w2
      have w5 : (qj : Int) - (qc : Int) = (wh : Int) := by omega
      have hdq : Below wc.heap.size wc (wc.drewN nq) := (Below.refl _ wc).drewN nq
      have HPD := Lib.hid (HPS.out.on_ hdq)
      clear hdq HPS
      generalize wc.drewN nq = w2 at *
      go_upto_if 66 with fail
      go_cut [11] from 55 to 78 (fun s11 wx => PartsP base Q P Bm B (some ad) cap a L w o Ao f k (v1 ++ copies wh (wordK a b)) (x1 + (if 0 < wh then 1 else 0)) (n1 + (if 0 < wh then 1 else 0)) s11 wx)
      case first =>
        by_cases hwp : 0 < wh
        · have hd3 : decide (0 < (wh : Int)) = true := by simp; omega
          have hq2 : w2.cell? ⟨Q, 2, none⟩ = some (envV 76 B) := HPD.out.ks.st.q.cell 2
          have hPa : Phi a oa fa + 1 ≤ 4000 := by have h1 := HPP.out; have h2 := HXP2.out; rw [if_pos hwp] at h2; have h3 := HPD.out.phi; omega
          have HKC := Lib.hid (HIK.out w2 oa Aa ca na fa HPD.out.ks (by omega))
          have HWP := Lib.hid hwp
          go_wp2_with fail
          refine HKC.out.mono ?_; rintro e wb ⟨ib, ob, Ab, cb, nb, fb, rfl, kb, xb, pb, hhb, ub, _, gb⟩
          obtain ⟨M9, hM9⟩ := kb.val
          have hob : ob.length + 1 ≤ 4000 := by unfold Phi at pb hPa; omega
          have hgr := grown_pow hM9 hob hhb (t := wh) (by omega) (by rw [HLB.out]; exact hn0) (by rw [HLB.out]; have := HWN.out; have e : ((wh * n : Nat) : Int) = (wh : Int) * (n : Int) := Int.natCast_mul _ _; omega)
          have HGR := Lib.hid hgr
          have HPW := Lib.hid (power_any (ib : Int) (wh : Int) kb.st HL.out.dis (by omega))
          have HKB := Lib.hid kb
          have HXB := Lib.hid xb
          have HPB := Lib.hid pb
          have HUB := Lib.hid ub
          have HGB := Lib.hid gb
          clear kb xb pb hhb ub gb hM9 hgr hq2 hPa hwp
          go_wp2_with fail
          refine HPW.out.mono ?_; rintro e wc ⟨rfl, Ac, cc, sc, gc⟩
          have HSC := Lib.hid sc
          have HGC := Lib.hid (HGB.out.trans gc)
          have hgs : w.heap.size ≤ wc.heap.size := Nat.le_trans HPD.out.grow.size (HGB.out.trans gc).size
          have HO1 := Lib.hid (own3_sgrow HPD.out.ks.st HGC.out HPD.out.own)
          clear sc gc
          go_wp2_with (at_builtin; refine append_part wc rfl (.tmp 67) (.tmp 77) rfl w.heap.size Ap ps.length cp ps ob.length rfl HO1.out rfl (by omega) hgs ?_; intro A9 c9 w9 hown9 hg9; have HO9 := Lib.hid hown9; have HG9 := Lib.hid hg9; clear hown9 hg9)
          go_meet
          case rel =>
            have hks := add_step (w' := wc) HKB.out HGR.out HSC.out
            have := HPD.out.snoc hB0 hks.1 (ext_trans HXB.out ⟨_, rfl⟩) (y := 1) (by rw [hks.2.2]; have := HPB.out; omega) hks.2.1 (fun z hz => HUB.out z (by omega)) (fun _ => by simp) HGC.out HO9.out HG9.out
            refine ⟨ps ++ [ob.length], us ++ [copies wh (wordK a b)], A9, c9, ob ++ [⟨⟨#[]⟩, (ib : Int), 0, (wh : Int)⟩], Ac, cc, nb, fb, by simp, ?_, ?_, ?_⟩
            · rw [if_pos HWP.out]; exact this
            · rw [← HU1.out]; simp
            · rw [if_pos HWP.out]; simp [HC1.out]
        · have hd3 : decide (0 < (wh : Int)) = false := by simp; omega
          have HWP := Lib.hid hwp
          clear hwp
          go_wp2_with fail
          go_meet
          case rel =>
            refine ⟨ps, us, Ap, cp, oa, Aa, ca, na, fa, rfl, ?_, ?_, ?_⟩
            · rw [if_neg HWP.out]; exact HPD.out
            · rw [HU1.out, show wh = 0 by have := HWP.out; omega, copies_zero, List.append_nil]
            · rw [if_neg HWP.out]; exact HC1.out
      case rest =>
        clear HPD w3 w5
        obtain ⟨ps2, us2, Ap2, cp2, oa2, Aa2, ca2, na2, fa2, rfl, hps2, hu2, hc2⟩ := hcut
        obtain ⟨c2, hcc2⟩ : ∃ c2, (if 0 < wh then 1 else 0) = c2 := ⟨_, rfl⟩
        obtain ⟨v2, hv2⟩ : ∃ v2, v1 ++ copies wh (wordK a b) = v2 := ⟨_, rfl⟩
        have hxp2 := HXP2.out
        have hcp2 := HCP.out
        rw [hcc2] at hxp2 hps2 hc2
        rw [hv2] at hu2 hcp2
        have hps2l : ps2.length ≤ 2 := by rw [hc2, ← hcc2]; have := HC1.out; split <;> omega
        have e5 : (j : Int) % (n : Int) = (rj : Int) := by rw [← HRJ.out]; rfl
        have hrjn : rj < n := by rw [← HRJ.out]; exact Nat.mod_lt _ (by omega)
        have HPS2 := Lib.hid hps2
        have HU2 := Lib.hid hu2
        have HC2 := Lib.hid hc2
        have HXP3 := Lib.hid hxp2
        have HCP2 := Lib.hid hcp2
        clear hps2 hu2 hc2 hxp2 hcp2 hcc2 hv2 HXP2 HCP HU1 hps1 e3
        go_upto_if 82 with fail
        go_cut [11] from 79 to 91 (fun s11 wx => PartsP base Q P Bm B (some ad) cap a L w o Ao f k (cutW (wordK a k) i j) (x1 + c2 + (if 0 < rj then 2 * b + 1 else 0)) (n1 + c2 + (if 0 < rj then 1 else 0)) s11 wx)
        case first =>
          by_cases hr : 0 < rj
          · have hd4 : decide (0 < (rj : Int)) = true := by simp; omega
            have hxb := XC_beg (L := L) (b := b) (r := rj) (by rw [HN.out]; exact hrjn)
            have hcx := HIB.out wc oa2 Aa2 ca2 na2 fa2 0 rj HPS2.out.ks hr (by rw [HN.out]; omega) (by
              rw [hxb]
              have h1 := HPP.out
              have h2 := HXP3.out
              rw [if_pos hr] at h2
              have h3 := HPS2.out.phi
              omega)
            rw [hxb] at hcx
            have HC := Lib.hid hcx
            have HRP := Lib.hid hr
            clear hcx hxb hr
            go_wp2_with fail
            refine HC.out.mono ?_; rintro e wa ⟨ia, ob, Ab, cb, nb, fb, rfl, ka, xa, pa, ha, ua, la, ga⟩
            have HKA := Lib.hid ka
            have HXA := Lib.hid xa
            have HPA := Lib.hid pa
            have HHA := Lib.hid ha
            have HUA := Lib.hid ua
            have HLA := Lib.hid la
            have HGA := Lib.hid ga
            have hgs : w.heap.size ≤ wa.heap.size := Nat.le_trans HPS2.out.grow.size ga.size
            have HO1 := Lib.hid (own3_sgrow HPS2.out.ks.st ga HPS2.out.own)
            clear ka xa pa ha ua la ga
            go_wp2_with (at_builtin; refine append_part wa rfl (.tmp 83) (.tmp 90) rfl w.heap.size Ap2 ps2.length cp2 ps2 ia rfl HO1.out rfl (by omega) hgs ?_; intro A9 c9 w9 hown9 hg9; have HO9 := Lib.hid hown9; have HG9 := Lib.hid hg9; clear hown9 hg9)
            go_meet
            case rel =>
              have := HPS2.out.snoc hB0 HKA.out HXA.out HPA.out HHA.out (fun z hz => HUA.out z (by omega)) HLA.out HGA.out HO9.out HG9.out
              refine ⟨ps2 ++ [ia], us2 ++ [cutW (wordK a b) 0 rj], A9, c9, ob, Ab, cb, nb, fb, by simp, ?_, ?_, ?_⟩
              · rw [if_pos HRP.out]; exact this
              · rw [HD.out, HCP2.out, if_pos HRP.out, ← HU2.out]; simp
              · rw [if_pos HRP.out]; simp [HC2.out]
          · have hd4 : decide (0 < (rj : Int)) = false := by simp; omega
            have HRP := Lib.hid hr
            clear hr
            go_wp2_with fail
            go_meet
            case rel =>
              refine ⟨ps2, us2, Ap2, cp2, oa2, Aa2, ca2, na2, fa2, rfl, ?_, ?_, ?_⟩
              · rw [if_neg HRP.out]; exact HPS2.out
              · rw [HD.out, HCP2.out, if_neg HRP.out, List.append_nil]; exact HU2.out
              · rw [if_neg HRP.out]; exact HC2.out
        case rest =>
          clear HPS2 HU2 HC2 HCP2 e5
          obtain ⟨ps3, us3, Ap3, cp3, oa3, Aa3, ca3, na3, fa3, rfl, hps3, hu3, hc3⟩ := hcut
          have hx3 := HXP3.out
          have hcut3 : (cutW (wordK a k) i j).length = j - i := cutW_len _ i j (by omega) (by
            rw [HD.out, copies_len, HLB.out]; exact hjL)
          have hpos : 0 < ps3.length := by
            rcases Nat.eq_zero_or_pos ps3.length with h0 | h0
            · have h1 := hps3.len
              rw [h0] at h1
              have h2 : us3 = [] := List.length_eq_zero_iff.1 h1
              rw [h2] at hu3
              have h3 := congrArg List.length hu3
              rw [hcut3] at h3
              simp at h3
              omega
            · exact h0
          have hPx : Phi a oa3 fa3 + (ps3.length - 1) ≤ Phi a o f + XC L k i j := by have := hps3.phi; rw [hc3]; omega
          have HPX := Lib.hid hPx
          have HPS3 := Lib.hid hps3
          have HU3 := Lib.hid hu3
          have HCU3 := Lib.hid hcut3
          obtain ⟨g3, rfl, hc0⟩ := own_cell hps3.own hpos
          have hp0 : wc.cell? ⟨g3, 0, none⟩ = some (.int .i64 ((ps3.getD 0 0 : Nat) : Int)) := by
            rw [hc0, pr, ir_get _ 0 (by simpa using hpos)]
            simp [List.getD, List.getElem?_map, List.getElem?_eq_getElem hpos]
          have hps3l : ps3.length ≤ 4001 := by have := HPP.out; omega
          have hus : us3.flatten.length ≤ 1152921504606846976 := by rw [hu3, hcut3]; omega
          have HUS := Lib.hid hus
          have hcapp : ps3.length ≤ cp3 := by
            rcases hps3.own.2 with ⟨h1, _⟩ | ⟨_, c', _, h1, _, _, h2, _⟩
            · simp at h1
            · simp only [Value.slice.injEq] at h1; omega
          clear hps3 hu3 hc3 hx3 hcut3 hPx hc0 HXP3
          have hown3 := HPS3.out.own
          have HO3 := Lib.hid hown3
          clear hown3 hus
          by_cases hcap : cp3 = 1
          case' pos =>
            have hl1 : ps3.length = 1 := by omega
            have HL1 := Lib.hid hl1
            clear hl1
            go_wp2
          case' neg =>
            go_wp2
          all_goals
            go_loopw [13, 98] (fun s13 s98 wr => ∃ (z q : Nat) (ox : List Nd) (Ax : Option Addr) (cx nx : Nat) (fx : Int → Option Value), z ≤ ps3.length - 1 ∧ s98 = .int .i64 (z : Int) ∧ s13 = .int .i64 (q : Int) ∧ KS wr base Q P Bm B (some ad) cap a L ox Ax cx nx fx ∧ Has ox q ((us3.take (z + 1)).flatten) ∧ (∃ t, ox = oa3 ++ t) ∧ Phi a ox fx ≤ Phi a oa3 fa3 + z ∧ (∀ y : Int, (k : Int) < y → fx y = f y) ∧ (o = [] → (0 < z ∨ ps3.length = 1) → q + 1 = ox.length) ∧ SGrow Q B (rowOf Ao) (rowOf Ax) w wr ∧ wr.ownsRow w.heap.size 3 1 (.slice (some ⟨g3, 0, none⟩) ps3.length cp3) ps3.length (pr ps3))
              (fun _ i _ => ps3.length - (intOf i).toNat)
            case atStart =>
              refine ⟨0, ps3.getD 0 0, oa3, Aa3, ca3, na3, fa3, Nat.zero_le _, rfl, by simp [List.getD, List.getElem?_eq_getElem hpos], HPS3.out.ks, ?_, ⟨[], by simp⟩, Nat.le_refl _, HPS3.out.upd, ?_, HPS3.out.grow, HPS3.out.own⟩
              · have h1 := HPS3.out.has 0 hpos
                have h2 : 0 < us3.length := by rw [HPS3.out.len]; exact hpos
                have e : (us3.take (0 + 1)).flatten = us3.getD 0 [] := by
                  cases us3 with
                  | nil => simp at h2
                  | cons y ys => simp [List.getD]
                rw [e]; exact h1
              · intro ho hz
                rcases hz with hz | hz
                · omega
                · obtain ⟨p, hp⟩ := List.length_eq_one_iff.1 hz
                  have := HPS3.out.one ho p hp
                  rw [hp]
                  exact this
            case round =>
              obtain ⟨z, q, ox, Ax, cx, nx, fx, hz, rfl, rfl, kx, hx, xx, px, ux, lx, gx, ow⟩ := hrel
              by_cases hlt : z < ps3.length - 1
              · first
                  | (exfalso; have := HL1.out; omega)
                  | (have hcapn : ¬ cp3 = 1 := by omega
                     obtain ⟨g4, e4', hc4⟩ := own_cell ow (show 1 + z < ps3.length by omega)
                     cases e4'
                     rw [pr, ir_get _ (1 + z) (by simp; omega)] at hc4
                     have hcv : (ps3.map fun (p : Nat) => (p : Int)).getD (1 + z) 0 = ((ps3.getD (1 + z) 0 : Nat) : Int) := by
                       simp [List.getD, List.getElem?_eq_getElem (show 1 + z < ps3.length by omega)]
                     rw [hcv] at hc4
                     have hh := (HPS3.out.has (1 + z) (by omega)).moret xx
                     have hul : 1 + z < us3.length := by rw [HPS3.out.len]; omega
                     have htk : (us3.take (z + 1 + 1)).flatten = (us3.take (z + 1)).flatten ++ us3.getD (1 + z) [] := by
                       have e : z + 1 < us3.length := by omega
                       rw [List.take_succ_eq_append_getElem e, List.flatten_append]
                       simp [List.getD, Nat.add_comm 1 z, List.getElem?_eq_getElem e]
                     obtain ⟨M9, hM9⟩ := kx.val
                     have hpx1 : Phi a ox fx + 1 ≤ 4000 := by have h1 := HPP.out; have h2 := HPX.out; omega
                     have hox : ox.length + 1 ≤ 4000 := by unfold Phi at hpx1; omega
                     have hsl : (us3.take (z + 1 + 1)).flatten.length ≤ us3.flatten.length := by
                       have e : us3 = us3.take (z + 1 + 1) ++ us3.drop (z + 1 + 1) := (List.take_append_drop _ _).symm
                       have := congrArg (fun l : List (List UInt8) => l.flatten.length) e
                       simp only [List.flatten_append, List.length_append] at this
                       omega
                     rw [htk, List.length_append] at hsl
                     have hgr := grown_join hM9 hox hx hh (by have := HUS.out; omega)
                     rw [← htk] at hgr
                     generalize hpv : ps3.getD (1 + z) 0 = pv at *
                     have HJ := Lib.hid (join_any (q : Int) (pv : Int) kx.st HL.out.dis (by omega))
                     have HGR := Lib.hid hgr
                     have HKX := Lib.hid kx
                     have HXX := Lib.hid xx
                     have HPX1 := Lib.hid px
                     have HUX := Lib.hid ux
                     have HGX := Lib.hid gx
                     have HOW := Lib.hid ow
                     have hc5 : wr.cell? ((⟨g3, 1, none⟩ : Addr).add z) = some (.int .i64 (pv : Int)) := by rw [Addr.add_mid]; exact hc4
                     clear kx hx xx px ux lx gx ow hM9 hgr hh htk hsl hcv hpx1 hpv
                     go_wp2_with fail
                     refine HJ.out.mono ?_; rintro e wj ⟨rfl, Aj, cj, sj, gj⟩
                     have HSJ := Lib.hid sj
                     have HGJ := Lib.hid (HGX.out.trans gj)
                     have HOJ := Lib.hid (own3_sgrow HKX.out.st gj HOW.out)
                     clear sj gj hc4 hc5
                     go_wp2
                     go_roundw
                     case rel =>
                       have hks := add_step (w' := wj) HKX.out HGR.out HSJ.out
                       exact ⟨z + 1, ox.length, _, Aj, cj, nx, fx, by omega, by go_num, rfl, hks.1, hks.2.1, ext_trans HXX.out ⟨_, rfl⟩, by rw [hks.2.2]; have := HPX1.out; omega, HUX.out, fun _ _ => by simp, HGJ.out, HOJ.out⟩
                     case measure => simp [intOf]; omega)
              · have hzz : z = ps3.length - 1 := by omega
                have htk : (us3.take (z + 1)).flatten = us3.flatten := by rw [List.take_of_length_le (by rw [HPS3.out.len]; omega)]
                rw [htk, HU3.out] at hx
                have HKX := Lib.hid kx
                have HHX := Lib.hid hx
                have HXX := Lib.hid xx
                have HPX1 := Lib.hid (show Phi a ox fx ≤ Phi a o f + XC L k i j by have := HPX.out; omega)
                have HUX := Lib.hid ux
                have HLX := Lib.hid (fun (ho : o = []) => lx ho (by omega))
                have HGX := Lib.hid gx
                clear kx hx xx px ux lx gx ow htk
                go_wp2
                go_ret
                exact ⟨q, ox, Ax, cx, nx, fx, rfl, HKX.out, ext_trans HPS3.out.ext HXX.out, HPX1.out, HHX.out, HUX.out, HLX.out, HGX.out⟩
end Go.Proofs.YtgklmcinbaghmaaGreatDoor
