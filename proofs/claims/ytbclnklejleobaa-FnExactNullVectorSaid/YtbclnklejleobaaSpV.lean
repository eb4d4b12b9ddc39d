/- IsInSpan: the model's and the program's, whole. -/
import Derived.Test.YtbclnklejleobaaSpW
namespace Go.Proofs.Ytbclnklejleobaa
open Go.RowKit
theorem OwnM.seesF {w : World} {lo hi : Nat} {a : Option Addr} {len cap : Nat} {ms : List (List Int)} (h : OwnM w lo hi a len cap ms) : SeesF w lo hi a len ms := by
  obtain ⟨h1, h2, h3, A, C, h4, h5⟩ := h
  refine ⟨h1, fun r hr => ?_⟩
  rcases ownsRow_spot h4 with ⟨_, h0⟩ | ⟨g, rfl, _, hg, _, _, hc, _⟩
  · omega
  · have ho := (h5 r (by omega)).1
    have hb := h3 _ rfl
    exact ⟨g, 0, A r, C r, rfl, hb, h2, by rw [Nat.zero_add, hc r hr, heads_at (by omega)], ho.cap, ho.capMax, ho.sees, ho.2.2.2.2⟩
theorem inSpan_no {ms : List (List Int)} {z : List Int} (h : bothV ms z = false) : inSpanV ms z = false := by unfold inSpanV; rw [h]; rfl
theorem inSpan_yes {ms : List (List Int)} {z : List Int} (h : bothV ms z = true) : inSpanV ms z = decide (leadL (remL z (rrL ms z.length) (rrL ms z.length).length) = z.length) := by unfold inSpanV; rw [h]; rfl
/-- What the walks need of the reduced rows. -/
structure SpanAt (n : Nat) (rs : List (List Int)) (z : List Int) : Prop where
  many : rs.length ≤ 12
  wid : ∀ t, t < rs.length → (row rs t).length = n
  lead : ∀ t, t < rs.length → leadL (row rs t) < n ∧ vec (row rs t) (leadL (row rs t)) ≠ 0
  fit : ∀ t, t < rs.length → Fit 2985984 (row rs t)
  rem : ∀ t, t ≤ rs.length → Fit 105413504 (remL z rs t)
theorem rr_fit {n : Nat} {ms : List (List Int)} (h : Fine n n ms) {t : Nat} (ht : t < (rrL ms n).length) : Fit 2985984 (row (rrL ms n) t) := fun j => by
  rcases Nat.lt_or_ge j n with hj | hj
  · rw [rrL_row h ht]
    rw [rrL_len h] at ht
    obtain ⟨c, o, he⟩ := (h.inv (Nat.le_refl n)).el
    have := he.bound1 (N := 2) h.small hj (fun i hi => h.small i hi j hj) ht (by have := he.rk; have := h.q6; omega)
    omega
  · rw [vec_beyond (by rw [rrL_wid h ht]; exact hj)]
    decide
theorem span_at {ms : List (List Int)} {z : List Int} (h : bothV ms z = true) : SpanAt z.length (rrL ms z.length) z := by
  have hf := both_fine h
  obtain ⟨c, o, hr⟩ := hf.reduced
  refine ⟨?_, hr.wid, fun t ht => ?_, fun t ht => rr_fit hf ht, fun t ht => hr.rem_fit rfl (both_row h) ht⟩
  · rw [rrL_len hf]
    have h1 := hf.rle
    have h2 := hf.len
    omega
  · rw [hr.lead t ht]
    refine ⟨hr.el.ck t ht, ?_⟩
    have := hr.el.pos t ht
    rw [hr.rowv t ht] at this
    omega
set_option maxRecDepth 20000 in
set_option maxHeartbeats 1600000 in
theorem specSpan_any (W : World) (a : Option Addr) (len cap : Nat) (ms : List (List Int)) (b : Option Addr) (lb cb : Nat) (z : List Int) (hsm : SmallM ms) (hs : SeesM W a len ms) (hl : lb ≤ 1073741824) (hc : lb ≤ cb) (hcm : cb ≤ maxLen) (hs2 : Sees .i64 W b lb z) :
    Calls Try.prog 29 #[.slice a len cap, .slice b lb cb] W fun e w' => e = .returned (.bool (inSpanV ms z)) ∧ Below W.heap.size W w' := by
  have HS := Lib.hid hs
  have HSM := Lib.hid hsm
  have HS2 := Lib.hid hs2
  have HLB := Lib.hid hs2.1
  obtain ⟨i0, hi, hz0, hz1, hz2⟩ := info_parts info_i64
  cases hv : bothV ms z
  · have HE := Lib.hid (inSpan_no hv)
    have HV := Lib.hid hv
    clear hv hs hsm hs2
    go_enter Try.func29, Try.ntmps29
    go_wp2_with (go_at_call 49; refine (specBoth_any _ a len cap ms b lb cb z HSM.out HS.out hl hc hcm HS2.out).mono ?_; rw [HV.out]; rintro e w1 ⟨rfl, hb1⟩; have HB1 := Lib.hid hb1; clear hb1)
    go_ret
    exact ⟨ret_bool HE.out.symm, HB1.out⟩
  · have HA := Lib.hid (span_at hv)
    have HRV : Hid (rrV ms (lb : Int) = rrL ms z.length) := Lib.hid (by
      have h1 : isMat ms (z.length : Int) = true := by simp only [bothV, Bool.and_eq_true] at hv; exact hv.1
      unfold rrV
      rw [← hs2.1, if_pos h1]
      simp)
    have hb6 := both_len hv
    rw [hs2.1] at hb6 HA
    obtain ⟨v, hve⟩ : ∃ v, v = inSpanV ms z := ⟨_, rfl⟩
    rw [← hve]
    have HE := Lib.hid (hve.trans (inSpan_yes hv))
    obtain ⟨rs, hrs⟩ : ∃ rs, rs = rrL ms z.length := ⟨_, rfl⟩
    rw [← hrs] at HE HRV
    rw [show rrL ms lb = rs by rw [hrs, hs2.1]] at HA
    have hr12 : rs.length ≤ 12 := HA.out.many
    have HV := Lib.hid hv
    obtain ⟨hb1', hb6'⟩ := hb6
    clear hv hve hs hsm hs2 hrs
    go_enter Try.func29, Try.ntmps29
    go_wp2_with (first
      | (go_at_call 49; refine (specBoth_any _ a len cap ms b lb cb z HSM.out HS.out hl hc hcm HS2.out).mono ?_; rw [HV.out]; rintro e w1 ⟨rfl, hb1⟩; have HB1 := Lib.hid hb1; clear hb1)
      | (at_builtin; refine wp_append_sees rfl _ _ 29 rfl 3 i0 .i64 8 Try.underlying29 hi hz0 hz1 hz2 _ _ _ _ rfl _ _ (own_nil _ _ _) _ _ _ _ rfl ((HS2.out.below HB1.out).alloc _) (by unfold maxLen; omega) (by omega) (by simp) ?_; intro a3 len3 cap3 w3 hlen3 ho3 hm3; rw [Nat.zero_add] at hlen3; replace hlen3 := hlen3.symm; subst hlen3; rw [List.nil_append] at ho3; have HX3 := Lib.hid ho3.sees; have HB3 := Lib.hid (below_moved (HB1.out.alloc HB1.out.size _) hm3 (Nat.le_refl _) HB1.out.size); clear ho3 hm3)
      | (go_at_call 25; refine (specRR_any _ a len cap ms (lb : Int) HSM.out (by omega) (by omega) (HS.out.below HB3.out)).mono ?_; rw [HRV.out]; rintro e w4 ⟨a4, l4, c4, rfl, hs4, _, _, hb4⟩; have hl4 := hs4.1; subst hl4; have HS4 := Lib.hid hs4.sees; have HX4 := Lib.hid (HX3.out.below hb4); have HB4 := Lib.hid (below_up HB3.out hb4 (Nat.le_refl _)); clear hs4 hb4))
    go_loopw [5, 7, 8] (fun v i _ wr => ∃ (u : Nat) (ax : Option Addr) (cx : Nat), u ≤ rs.length ∧ i = .int .i64 u ∧ v = .slice ax lb cx ∧ Sees .i64 wr ax lb (remL z rs u) ∧ Below W.heap.size W wr ∧ Below w4.heap.size w4 wr) (fun _ i _ _ => rs.length - (intOf i).toNat)
    case atStart => exact ⟨0, _, _, Nat.zero_le _, rfl, rfl, HX4.out, HB4.out, Below.refl _ _⟩
    case round =>
      obtain ⟨u, ax, cx, hu, rfl, rfl, hx, hb, hb4⟩ := hrel
      have HX := Lib.hid hx
      have HB := Lib.hid hb
      have HB5 := Lib.hid hb4
      have hlb : lb ≤ 1073741824 := hl
      by_cases hul : u < rs.length
      · obtain ⟨b5, off5, ar, cr, rfl, hbl, hcr, _, _, hsr⟩ := HS4.out.2 u hul
        have hcw := (hb4.cell (p := ⟨b5, off5 + u, none⟩) hbl).trans hcr
        rw [HA.out.wid u hul] at hcw hsr
        have HSR := Lib.hid (hsr.below hb4)
        obtain ⟨d, hd⟩ : ∃ d, d = leadL (row rs u) := ⟨_, rfl⟩
        have hdl : d < lb := by rw [hd]; exact (HA.out.lead u hul).1
        have HD := Lib.hid hd
        rcases hx.2.2 with h0 | ⟨b6, o6, rfl, hb6, hc6⟩
        · omega
        · have hcc := hc6 d hdl
          obtain ⟨y, hy⟩ : ∃ y, y = vec (remL z rs u) d := ⟨_, rfl⟩
          rw [show (remL z rs u).getD d 0 = y from hy.symm] at hcc
          have HY := Lib.hid hy
          clear hcr hsr hx hb hb4 hd hc6 hy
          by_cases hy0 : y = 0
          · have HN : Hid (remL z rs (u + 1) = remL z rs u) := Lib.hid (by rw [remL, clrStep, clrRow, ← HD.out, ← HY.out, if_pos hy0])
            subst hy0
            go_wp2_with (go_at_call 50; refine (specLead_any _ ar lb cr (row rs u) hlb HSR.out).mono ?_; rw [← HD.out]; rintro e w' ⟨rfl, rfl⟩)
            go_roundw
            case rel => exact ⟨u + 1, _, _, by omega, by go_num, rfl, by rw [HN.out]; exact HX.out, HB.out, HB5.out⟩
            case measure => simp [intOf]; omega
          · have HN : Hid (remL z rs (u + 1) = clearL (remL z rs u) (row rs u) d) := Lib.hid (by rw [remL, clrStep, clrRow, ← HD.out, ← HY.out, if_neg hy0])
            have hy0b : (y != 0) = true := by simp [hy0]
            go_wp2_with (first
              | (go_at_call 50; refine (specLead_any _ ar lb cr (row rs u) hlb HSR.out).mono ?_; rw [← HD.out]; rintro e w' ⟨rfl, rfl⟩)
              | (go_at_call 55; refine (specClear_any _ _ lb cx ar cr (remL z rs u) (row rs u) d hlb hdl HX.out HSR.out ((HA.out.rem u hu).up (by decide)) ((HA.out.fit u hul).up (by decide)) ((HA.out.rem u hu).up (by decide) d) ((HA.out.fit u hul).up (by decide) d)).mono ?_; rintro e w7 ⟨a7, l7, c7, rfl, ho7, hb7⟩; have hl7 : lb = l7 := (by have h1 := ho7.1; rw [clearL_len, remL_len, HLB.out] at h1; exact h1); subst hl7; have HX7 := Lib.hid ho7.sees; have HB7 := Lib.hid hb7; clear ho7 hb7))
            go_roundw
            case rel => exact ⟨u + 1, _, _, by omega, by go_num, rfl, by rw [HN.out]; exact HX7.out, below_up HB.out HB7.out (Nat.le_refl _), below_up HB5.out HB7.out (Nat.le_refl _)⟩
            case measure => simp [intOf]; omega
      · obtain rfl : u = rs.length := by omega
        obtain ⟨d, hd⟩ : ∃ d, d = leadL (remL z rs rs.length) := ⟨_, rfl⟩
        have HD := Lib.hid hd
        have HEV : Hid (v = decide (d = lb)) := Lib.hid (by rw [HE.out, HD.out, HLB.out])
        clear hx hb hb4 hd
        go_wp2_with (go_at_call 50; refine (specLead_any _ ax lb cx (remL z rs rs.length) hlb HX.out).mono ?_; rw [← HD.out]; rintro e w' ⟨rfl, rfl⟩)
        go_ret
        exact ⟨ret_bool (by rw [HEV.out]; by_cases h : d = lb; simp [h]; simp [h]; omega), HB.out⟩
end Go.Proofs.Ytbclnklejleobaa
