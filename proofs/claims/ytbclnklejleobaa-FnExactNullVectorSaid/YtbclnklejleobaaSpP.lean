/- IsInSpan: the program's. -/
import Derived.Test.YtbclnklejleobaaSpV
namespace Go.Proofs.Ytbclnklejleobaa
open Go.RowKit
theorem startV_neg {zs : List Int} : decide (startV zs < 0) = decide (leadL zs = zs.length) := by
  unfold startV
  by_cases h : leadL zs = zs.length
  · rw [if_pos h]; simp [h]
  · rw [if_neg h]
    have : ¬ ((leadL zs : Int) < 0) := by omega
    simp [h, this]
theorem lead_tidy (z : List Int) : leadL (tidyL z) = leadL z := by
  refine leadL_eq (by rw [tidyL_len]; exact leadL_le z) (fun j hj => tidy_zero.2 (leadL_before hj)) ?_
  rcases Nat.lt_or_eq_of_le (leadL_le z) with h | h
  · exact .inr fun e => leadL_at h (tidy_zero.1 e)
  · exact .inl (by rw [tidyL_len]; exact h)
theorem SpanAt.same {n : Nat} {rs : List (List Int)} {z : List Int} (h : SpanAt n rs z) (hz : z.length = n) {t : Nat} (ht : t ≤ rs.length) : leadL (remP z rs t) = leadL (remL z rs t) := by
  rw [← lead_tidy (remP z rs t), ← lead_tidy (remL z rs t), rem_tidy (fun u hu => by rw [hz]; exact h.lead u hu) t ht]
theorem SpanAt.remP {n : Nat} {rs : List (List Int)} {z : List Int} (h : SpanAt n rs z) (hz : z.length = n) {t : Nat} (ht : t ≤ rs.length) : Fit 105413504 (remP z rs t) :=
  remP_fit (fun u hu => by rw [hz]; exact h.lead u hu) h.rem ht
set_option maxRecDepth 20000 in
set_option maxHeartbeats 1600000 in
theorem span_any (W : World) (a : Option Addr) (len cap : Nat) (ms : List (List Int)) (b : Option Addr) (lb cb : Nat) (z : List Int) (hsm : SmallM ms) (hs : SeesM W a len ms) (hl : lb ≤ 1073741824) (hc : lb ≤ cb) (hcm : cb ≤ maxLen) (hs2 : Sees .i64 W b lb z) :
    Calls Try.prog 17 #[.slice a len cap, .slice b lb cb] W fun e w' => e = .returned (.bool (inSpanV ms z)) ∧ Below W.heap.size W w' := by
  have HS := Lib.hid hs
  have HSM := Lib.hid hsm
  have HS2 := Lib.hid hs2
  have HLB := Lib.hid hs2.1
  cases hv : bothV ms z
  · have HE := Lib.hid (inSpan_no hv)
    have HV := Lib.hid hv
    clear hv hs hsm hs2
    go_enter Try.func17, Try.ntmps17
    go_wp2_with (go_at_call 42; refine (both_any _ a len cap ms b lb cb z HSM.out HS.out hl hc hcm HS2.out).mono ?_; rw [HV.out]; rintro e w1 ⟨rfl, hb1⟩; have HB1 := Lib.hid hb1; clear hb1)
    go_ret
    exact ⟨ret_bool HE.out.symm, HB1.out⟩
  · have HA := Lib.hid (span_at hv)
    have HRV : Hid (rrV ms (lb : Int) = rrL ms z.length) := Lib.hid (by
      have h1 : isMat ms (z.length : Int) = true := by simp only [bothV, Bool.and_eq_true] at hv; exact hv.1
      unfold rrV
      rw [← hs2.1, if_pos h1]
      simp)
    have hb6 := both_len hv
    rw [hs2.1] at hb6 HA
    obtain ⟨v, hve⟩ : ∃ v, v = inSpanV ms z := ⟨_, rfl⟩
    rw [← hve]
    have HE := Lib.hid (hve.trans (inSpan_yes hv))
    obtain ⟨rs, hrs⟩ : ∃ rs, rs = rrL ms z.length := ⟨_, rfl⟩
    rw [← hrs] at HE HRV
    rw [show rrL ms lb = rs by rw [hrs, hs2.1]] at HA
    have hr12 : rs.length ≤ 12 := HA.out.many
    have HV := Lib.hid hv
    obtain ⟨hb1', hb6'⟩ := hb6
    clear hv hve hs hsm hs2 hrs
    go_enter Try.func17, Try.ntmps17
    go_wp2_with (first
      | (go_at_call 42; refine (both_any _ a len cap ms b lb cb z HSM.out HS.out hl hc hcm HS2.out).mono ?_; rw [HV.out]; rintro e w1 ⟨rfl, hb1⟩; have HB1 := Lib.hid hb1; clear hb1)
      | (go_at_call 45; refine (clone_any _ b lb cb z hl (by omega) (HS2.out.below HB1.out)).mono ?_; rintro e w3 ⟨a3, l3, c3, rfl, ho3, hb3⟩; have hl3 : lb = l3 := (by have h1 := ho3.1; rw [HLB.out] at h1; exact h1); subst hl3; have HO3 := Lib.hid ho3; have HB3 := Lib.hid (below_up HB1.out hb3 (Nat.le_refl _)); clear ho3 hb3)
      | (go_at_call 13; refine (rrP_any _ a len cap ms (lb : Int) HSM.out (by omega) (by omega) (HS.out.below HB3.out)).mono ?_; rw [HRV.out]; rintro e w4 ⟨a4, l4, c4, rfl, hs4, hb4⟩; have hl4 := hs4.1; subst hl4; have HS4 := Lib.hid hs4.seesF; have HO4 := Lib.hid (HO3.out.below hb4); have HB4 := Lib.hid (below_up HB3.out hb4 (Nat.le_refl _)); clear hs4 hb4))
    go_loopw [19, 7] (fun i _ wr => ∃ u : Nat, u ≤ rs.length ∧ i = .int .i64 u ∧ Own .i64 3 wr w1.heap.size w3.heap.size a3 lb c3 (remP z rs u) ∧ Moved w1.heap.size w3.heap.size w4 wr) (fun i _ _ => rs.length - (intOf i).toNat)
    case atStart => exact ⟨0, Nat.zero_le _, rfl, HO4.out, Moved.refl _ _ _⟩
    case round =>
      obtain ⟨u, hu, rfl, ho, hm⟩ := hrel
      have HO := Lib.hid ho
      have HM := Lib.hid hm
      by_cases hul : u < rs.length
      · have hsf := HS4.out.moved hm (.inr (Nat.le_refl _))
        obtain ⟨b5, off5, ar, cr, rfl, hbl, _, hcw, _, _, hsr, hnr⟩ := hsf.2 u hul
        rw [HA.out.wid u hul] at hcw hsr
        have HSR := Lib.hid hsr
        have HNR : Hid (∀ x, ar = some x → ¬ (w1.heap.size ≤ x.block ∧ x.block < w3.heap.size)) := Lib.hid (fun x hx => by have := hnr x hx; omega)
        obtain ⟨d, hd⟩ : ∃ d, d = leadL (row rs u) := ⟨_, rfl⟩
        have hdl : d < lb := by rw [hd]; exact (HA.out.lead u hul).1
        have HSV : Hid (startV (row rs u) = (d : Int)) := Lib.hid (by rw [hd]; exact startV_lead (by rw [HA.out.wid u hul]; exact (HA.out.lead u hul).1))
        have HN : Hid (remP z rs (u + 1) = clearL (remP z rs u) (row rs u) d) := Lib.hid (by rw [remP, ← hd])
        clear hsr hnr hsf ho hm hd
        go_wp2_with (first
          | (go_at_call 47; refine (startOf_any _ ar lb cr (row rs u) hl HSR.out).mono ?_; rw [HSV.out]; rintro e w' ⟨rfl, rfl⟩)
          | (go_at_call 46; refine (clearCol_any _ w1.heap.size w3.heap.size a3 lb c3 ar cr (remP z rs u) (row rs u) d hl hdl HO.out HSR.out HNR.out ((HA.out.remP HLB.out hu).up (by decide)) ((HA.out.fit u hul).up (by decide)) ((HA.out.remP HLB.out hu).up (by decide) d) ((HA.out.fit u hul).up (by decide) d)).mono ?_; rintro e w7 ⟨rfl, ho7, hm7⟩; have HO7 := Lib.hid ho7; have HM7 := Lib.hid hm7; clear ho7 hm7))
        go_roundw
        case rel => exact ⟨u + 1, by omega, by go_num, by rw [HN.out]; exact HO7.out, HM.out.trans HM7.out⟩
        case measure => simp [intOf]; omega
      · obtain rfl : u = rs.length := by omega
        have HEV : Hid (v = decide (startV (remP z rs rs.length) < 0)) := Lib.hid (by rw [HE.out, startV_neg, HA.out.same HLB.out (Nat.le_refl _), remP_len])
        obtain ⟨d, hd⟩ : ∃ d, startV (remP z rs rs.length) = d := ⟨_, rfl⟩
        rw [hd] at HEV
        have HD := Lib.hid hd
        clear ho hm hd
        go_wp2_with (go_at_call 47; refine (startOf_any _ a3 lb c3 (remP z rs rs.length) hl HO.out.sees).mono ?_; rw [HD.out]; rintro e w' ⟨rfl, rfl⟩)
        go_ret
        exact ⟨ret_bool HEV.out.symm, below_moved HB4.out HM.out (Nat.le_refl _) HB1.out.size⟩
end Go.Proofs.Ytbclnklejleobaa
