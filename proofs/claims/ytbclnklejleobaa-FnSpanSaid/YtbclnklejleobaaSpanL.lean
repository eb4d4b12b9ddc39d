/- The walk of the law on spans. -/
import Derived.Test.YtbclnklejleobaaSpanF
import Derived.Test.YtbclnklejleobaaDrawS
import Derived.Test.YtbclnklejleobaaRowsL
namespace Go.Proofs.Ytbclnklejleobaa
open Go.RowKit
theorem drawNV_any (W : World) (a : Option Addr) (len cap : Nat) (hl : len ≤ 1048576) (hc : CodeAt W W.heap.size a len) : Calls Try.prog 19 #[.slice a len cap] W (GotMR W) := by
  have HK := Lib.hid hc
  clear hc
  go_enter Try.func19, Try.ntmps19
  go_wp2_with (go_at_call 48; refine (drawSp_any _ a len cap hl HK.out).mono ?_; rintro e w1 ⟨ms, a1, l1, c1, zs, b, lb, cb, hsm, hl1, ⟨hn0, hn1⟩, rfl, ho1, ho2, hb1⟩; have HSM := Lib.hid hsm; have HO1 := Lib.hid ho1; have HO2 := Lib.hid ho2; have HB1 := Lib.hid hb1; clear hsm ho1 ho2 hb1)
  go_ret2
  exact ⟨ms, _, _, _, zs, _, _, _, HSM.out, hl1, ⟨hn0, hn1⟩, rfl, HO1.out, HO2.out, HB1.out⟩
set_option maxRecDepth 20000 in
set_option maxHeartbeats 4000000 in
theorem lawSpan_small (W : World) (a : Option Addr) (len cap : Nat) (hl : len ≤ 1048576) (hc : CodeAt W W.heap.size a len) : Calls Try.prog 4 #[.slice a len cap] W (LawYes W) := by
  have HK := Lib.hid hc
  clear hc
  go_enter Try.func4, Try.ntmps4
  go_wp2_with (go_at_call 11; refine (big_no _ a len cap hl).mono ?_; rintro e w0 ⟨rfl, rfl⟩)
  go_at_call 19
  refine (drawNV_any _ a len cap hl HK.out).mono ?_
  rintro e w1 ⟨ms, a1, l1, c1, z, b, lb, cb, hsm, hl1, ⟨hn0, hn1⟩, rfl, ho1, hoz, hb1⟩
  have HSM := Lib.hid hsm
  have HL1 := Lib.hid ho1.1
  have HLZ := Lib.hid hoz.1
  have HS1 := Lib.hid ho1.sees
  have HZ1 := Lib.hid hoz.sees
  have HB1 := Lib.hid hb1
  have hle := hoz.cap
  have hcm := hoz.capMax
  have hn9 : lb ≤ 1073741824 := by omega
  clear hsm ho1 hoz hb1
  go_wp2_with fail
  go_at_call 16
  refine (nv_any _ a1 l1 c1 ms b lb cb z HSM.out HS1.out hn9 hle hcm HZ1.out).mono ?_
  rintro e w2 ⟨a2, l2, c2, rfl, ho2, hb2⟩
  have HL2 := Lib.hid ho2.1
  have HV2 := Lib.hid ho2.sees
  have HS2 := Lib.hid (HS1.out.below hb2)
  have HZ2 := Lib.hid (HZ1.out.below hb2)
  have HB2 := Lib.hid (below_up HB1.out hb2 (Nat.le_refl _))
  clear ho2 hb2
  go_wp2_with fail
  go_at_call 20
  refine (specNV_any _ a1 l1 c1 ms b lb cb z HSM.out HS2.out hn9 hle hcm HZ2.out).mono ?_
  rintro e w3 ⟨a3, l3, c3, rfl, ho3, hb3⟩
  have hl3 : l2 = l3 := HL2.out.symm.trans ho3.1
  subst hl3
  have HS3 := Lib.hid (HS2.out.below hb3)
  have HZ3 := Lib.hid (HZ2.out.below hb3)
  have HV3 := Lib.hid (HV2.out.below hb3)
  have HB3 := Lib.hid (below_up HB2.out hb3 (Nat.le_refl _))
  have hl26 : l2 ≤ 6 := by have := nullV_len ms z; rw [HL2.out] at this; exact this
  clear ho3 hb3
  go_wp2_with fail
  go_at_call 17
  refine (span_any _ a1 l1 c1 ms b lb cb z HSM.out HS3.out hn9 hle hcm HZ3.out).mono ?_
  rintro e w4 ⟨rfl, hb4⟩
  have HS4 := Lib.hid (HS3.out.below hb4)
  have HZ4 := Lib.hid (HZ3.out.below hb4)
  have HV4 := Lib.hid (HV3.out.below hb4)
  have HB4 := Lib.hid (below_up HB3.out hb4 (Nat.le_refl _))
  clear hb4
  have hlb0 : ((lb : Int) == 0) = false := by simp; omega
  have HSO := Lib.hid (small_one (z := z) (by rw [HLZ.out]; exact hn1))
  cases hm : isMat ms (lb : Int)
  · have hv : bothV ms z = false := by unfold bothV; rw [HLZ.out, hm]; rfl
    have HIN := Lib.hid (inSpan_no hv)
    have hl20 : l2 = 0 := by rw [← HL2.out, null_none hv]; rfl
    have HM := Lib.hid hm
    subst hl20
    rw [HIN.out]
    clear hm hv
    go_wp2_with (go_at_call 14; refine (isM_any _ a1 l1 c1 ms (lb : Int) HSM.out (by omega) (by omega) HS4.out).mono ?_; rw [HM.out]; rintro e w5 ⟨rfl, hb5⟩; have HB5 := Lib.hid (below_up HB4.out hb5 (Nat.le_refl _)); clear hb5)
    go_ret
    exact ⟨rfl, HB5.out⟩
  · cases hz : isMat [z] (lb : Int)
    · have hv : bothV ms z = false := by unfold bothV; rw [HLZ.out, hm, hz]; rfl
      have HIN := Lib.hid (inSpan_no hv)
      have hl20 : l2 = 0 := by rw [← HL2.out, null_none hv]; rfl
      have HM := Lib.hid hm
      have HZZ := Lib.hid hz
      subst hl20
      rw [HIN.out]
      clear hm hv hz
      go_wp2_with (first
        | (go_at_call 14; refine (isM_any _ (some ⟨w5.heap.size, 0, none⟩) 1 1 [z] (lb : Int) HSO.out (by omega) (by omega) (seesM_one HZ5.out hle hcm _)).mono ?_; rw [HZZ.out]; rintro e w6 ⟨rfl, hb6⟩; have HB6 := Lib.hid (below_up (HB5.out.alloc HB5.out.size _) hb6 (Nat.le_refl _)); clear hb6)
        | (go_at_call 14; refine (isM_any _ a1 l1 c1 ms (lb : Int) HSM.out (by omega) (by omega) HS4.out).mono ?_; rw [HM.out]; rintro e w5 ⟨rfl, hb5⟩; have HZ5 := Lib.hid (HZ4.out.below hb5); have HB5 := Lib.hid (below_up HB4.out hb5 (Nat.le_refl _)); clear hb5))
      go_ret
      exact ⟨rfl, HB6.out⟩
    · have hv : bothV ms z = true := by unfold bothV; rw [HLZ.out, hm, hz]; rfl
      have HM := Lib.hid hm
      have HZZ := Lib.hid hz
      have HWD : Hid (∀ i, i < l1 → (row ms i).length = lb) := Lib.hid (fun i hi => by have := ((isMat_true hm).2.2 i (by rw [HL1.out]; exact hi)).1; omega)
      cases hin : inSpanV ms z
      · have HOK := Lib.hid (span_ok hv hin)
        have hl2b : l2 = lb := by rw [← HL2.out, HOK.out.len, HLZ.out]
        subst hl2b
        obtain ⟨nv, hnv⟩ : ∃ nv, nv = nullV ms z := ⟨_, rfl⟩
        rw [← hnv] at HOK HV4
        obtain ⟨dv, hdv⟩ : ∃ dv, dv = dotV z nv := ⟨_, rfl⟩
        have hdv0 : dv ≠ 0 := by rw [hdv]; exact HOK.out.tells
        have hdvb : (dv != 0) = true := by simp [hdv0]
        have HDV := Lib.hid hdv
        clear hm hz hv hin hnv hdv
        go_wp2_with (first
          | (go_at_call 14; refine (isM_any _ (some ⟨w5.heap.size, 0, none⟩) 1 1 [z] (l2 : Int) HSO.out (by omega) (by omega) (seesM_one HZ5.out hle hcm _)).mono ?_; rw [HZZ.out]; rintro e w6 ⟨rfl, hb6⟩; have HS6 := Lib.hid ((HS5.out.below ((Below.refl _ _).alloc (Nat.le_refl _) _)).below hb6); have HZ6 := Lib.hid ((HZ5.out.alloc _).below hb6); have HV6 := Lib.hid ((HV5.out.alloc _).below hb6); have HB6 := Lib.hid (below_up (HB5.out.alloc HB5.out.size _) hb6 (Nat.le_refl _)); clear hb6)
          | (go_at_call 14; refine (isM_any _ a1 l1 c1 ms (l2 : Int) HSM.out (by omega) (by omega) HS4.out).mono ?_; rw [HM.out]; rintro e w5 ⟨rfl, hb5⟩; have HS5 := Lib.hid (HS4.out.below hb5); have HZ5 := Lib.hid (HZ4.out.below hb5); have HV5 := Lib.hid (HV4.out.below hb5); have HB5 := Lib.hid (below_up HB4.out hb5 (Nat.le_refl _)); clear hb5))
        go_loopw [7] (fun i wr => ∃ k : Nat, k ≤ l1 ∧ i = .int .i64 k ∧ Below W.heap.size W wr ∧ Below w6.heap.size w6 wr) (fun i _ => l1 - (intOf i).toNat)
        case atStart => exact ⟨0, Nat.zero_le _, rfl, HB6.out, Below.refl _ _⟩
        case round =>
          obtain ⟨k, hk, rfl, hb, hb6⟩ := hrel
          have HB := Lib.hid hb
          have HBB := Lib.hid hb6
          have HVR := Lib.hid (HV6.out.below hb6)
          have HZR := Lib.hid (HZ6.out.below hb6)
          by_cases hkl : k < l1
          · obtain ⟨b7, o7, ar, cr, rfl, hb7, hc7, _, _, hs7⟩ := HS6.out.2 k hkl
            have hcw := (hb6.cell (p := ⟨b7, o7 + k, none⟩) hb7).trans hc7
            rw [HWD.out k hkl] at hcw hs7
            have HSR := Lib.hid (hs7.below hb6)
            have HD0 : Hid (dotV (row ms k) nv = 0) := Lib.hid (HOK.out.rows k (by rw [HL1.out]; exact hkl))
            clear hc7 hs7 hb hb6
            go_wp2_with (go_at_call 21; refine (dot_any _ ar l2 cr a2 l2 c2 (row ms k) nv hn9 hn9 HSR.out HVR.out).mono ?_; rw [HD0.out]; rintro e w8 ⟨rfl, hb8⟩; have HB8 := Lib.hid hb8; clear hb8)
            go_roundw
            case rel => exact ⟨k + 1, by omega, by go_num, below_up HB.out HB8.out (Nat.le_refl _), below_up HBB.out HB8.out (Nat.le_refl _)⟩
            case measure => simp [intOf]; omega
          · clear hb hb6
            go_wp2_with (go_at_call 21; refine (dot_any _ b l2 cb a2 l2 c2 z nv hn9 hn9 HZR.out HVR.out).mono ?_; rw [← HDV.out]; rintro e w8 ⟨rfl, hb8⟩; have HB8 := Lib.hid (below_up HB.out hb8 (Nat.le_refl _)); clear hb8)
            go_ret
            exact ⟨rfl, HB8.out⟩
      · have hl20 : l2 = 0 := by rw [← HL2.out, null_in hv hin]; rfl
        subst hl20
        clear hm hz hv hin
        go_wp2_with (first
          | (go_at_call 14; refine (isM_any _ (some ⟨w5.heap.size, 0, none⟩) 1 1 [z] (lb : Int) HSO.out (by omega) (by omega) (seesM_one HZ5.out hle hcm _)).mono ?_; rw [HZZ.out]; rintro e w6 ⟨rfl, hb6⟩; have HB6 := Lib.hid (below_up (HB5.out.alloc HB5.out.size _) hb6 (Nat.le_refl _)); clear hb6)
          | (go_at_call 14; refine (isM_any _ a1 l1 c1 ms (lb : Int) HSM.out (by omega) (by omega) HS4.out).mono ?_; rw [HM.out]; rintro e w5 ⟨rfl, hb5⟩; have HZ5 := Lib.hid (HZ4.out.below hb5); have HB5 := Lib.hid (below_up HB4.out hb5 (Nat.le_refl _)); clear hb5))
        go_ret
        exact ⟨rfl, HB6.out⟩
theorem lawSpan_walk (a : Option Addr) (len cap : Nat) (z : List Int) (W : World) (w0 : IsRow .u8 W a len cap z) : Calls Try.prog 4 #[.slice a len cap] W (LawYes W) := by
  by_cases hl : len ≤ 1048576
  · exact lawSpan_small W a len cap hl (code_of w0)
  · clear w0
    go_enter Try.func4, Try.ntmps4
    go_wp2_with (go_at_call 11; refine (big_yes _ a len cap hl).mono ?_; rintro e w0 ⟨rfl, rfl⟩)
    go_ret
    exact ⟨rfl, Below.refl _ _⟩
end Go.Proofs.Ytbclnklejleobaa
