/- The walk of the law on probes. -/
import Derived.Test.YtjckcggjmcaaoaaPrbT
import Derived.Test.YtjckcggjmcaaoaaSumN
import Derived.Test.YtjckcggjmcaaoaaDraw8
import Derived.Test.YtjckcggjmcaaoaaBig
import Derived.Test.YtjckcggjmcaaoaaPsP
import Derived.Test.YtjckcggjmcaaoaaMaP
import Derived.Test.YtjckcggjmcaaoaaAreP
import Derived.Test.YtjckcggjmcaaoaaAloP
import Derived.Test.YtjckcggjmcaaoaaSeenP
namespace Go.Proofs.Ytjckcggjmcaaoaa
open Go.RowKit
set_option maxRecDepth 20000 in
set_option maxHeartbeats 800000 in
theorem contains_any (W : World) (a : Option Addr) (len cap : Nat) (zs : List Int) (x : Int) (hl : len ≤ 1073741824) (hs : Sees .i64 W a len zs) :
    Calls Try.prog 12 #[.slice a len cap, .int .i64 x] W fun e w' => e = .returned (.bool (hasB zs x)) ∧ W = w' := by
  have HS := Lib.hid hs
  have HL := Lib.hid hs.1
  clear hs
  obtain ⟨v, hv⟩ : ∃ v : Bool, v = hasB zs x := ⟨_, rfl⟩
  rw [← hv]
  have HV := Lib.hid hv
  clear hv
  go_enter Try.func12, Try.ntmps12
  go_wp2
  go_loopw [5] (fun i wr => ∃ k : Nat, k ≤ len ∧ i = .int .i64 k ∧ Hid (∀ j, j < k → ¬ zs.getD j 0 = x) ∧ wr = W) (fun i _ => len - (intOf i).toNat)
  case atStart => exact ⟨0, Nat.zero_le _, rfl, Lib.hid (fun j hj => by omega), rfl⟩
  case round =>
    obtain ⟨k, hk, rfl, HA, rfl⟩ := hrel
    by_cases hlt : k < len
    · rcases HS.out.2.2 with h0 | ⟨b, o, rfl, hb, hc⟩
      · omega
      have hx := hc k hlt
      obtain ⟨y, hy⟩ : ∃ y, zs.getD k 0 = y := ⟨_, rfl⟩
      rw [hy] at hx
      have HY := Lib.hid hy
      clear hc hy
      by_cases h : y = x
      · subst h
        have HE : Hid (v = true) := Lib.hid (by rw [HV.out]; exact hasB_yes (by rw [HL.out]; exact hlt) HY.out)
        go_wp2
        go_ret
        exact ⟨ret_bool HE.out.symm, rfl⟩
      · go_wp2
        go_roundw
        case rel => exact ⟨k + 1, by omega, by go_num, Lib.hid (next_all HA.out (by rw [HY.out]; exact h)), trivial⟩
        case measure => simp [intOf]; omega
    · obtain rfl : k = len := by omega
      have HE : Hid (v = false) := Lib.hid (by rw [HV.out]; exact hasB_no (fun j hj => HA.out j (by rw [HL.out] at hj; exact hj)))
      go_wp2
      go_ret
      exact ⟨ret_bool HE.out.symm, rfl⟩
set_option maxRecDepth 20000 in
set_option maxHeartbeats 12800000 in
theorem probes_small (W : World) (a0 : Option Addr) (len0 cap0 : Nat) (hl : len0 ≤ 1048576) (hc : CodeAt W W.heap.size a0 len0) : Calls Try.prog 3 #[.slice a0 len0 cap0] W (LawYes7 W) := by
  have HC := Lib.hid hc
  clear hc
  go_enter Try.func3, Try.ntmps3
  go_wp2_with (first
    | (go_at_call 5; refine (big_no _ a0 len0 cap0 hl).mono ?_; rintro e w0 ⟨rfl, rfl⟩)
    | (go_at_call 6; refine (drawPs_any _ a0 len0 cap0 hl HC.out).mono ?_; rintro e w1 ⟨n, a, len, cap, ls, hs, q, lh, ch, hl7, hlh, hlc, rfl, hs1, hq1, hb1⟩; have HS1 := Lib.hid hs1; have HQ1 := Lib.hid hq1; have HB1 := Lib.hid hb1; clear hs1 hq1 hb1))
  obtain ⟨V, hV⟩ : ∃ V, V = w1.alloc (.cells #[.int .i64 n, .slice a len cap] 26) := ⟨_, rfl⟩
  have hbV : Below w1.heap.size w1 V := by rw [hV]; exact below_new _ _
  have HBV := Lib.hid (below_up HB1.out hbV (Nat.le_refl _))
  have HNV := Lib.hid (show NetAt V w1.heap.size n a len cap by rw [hV]; exact net_new _ _ _ _ _ _)
  have HSV := Lib.hid (HS1.out.below hbV)
  have HQV := Lib.hid (HQ1.out.below hbV)
  have HLL : Hid (ls.length = len) := Lib.hid HS1.out.1
  obtain ⟨L, hL⟩ : ∃ L, L = probesV n ls hs := ⟨_, rfl⟩
  have HSM : Hid (SmallM (pathsOf L)) := Lib.hid (by rw [hL]; exact probesV_small n ls hs)
  have HRT : Hid (∀ p ∈ L, Routed n ls p) := Lib.hid (by rw [hL]; exact probesV_routed n ls hs)
  have HL8 : Hid (∀ p ∈ L, p.2.2.length ≤ 8) := Lib.hid (by rw [hL]; exact probesV_all (G := fun p => p.2.2.length ≤ 8) (fun x y _ => probe_len n ls x y))
  have HARE : Hid (¬ L.length = 0 → areQ n ls L = true) := Lib.hid (by rw [hL]; exact probesV_are)
  have HFEW : Hid ((seenV L).length ≤ len) := Lib.hid (by rw [hL, ← HLL.out]; exact seen_few n ls hs)
  have hL12 : L.length ≤ 12 := by rw [hL]; exact probesV_len n ls hs
  rw [← hV]
  clear hV hbV
  refine (probesP_any V n a len cap ls q lh ch hs (by omega) HSV.out (by omega) hlc HQV.out).mono ?_
  rw [← hL]
  rintro e w2 ⟨pa, pl, pc, rfl, hop, hb2⟩
  have HPL : Hid (L.length = pl) := Lib.hid hop.1
  have hpl12 : pl ≤ 12 := by rw [← HPL.out]; exact hL12
  have HB2 := Lib.hid (below_up HBV.out hb2 (Nat.le_refl _))
  have HN2 := Lib.hid (HNV.out.below hb2)
  have HS2 := Lib.hid (HSV.out.below hb2)
  have HSQ2 := Lib.hid hop.sees
  have c0 := HN2.out.c0
  have c1 := HN2.out.c1
  clear hop hb2 hL hL12
  by_cases hp0 : 0 < pl
  · have hp0i : (0 : Int) < (pl : Int) := by omega
    have HAR := Lib.hid (HARE.out (by rw [HPL.out]; omega))
    go_wp2_with fail
    go_at_call 8
    refine (areP_any _ n a len cap ls pa pl pc L (by omega) HS2.out HSM.out HSQ2.out).mono ?_
    rw [HAR.out]
    rintro e w3 ⟨rfl, hb3⟩
    have HB23 := Lib.hid hb3
    clear hb3 c0 c1
    have HSQ3 := Lib.hid (HSQ2.out.below HB23.out)
    have HN3 := Lib.hid (HN2.out.below HB23.out)
    have HS3 := Lib.hid (HS2.out.below HB23.out)
    have HB3 := Lib.hid (below_up HB2.out HB23.out (Nat.le_refl _))
    have c0 := HN3.out.c0
    have c1 := HN3.out.c1
    go_wp2_with fail
    go_at_call 9
    refine (matQP_any _ pa pl pc L (len : Int) HSM.out HSQ3.out).mono ?_
    rintro e w4 ⟨ma, ml, mc, rfl, hom, hb4⟩
    obtain rfl : pl = ml := by have h := hom.1; rw [← HPL.out, matQ_len] at h; rw [← HPL.out]; exact h
    have HB4 := Lib.hid (below_up HB3.out hb4 (Nat.le_refl _))
    have HSQ4 := Lib.hid (HSQ3.out.below hb4)
    have HN4 := Lib.hid (HN3.out.below hb4)
    have HSM4 := Lib.hid hom.sees
    clear hom hb4 c0 c1
    go_wp2_with fail
    go_at_call 10
    refine (seenP_any _ pa pl pc L HSM.out HSQ4.out).mono ?_
    rintro e w5 ⟨sa, sl, sc, rfl, hos, hb5⟩
    have HB5 := Lib.hid (below_up HB4.out hb5 (Nat.le_refl _))
    have HSQ5 := Lib.hid (HSQ4.out.below hb5)
    have HN5 := Lib.hid (HN4.out.below hb5)
    have HSM5 := Lib.hid (HSM4.out.below hb5)
    have HSS5 := Lib.hid hos.sees
    have hsl : sl ≤ len := by have h := hos.1; have h2 := HFEW.out; omega
    clear hos hb5
    go_wp2_with fail
    go_loopw [8, 9] (fun i _ wr => ∃ k : Nat, k ≤ pl ∧ i = .int .i64 k ∧ Below w5.heap.size w5 wr) (fun i _ _ => pl - (intOf i).toNat)
    case atStart => exact ⟨0, Nat.zero_le _, rfl, Below.refl _ _⟩
    case round =>
      obtain ⟨k, hk, rfl, hb⟩ := hrel
      obtain ⟨Vr, rfl⟩ : ∃ Vr, Vr = wr := ⟨_, rfl⟩
      have HB := Lib.hid hb
      have HNr := Lib.hid (HN5.out.below hb)
      by_cases hlt : k < pl
      · have hkL : k < L.length := by rw [HPL.out]; exact hlt
        have HR := Lib.hid (HRT.out _ (prb_mem hkL))
        obtain ⟨b, off, ar, cr, rfl, hbl, hc0, hc1, hc2, hle, hcm, hsr⟩ := HSQ5.out.2.2 k hlt
        obtain ⟨zs, hzs⟩ : ∃ zs, zs = (prb L k).2.2 := ⟨_, rfl⟩
        obtain ⟨bm, om, am, cm, rfl, hbm, hcm2, hlem, hcmm, hsm⟩ := HSM5.out.2 k hlt
        obtain ⟨rs, hrs⟩ : ∃ rs, rs = row (matQ L (len : Int) pl) k := ⟨_, rfl⟩
        have hrA : rs = rowA zs (len : Int) := by rw [hrs, hzs]; have h := matQ_row (n := (len : Int)) hkL; rw [HPL.out] at h; exact h
        rw [← hzs] at hc2 hle hsr
        rw [← hrs] at hcm2 hlem hsm
        have HSUM : Hid (sumN rs rs.length = (zs.length : Int)) := Lib.hid (by rw [hrA, hzs]; have h := routed_sum HR.out; rw [HLL.out] at h; exact h)
        have HBIT : Hid (∀ x ∈ rs, 0 ≤ x ∧ x ≤ 1) := Lib.hid (by rw [hrA]; exact rowA_bits _ _)
        have hr8 : rs.length ≤ 8 := by rw [hrA]; have := rowA_len zs (len : Int); omega
        have HONE : Hid (∀ j, j < zs.length → ∃ m : Nat, zs.getD j 0 = (m : Int) ∧ m < rs.length ∧ rs.getD m 0 = 1) := Lib.hid (fun j hj => by
          rw [hrA, hzs]
          have h := routed_one HR.out (k := j) (by rw [← hzs]; exact hj)
          rw [HLL.out] at h
          exact h)
        have HIN : Hid (∀ j, j < zs.length → hasB (seenV L) (zs.getD j 0) = true) := Lib.hid (fun j hj => decide_eq_true (seen_mem.2 ⟨k, hkL, by rw [← hzs]; exact getD_mem hj⟩))
        have hz8 : zs.length ≤ 8 := by rw [hzs]; exact HL8.out _ (prb_mem hkL)
        have HC2 := Lib.hid hc2
        have HCM := Lib.hid hcm2
        have HZS := Lib.hid hsr
        have HRS := Lib.hid hsm
        have d2 := (hb.cell (p := ⟨b, off + k * 3 + 2, none⟩) hbl).trans hc2
        have dm := (hb.cell (p := ⟨bm, om + k, none⟩) hbm).trans hcm2
        have i0k : (0 : Int) ≤ (k : Int) := by omega
        have i1k : (k : Int) < (pl : Int) := by omega
        have HRD := Lib.hid ((HRS.out.below hb).below (Below.refl _ _).drew)
        clear hzs hrs hrA hc0 hc1 hc2 hle hcm hsr hcm2 hlem hcmm hsm hb
        go_wp2_with fail
        go_region_held3 (fun w' => w'.cell? ⟨b, off + k * 3 + 2, none⟩ = some (.slice ar zs.length cr) ∧ w'.cell? ⟨bm, om + k, none⟩ = some (.slice am rs.length cm)) (go_keep) (first
          | (go_at_call 11; refine (sum_any _ am rs.length cm rs (zs.length : Int) hr8 HBIT.out HRD.out HSUM.out).mono ?_; rintro e w' ⟨rfl, rfl⟩))
        go_wp2_with fail
        go_loopw [9] (fun j wr => ∃ jj : Nat, jj ≤ zs.length ∧ j = .int .i64 jj ∧ Below w5.heap.size w5 wr) (fun j _ => zs.length - (intOf j).toNat)
        case atStart => exact ⟨0, Nat.zero_le _, rfl, HB.out.drew⟩
        case round =>
          obtain ⟨jj, hjj, rfl, hb⟩ := hrel
          have HBi := Lib.hid hb
          have d2 := (hb.cell (p := ⟨b, off + k * 3 + 2, none⟩) hbl).trans HC2.out
          have dm := (hb.cell (p := ⟨bm, om + k, none⟩) hbm).trans HCM.out
          by_cases hlt2 : jj < zs.length
          · obtain ⟨m, hm1, hm2, hm3⟩ := HONE.out jj hlt2
            have HIN2 := Lib.hid (HIN.out jj hlt2)
            rw [hm1] at HIN2
            obtain ⟨b2, o2, rfl, hb2, hcs⟩ := HZS.out.spot (by omega)
            obtain ⟨b3, o3, rfl, hb3, hcr⟩ := HRS.out.spot (by omega)
            have hx := (hb.cell (p := ⟨b2, o2 + jj, none⟩) hb2).trans (hcs jj hlt2)
            have hy := (hb.cell (p := ⟨b3, o3 + m, none⟩) hb3).trans (hcr m hm2)
            rw [hm1] at hx
            rw [hm3] at hy
            have i0j : (0 : Int) ≤ (jj : Int) := by omega
            have i1j : (jj : Int) < (zs.length : Int) := by omega
            have i0m : (0 : Int) ≤ (m : Int) := by omega
            have i1m : (m : Int) < (rs.length : Int) := by omega
            have HSD := Lib.hid ((HSS5.out.below hb).below (Below.refl _ _).drew)
            clear hcs hcr hm1 hm3 hb
            go_wp2_with fail
            go_region_held3 (fun w' => w'.cell? ⟨b, off + k * 3 + 2, none⟩ = some (.slice (some ⟨b2, o2, none⟩) zs.length cr) ∧ w'.cell? ⟨bm, om + k, none⟩ = some (.slice (some ⟨b3, o3, none⟩) rs.length cm) ∧ w'.cell? ⟨b2, o2 + jj, none⟩ = some (.int .i64 (m : Int)) ∧ w'.cell? ⟨b3, o3 + m, none⟩ = some (.int .i64 1)) (go_keep) (first
              | (go_at_call 12; refine (contains_any _ sa sl sc (seenV L) (m : Int) (by omega) HSD.out).mono ?_; rw [HIN2.out]; rintro e w' ⟨rfl, rfl⟩))
            go_wp2
            go_roundw
            case rel => exact ⟨jj + 1, by omega, by go_num, HBi.out.drew⟩
            case measure => simp [intOf]; omega
          · obtain rfl : jj = zs.length := by omega
            clear hb
            go_wp2_with fail
            go_roundw
            case rel => exact ⟨k + 1, by omega, by go_num, HBi.out⟩
            case measure => simp [intOf]; omega
      · obtain rfl : k = pl := by omega
        clear hb
        go_wp2_with fail
        go_loopw [10, 11] (fun i _ wr => ∃ u : Nat, u ≤ len ∧ i = .int .i64 u ∧ Below w5.heap.size w5 wr) (fun i _ _ => len - (intOf i).toNat)
        case atStart => exact ⟨0, Nat.zero_le _, rfl, HB.out⟩
        case round =>
          clear HB HNr
          obtain ⟨u, hu, rfl, hb⟩ := hrel
          have HB := Lib.hid hb
          have HNr := Lib.hid (HN5.out.below hb)
          have HSQr := Lib.hid (HSQ5.out.below hb)
          have c0 := HNr.out.c0
          have c1 := HNr.out.c1
          clear hb
          by_cases hlu : u < len
          · rcases alone_cases L (u : Int) with ha | ⟨t, ha, htL, htz⟩
            · have HA := Lib.hid ha
              clear ha
              go_wp2_with (go_at_call 13; refine (aloneP_any _ pa k pc L (u : Int) (by omega) HSQr.out).mono ?_; rw [HA.out]; rintro e w6 ⟨rfl, hb6⟩; have HB6 := Lib.hid (below_up HB.out hb6 (Nat.le_refl _)); clear hb6)
              go_roundw
              case rel => exact ⟨u + 1, by omega, by go_num, HB6.out⟩
              case measure => simp [intOf]; omega
            · have HA := Lib.hid ha
              have htp : t < k := by rw [HPL.out] at htL; exact htL
              have HR := Lib.hid (HRT.out _ (prb_mem htL))
              obtain ⟨bm, om, am, cm, rfl, hbm, hcm2, hlem, hcmm, hsm⟩ := HSM5.out.2 t htp
              obtain ⟨rs, hrs⟩ : ∃ rs, rs = row (matQ L (len : Int) k) t := ⟨_, rfl⟩
              have hrA : rs = rowA [(u : Int)] (len : Int) := by rw [hrs, ← htz]; have h := matQ_row (n := (len : Int)) htL; rw [HPL.out] at h; exact h
              rw [← hrs] at hcm2 hlem hsm
              have HSUM : Hid (sumN rs rs.length = 1) := Lib.hid (by rw [hrA, ← htz]; have h := routed_sum HR.out; rw [HLL.out] at h; rw [h, htz]; rfl)
              have HBIT : Hid (∀ x ∈ rs, 0 ≤ x ∧ x ≤ 1) := Lib.hid (by rw [hrA]; exact rowA_bits _ _)
              have hr8 : rs.length ≤ 8 := by rw [hrA]; have := rowA_len [(u : Int)] (len : Int); omega
              have HCM := Lib.hid hcm2
              have HRS := Lib.hid hsm
              have i0t : (0 : Int) ≤ (t : Int) := by omega
              have i1t : (t : Int) < (k : Int) := by omega
              clear ha hrs hrA hcm2 hlem hcmm hsm htz
              go_wp2_with (first
                | (go_at_call 13; refine (aloneP_any _ pa k pc L (u : Int) (by omega) HSQr.out).mono ?_; rw [HA.out]; rintro e w6 ⟨rfl, hb6⟩; have HB6 := Lib.hid (below_up HB.out hb6 (Nat.le_refl _)); have dm := (HB6.out.cell (p := ⟨bm, om + t, none⟩) hbm).trans HCM.out; clear hb6)
                | (go_at_call 11; refine (sum_any _ am rs.length cm rs 1 hr8 HBIT.out (HRS.out.below HB6.out) HSUM.out).mono ?_; rintro e w' ⟨rfl, rfl⟩))
              go_roundw
              case rel => exact ⟨u + 1, by omega, by go_num, HB6.out⟩
              case measure => simp [intOf]; omega
          · obtain rfl : u = len := by omega
            have hfin : (sl : Int) ≤ (u : Int) := by omega
            go_wp2
            go_ret
            exact ⟨by first | rfl | simp [hfin], below_up HB5.out HB.out (Nat.le_refl _)⟩
  · have hp0i : ¬ (0 : Int) < (pl : Int) := by omega
    have HB23 := Lib.hid (Below.refl w2.heap.size w2)
    obtain ⟨w3, rfl⟩ : ∃ w3, w3 = w2 := ⟨_, rfl⟩
    clear c0 c1
    have HSQ3 := Lib.hid (HSQ2.out.below HB23.out)
    have HN3 := Lib.hid (HN2.out.below HB23.out)
    have HS3 := Lib.hid (HS2.out.below HB23.out)
    have HB3 := Lib.hid (below_up HB2.out HB23.out (Nat.le_refl _))
    have c0 := HN3.out.c0
    have c1 := HN3.out.c1
    go_wp2_with fail
    go_at_call 9
    refine (matQP_any _ pa pl pc L (len : Int) HSM.out HSQ3.out).mono ?_
    rintro e w4 ⟨ma, ml, mc, rfl, hom, hb4⟩
    obtain rfl : pl = ml := by have h := hom.1; rw [← HPL.out, matQ_len] at h; rw [← HPL.out]; exact h
    have HB4 := Lib.hid (below_up HB3.out hb4 (Nat.le_refl _))
    have HSQ4 := Lib.hid (HSQ3.out.below hb4)
    have HN4 := Lib.hid (HN3.out.below hb4)
    have HSM4 := Lib.hid hom.sees
    clear hom hb4 c0 c1
    go_wp2_with fail
    go_at_call 10
    refine (seenP_any _ pa pl pc L HSM.out HSQ4.out).mono ?_
    rintro e w5 ⟨sa, sl, sc, rfl, hos, hb5⟩
    have HB5 := Lib.hid (below_up HB4.out hb5 (Nat.le_refl _))
    have HSQ5 := Lib.hid (HSQ4.out.below hb5)
    have HN5 := Lib.hid (HN4.out.below hb5)
    have HSM5 := Lib.hid (HSM4.out.below hb5)
    have HSS5 := Lib.hid hos.sees
    have hsl : sl ≤ len := by have h := hos.1; have h2 := HFEW.out; omega
    clear hos hb5
    go_wp2_with fail
    go_loopw [8, 9] (fun i _ wr => ∃ k : Nat, k ≤ pl ∧ i = .int .i64 k ∧ Below w5.heap.size w5 wr) (fun i _ _ => pl - (intOf i).toNat)
    case atStart => exact ⟨0, Nat.zero_le _, rfl, Below.refl _ _⟩
    case round =>
      obtain ⟨k, hk, rfl, hb⟩ := hrel
      obtain ⟨Vr, rfl⟩ : ∃ Vr, Vr = wr := ⟨_, rfl⟩
      have HB := Lib.hid hb
      have HNr := Lib.hid (HN5.out.below hb)
      by_cases hlt : k < pl
      · exact absurd hlt (by omega)
      · obtain rfl : k = pl := by omega
        clear hb
        go_wp2_with fail
        go_loopw [10, 11] (fun i _ wr => ∃ u : Nat, u ≤ len ∧ i = .int .i64 u ∧ Below w5.heap.size w5 wr) (fun i _ _ => len - (intOf i).toNat)
        case atStart => exact ⟨0, Nat.zero_le _, rfl, HB.out⟩
        case round =>
          clear HB HNr
          obtain ⟨u, hu, rfl, hb⟩ := hrel
          have HB := Lib.hid hb
          have HNr := Lib.hid (HN5.out.below hb)
          have HSQr := Lib.hid (HSQ5.out.below hb)
          have c0 := HNr.out.c0
          have c1 := HNr.out.c1
          clear hb
          by_cases hlu : u < len
          · rcases alone_cases L (u : Int) with ha | ⟨t, ha, htL, htz⟩
            · have HA := Lib.hid ha
              clear ha
              go_wp2_with (go_at_call 13; refine (aloneP_any _ pa k pc L (u : Int) (by omega) HSQr.out).mono ?_; rw [HA.out]; rintro e w6 ⟨rfl, hb6⟩; have HB6 := Lib.hid (below_up HB.out hb6 (Nat.le_refl _)); clear hb6)
              go_roundw
              case rel => exact ⟨u + 1, by omega, by go_num, HB6.out⟩
              case measure => simp [intOf]; omega
            · exact absurd htL (by rw [HPL.out]; omega)
          · obtain rfl : u = len := by omega
            have hfin : (sl : Int) ≤ (u : Int) := by omega
            go_wp2
            go_ret
            exact ⟨by first | rfl | simp [hfin], below_up HB5.out HB.out (Nat.le_refl _)⟩
theorem lawProbes_walk (a : Option Addr) (len cap : Nat) (z : List Int) (W : World) (w0 : IsRow .u8 W a len cap z) : Calls Try.prog 3 #[.slice a len cap] W (LawYes7 W) := by
  by_cases hl : len ≤ 1048576
  · exact probes_small W a len cap hl (code_of w0)
  · clear w0
    go_enter Try.func3, Try.ntmps3
    go_wp2_with (go_at_call 5; refine (big_yes _ a len cap hl).mono ?_; rintro e w0 ⟨rfl, rfl⟩)
    go_ret
    exact ⟨rfl, Below.refl _ _⟩
end Go.Proofs.Ytjckcggjmcaaoaa
