/- The walk of the law on maps from traces. -/
import Derived.Test.YtbjjgcfmdlinaaaTrP
import Derived.Test.YtbjjgcfmdlinaaaMapsT
import Derived.Test.YtbjjgcfmdlinaaaDraw13
import Derived.Test.YtbjjgcfmdlinaaaBig
namespace Go.Proofs.Ytbjjgcfmdlinaaa
open Go.RowKit
theorem tot_cap10 {ms : List (List Int)} (h : ∀ r, r < ms.length → (row ms r).length ≤ 10) : ∀ k, k ≤ ms.length → tot ms k ≤ 10 * k
  | 0, _ => Nat.le_refl _
  | k + 1, hk => by
    have h1 := tot_cap10 h k (by omega)
    have h2 := h k (by omega)
    rw [tot]
    omega
theorem SeesM.rowAt {w : World} {gl l : Nat} {ms : List (List Int)} (h : SeesM w (some ⟨gl, 0, none⟩) l ms) {k : Nat} (hk : k < l) : ∃ ar cr, gl < w.heap.size ∧ w.cell? ⟨gl, k, none⟩ = some (.slice ar (row ms k).length cr) ∧ Sees .i64 w ar (row ms k).length (row ms k) := by
  obtain ⟨b, off, ar, cr, hb, hlt, hc, _, _, hs⟩ := h.2 k hk
  cases hb
  rw [Nat.zero_add] at hc
  exact ⟨ar, cr, hlt, hc, hs⟩
theorem Sees.pair {w : World} {a : Option Addr} {len : Nat} {zs : List Int} (h : Sees .i64 w a len zs) {j : Nat} (hj : j + 1 < len) : ∃ b off, a = some ⟨b, off, none⟩ ∧ b < w.heap.size ∧ w.cell? ⟨b, off + j, none⟩ = some (.int .i64 (zs.getD j 0)) ∧ w.cell? ⟨b, off + (j + 1), none⟩ = some (.int .i64 (zs.getD (j + 1) 0)) := by
  rcases h.2.2 with h0 | ⟨b, off, ha, hb, hc⟩
  · omega
  · exact ⟨b, off, ha, hb, hc j (by omega), hc (j + 1) hj⟩
theorem SeesL.linkAt {w : World} {a : Option Addr} {len : Nat} {ls : List (Int × Int)} (h : SeesL w a len ls) {i : Nat} (hi : i < len) : ∃ b off, a = some ⟨b, off, none⟩ ∧ b < w.heap.size ∧ w.cell? ⟨b, off + i * 2, none⟩ = some (.int .i64 (ls.getD i (0, 0)).1) ∧ w.cell? ⟨b, off + i * 2 + 1, none⟩ = some (.int .i64 (ls.getD i (0, 0)).2) := by
  rcases h.2.2 with h0 | ⟨b, off, ha, hb, hc⟩
  · omega
  · exact ⟨b, off, ha, hb, (hc i hi).1, (hc i hi).2⟩
set_option maxRecDepth 20000 in
set_option maxHeartbeats 12800000 in
theorem maps_small (W : World) (a0 : Option Addr) (len0 cap0 : Nat) (hl : len0 ≤ 1048576) (hc : CodeAt W W.heap.size a0 len0) : Calls Try.prog 3 #[.slice a0 len0 cap0] W fun e W' => e = .returned (.bool true) ∧ Below W.heap.size W W' := by
  have HC := Lib.hid hc
  clear hc
  go_enter Try.func3, Try.ntmps3
  go_wp2_with fail
  go_at_call 9
  refine (big_no _ a0 len0 cap0 hl).mono ?_
  rintro e w0 ⟨rfl, rfl⟩
  go_wp2_with fail
  go_at_call 10
  refine (drawMap_any _ a0 len0 cap0 hl HC.out).mono ?_
  rintro e w1 ⟨n, a, len, cap, ls, gl, l, c, ms, hnd, hl7, hl9, hrow, rfl, hsl, hsm, hb1⟩
  obtain ⟨V, hV⟩ : ∃ V, V = w1.alloc (.cells #[.int .i64 n, .slice a len cap] 26) := ⟨_, rfl⟩
  obtain ⟨X, hX⟩ : ∃ X, X = w1.heap.size := ⟨_, rfl⟩
  have hbV : Below w1.heap.size w1 V := by rw [hV]; exact below_new _ _
  have HXV := Lib.hid (show NtC V X n a len cap by rw [hV, hX]; exact ntC_new _ _ _ _ _ _)
  have HSV := Lib.hid (hsl.below hbV)
  have HMV := Lib.hid (hsm.below hbV)
  have HBV := Lib.hid (below_up hb1 hbV (Nat.le_refl _))
  have hlen : len ≤ 1073741824 := by omega
  have hll : l ≤ 1073741824 := by omega
  have hml : ms.length = l := hsm.1
  have HSM : Hid (SmallM ms) := Lib.hid (by
    have := tot_cap10 hrow ms.length (Nat.le_refl _)
    unfold SmallM
    omega)
  have HVX := Lib.hid (And.intro hV hX)
  clear hsl hsm hb1 hbV HC hnd hV hX
  go_wp2_with fail
  rw [← HVX.out.1, ← HVX.out.2]
  go_at_call 11
  refine (mapP_any V (some ⟨gl, 0, none⟩) l c ms HSM.out HMV.out).mono ?_
  rintro e w2 ⟨am, lm, cm, rfl, ho2, hb2⟩
  have hlm : (mapV ms).length = lm := ho2.1
  subst hlm
  obtain ⟨mp, hmp⟩ : ∃ mp, mp = mapV ms := ⟨_, rfl⟩
  have HMP := Lib.hid hmp
  have hm64 : mp.length ≤ 64 := by rw [hmp]; exact mapV_len ms
  rw [← hmp] at ho2
  rw [← hmp]
  have HL2 := Lib.hid ho2.sees
  have HX2 := Lib.hid (HXV.out.below hb2)
  have HS2 := Lib.hid (HSV.out.below hb2)
  have HM2 := Lib.hid (HMV.out.below hb2)
  have HB2 := Lib.hid (below_up HBV.out hb2 (Nat.le_refl _))
  clear ho2 hb2 hmp
  cases hA : areT ms
  · have HA := Lib.hid hA
    have hl0 : mp.length = 0 := by rw [HMP.out, map_none hA]; rfl
    have hl0i : (mp.length : Int) = 0 := by omega
    clear hA
    go_wp2_with (first
      | (go_at_call 12; refine (areTP_any w2 _ l c ms HSM.out HM2.out).mono ?_; rw [HA.out]; rintro e w3 ⟨rfl, hb3⟩; have HM3 := Lib.hid (HM2.out.below hb3); have HS3 := Lib.hid (HS2.out.below hb3); have HX3 := Lib.hid (HX2.out.below hb3); have HB3 := Lib.hid (below_up HB2.out hb3 (Nat.le_refl _)); clear hb3)
      | (go_at_call 13; refine (specAreT_any w3 _ l c ms hll HM3.out).mono ?_; rw [HA.out]; rintro e w4 ⟨rfl, hb4⟩; have HM4 := Lib.hid (HM3.out.below hb4); have HS4 := Lib.hid (HS3.out.below hb4); have HX4 := Lib.hid (HX3.out.below hb4); have HB4 := Lib.hid (below_up HB3.out hb4 (Nat.le_refl _)); clear hb4)
      | (go_at_call 12; refine (areTP_any w4 _ l c ms HSM.out HM4.out).mono ?_; rw [HA.out]; rintro e w5 ⟨rfl, hb5⟩; have HM5 := Lib.hid (HM4.out.below hb5); have HS5 := Lib.hid (HS4.out.below hb5); have HX5 := Lib.hid (HX4.out.below hb5); have x0 := HX5.out.c0; have x1 := HX5.out.c1; have HB5 := Lib.hid (below_up HB4.out hb5 (Nat.le_refl _)); clear hb5)
      | (go_at_call 14; refine (fitsP_any w5 n a len cap ls _ l c ms hlen HS5.out HSM.out HM5.out).mono ?_; rw [fits_bad HA.out]; rintro e w6 ⟨rfl, hb6⟩; have HB6 := Lib.hid (below_up HB5.out hb6 (Nat.le_refl _)); clear hb6))
    go_ret
    exact ⟨rfl, HB6.out⟩
  · have HA := Lib.hid hA
    have HHAS : Hid (∀ r, r < mp.length → crK ms (mp.getD r (0, 0)) ms.length = true ∧ (mp.getD r (0, 0)).1 < (mp.getD r (0, 0)).2) := Lib.hid (fun r hr => by rw [HMP.out] at hr ⊢; exact map_has hA hr)
    have HFIT : Hid (fitK (netB n ls) ls mp mp.length = fitsB n ls ms) := Lib.hid (by rw [HMP.out]; exact fitK_fits hA)
    clear hA
    go_wp2_with (first
      | (go_at_call 12; refine (areTP_any w2 _ l c ms HSM.out HM2.out).mono ?_; rw [HA.out]; rintro e w3 ⟨rfl, hb3⟩; have HM3 := Lib.hid (HM2.out.below hb3); have HS3 := Lib.hid (HS2.out.below hb3); have HX3 := Lib.hid (HX2.out.below hb3); have HL3 := Lib.hid (HL2.out.below hb3); have HB3 := Lib.hid (below_up HB2.out hb3 (Nat.le_refl _)); clear hb3)
      | (go_at_call 13; refine (specAreT_any w3 _ l c ms hll HM3.out).mono ?_; rw [HA.out]; rintro e w4 ⟨rfl, hb4⟩; have HM4 := Lib.hid (HM3.out.below hb4); have HS4 := Lib.hid (HS3.out.below hb4); have HX4 := Lib.hid (HX3.out.below hb4); have HL4 := Lib.hid (HL3.out.below hb4); have HB4 := Lib.hid (below_up HB3.out hb4 (Nat.le_refl _)); clear hb4)
      | (go_at_call 12; refine (areTP_any w4 _ l c ms HSM.out HM4.out).mono ?_; rw [HA.out]; rintro e w5 ⟨rfl, hb5⟩; have HM5 := Lib.hid (HM4.out.below hb5); have HS5 := Lib.hid (HS4.out.below hb5); have HX5 := Lib.hid (HX4.out.below hb5); have HL5 := Lib.hid (HL4.out.below hb5); have x0 := HX5.out.c0; have x1 := HX5.out.c1; have HB5 := Lib.hid (below_up HB4.out hb5 (Nat.le_refl _)); clear hb5)
      | (go_at_call 15; refine (netP_any w5 n a len cap ls hlen HS5.out).mono ?_; rintro e w6 ⟨rfl, hb6⟩; have HM6 := Lib.hid (HM5.out.below hb6); have HS6 := Lib.hid (HS5.out.below hb6); have HX6 := Lib.hid (HX5.out.below hb6); have HL6 := Lib.hid (HL5.out.below hb6); have HB6 := Lib.hid (below_up HB5.out hb6 (Nat.le_refl _)); clear hb6))
    obtain ⟨nb, hnb⟩ : ∃ nb, nb = netB n ls := ⟨_, rfl⟩
    rw [← hnb] at HFIT
    rw [← hnb]
    clear hnb HS5 HM5 HX5 HL5 HB5 HS4 HM4 HX4 HL4 HB4 HS3 HM3 HX3 HL3 HB3 HS2 HM2 HX2 HL2 HB2 HSV HMV HXV HBV x0 x1
    go_loopw [6, 7, 8, 9, 10, 11] (fun f s _ _ _ _ wr => ∃ (i : Nat) (fv : Bool), i ≤ mp.length ∧ s = .int .i64 i ∧ f = .bool fv ∧ Hid (fv = fitK nb ls mp i) ∧ Below w6.heap.size w6 wr) (fun _ s _ _ _ _ _ => mp.length - (intOf s).toNat)
    case atStart => exact ⟨0, nb, Nat.zero_le _, rfl, rfl, Lib.hid rfl, Below.refl _ _⟩
    case round =>
      obtain ⟨i, fv, hi, rfl, rfl, HF, hb⟩ := hrel
      obtain ⟨U, rfl⟩ : ∃ U, U = wr := ⟨_, rfl⟩
      have HBU := Lib.hid hb
      by_cases hlt : i < mp.length
      · obtain ⟨A, C, hp⟩ : ∃ A C, mp.getD i (0, 0) = (A, C) := ⟨_, _, rfl⟩
        have hh := HHAS.out i hlt
        have hfn : fitK nb ls mp (i + 1) = (fitK nb ls mp i && decide (lk ls A C ≥ 0)) := by rw [fitK, hp]
        rw [hp] at hh
        have HHC := Lib.hid hh.1
        have hAC : A < C := hh.2
        have HFN := Lib.hid hfn
        have HP := Lib.hid hp
        clear hh hfn hb hp
        go_wp2_with fail
        go_loopw [8, 9, 10, 11] (fun cr s _ _ wr => ∃ (k : Nat) (cv : Bool), k ≤ l ∧ s = .int .i64 k ∧ cr = .bool cv ∧ Hid (cv = crK ms (A, C) k) ∧ Below w6.heap.size w6 wr) (fun _ s _ _ _ => l - (intOf s).toNat)
        case atStart => exact ⟨0, false, Nat.zero_le _, rfl, rfl, Lib.hid rfl, HBU.out⟩
        case round =>
          clear HBU
          obtain ⟨k, cv, hk, rfl, rfl, HCV, hb⟩ := hrel
          obtain ⟨U, rfl⟩ : ∃ U, U = wr := ⟨_, rfl⟩
          have HBU := Lib.hid hb
          by_cases hkl : k < l
          · obtain ⟨ar, cr, hgl, hrc, hrs⟩ := HM6.out.rowAt hkl
            have hcU := (hb.cell (p := ⟨gl, k, none⟩) hgl).trans hrc
            obtain ⟨h, hh⟩ : ∃ h, h = row ms k := ⟨_, rfl⟩
            rw [← hh] at hcU hrs
            have hh10 : h.length ≤ 10 := by rw [hh]; exact hrow k (by omega)
            have HCN : Hid (crK ms (A, C) (k + 1) = (crK ms (A, C) k || crR h (A, C) h.length)) := Lib.hid (by rw [crK, hh])
            have HRS := Lib.hid hrs
            have k00 : (0 : Int) ≤ (k : Int) := by omega
            have k01 : (k : Int) < (l : Int) := by omega
            clear hrc hrs hh hb
            go_wp2_with fail
            go_loopw [8, 11] (fun cr s wr => ∃ (j : Nat) (cv2 : Bool), (j + 1 ≤ h.length ∨ j = 0) ∧ s = .int .i64 ((j + 1 : Nat) : Int) ∧ cr = .bool cv2 ∧ Hid (cv2 = (cv || crR h (A, C) (j + 1))) ∧ Below w6.heap.size w6 wr) (fun _ s _ => h.length - (intOf s).toNat)
            case atStart => exact ⟨0, cv, .inr rfl, rfl, rfl, Lib.hid (by rw [crR_one, Bool.or_false]), HBU.out⟩
            case round =>
              clear HBU
              obtain ⟨j, cv2, hj, rfl, rfl, HV2, hb⟩ := hrel
              obtain ⟨U, rfl⟩ : ∃ U, U = wr := ⟨_, rfl⟩
              have HBU := Lib.hid hb
              by_cases hjl : j + 1 < h.length
              · obtain ⟨br, orr, rfl, hbr, hx0, hy0⟩ := HRS.out.pair hjl
                obtain ⟨bm, om, rfl, hbm, hm0, hm1⟩ := HL6.out.linkAt hlt
                rw [HP.out] at hm0 hm1
                obtain ⟨x, hx⟩ : ∃ x, x = h.getD j 0 := ⟨_, rfl⟩
                obtain ⟨y, hy⟩ : ∃ y, y = h.getD (j + 1) 0 := ⟨_, rfl⟩
                rw [← hx] at hx0
                rw [← hy] at hy0
                have HN : Hid (crR h (A, C) (j + 1 + 1) = (crR h (A, C) (j + 1) || stepB (A, C) x y)) := Lib.hid (by rw [crR_next, hx, hy])
                have c0 := (hb.cell (p := ⟨br, orr + j, none⟩) hbr).trans hx0
                have c1 := (hb.cell (p := ⟨br, orr + (j + 1), none⟩) hbr).trans hy0
                have m0 := (hb.cell (p := ⟨bm, om + i * 2, none⟩) hbm).trans hm0
                have m1 := (hb.cell (p := ⟨bm, om + i * 2 + 1, none⟩) hbm).trans hm1
                have wj : IntKind.i64.wrap (((j + 1 : Nat) : Int) - 1) = (j : Int) := (IntWalk.i64_in _ (by omega)).trans (by omega)
                have wj2 : IntKind.i64.wrap ((j : Int) + 1 - 1) = (j : Int) := (IntWalk.i64_in _ (by omega)).trans (by omega)
                have j0 : (0 : Int) ≤ (j : Int) := by omega
                have j1 : (j : Int) < (h.length : Int) := by omega
                have j2 : (0 : Int) ≤ (j : Int) + 1 := by omega
                have j3 : (j : Int) + 1 < (h.length : Int) := by omega
                have i00 : (0 : Int) ≤ (i : Int) := by omega
                have i01 : (i : Int) < (mp.length : Int) := by omega
                clear hx0 hy0 hm0 hm1 hx hy hb
                cases cv2
                · by_cases h1 : x = A
                  · subst h1
                    have n1 : ¬ x = C := by omega
                    have n1b : (x == C) = false := by simp; omega
                    by_cases h2 : y = C
                    · subst h2
                      go_wp2_with fail
                      go_quiet (fail)
                      go_wp2
                      go_roundw
                      case rel => exact ⟨j + 1, true, .inl (by omega), by go_num, rfl, Lib.hid (by rw [HN.out, ← Bool.or_assoc, ← HV2.out]; simp [stepB]), below_drewN HBU.out _⟩
                      case measure => simp [intOf]; omega
                    · have n2b : (y == C) = false := by simp [h2]
                      go_wp2_with fail
                      go_quiet (fail)
                      go_wp2
                      go_roundw
                      case rel => exact ⟨j + 1, false, .inl (by omega), by go_num, rfl, Lib.hid (by rw [HN.out, ← Bool.or_assoc, ← HV2.out]; simp [stepB, h2, n1]), below_drewN HBU.out _⟩
                      case measure => simp [intOf]; omega
                  · have n1b : (x == A) = false := by simp [h1]
                    by_cases h3 : x = C
                    · subst h3
                      by_cases h4 : y = A
                      · subst h4
                        go_wp2_with fail
                        go_quiet (fail)
                        go_wp2
                        go_roundw
                        case rel => exact ⟨j + 1, true, .inl (by omega), by go_num, rfl, Lib.hid (by rw [HN.out, ← Bool.or_assoc, ← HV2.out]; simp [stepB]), below_drewN HBU.out _⟩
                        case measure => simp [intOf]; omega
                      · have n4b : (y == A) = false := by simp [h4]
                        go_wp2_with fail
                        go_quiet (fail)
                        go_wp2
                        go_roundw
                        case rel => exact ⟨j + 1, false, .inl (by omega), by go_num, rfl, Lib.hid (by rw [HN.out, ← Bool.or_assoc, ← HV2.out]; simp [stepB, h1, h4]), below_drewN HBU.out _⟩
                        case measure => simp [intOf]; omega
                    · have n3b : (x == C) = false := by simp [h3]
                      go_wp2_with fail
                      go_quiet (fail)
                      go_wp2
                      go_roundw
                      case rel => exact ⟨j + 1, false, .inl (by omega), by go_num, rfl, Lib.hid (by rw [HN.out, ← Bool.or_assoc, ← HV2.out]; simp [stepB, h1, h3]), below_drewN HBU.out _⟩
                      case measure => simp [intOf]; omega
                · go_wp2_with fail
                  go_quiet (fail)
                  go_wp2
                  go_roundw
                  case rel => exact ⟨j + 1, true, .inl (by omega), by go_num, rfl, Lib.hid (by rw [HN.out, ← Bool.or_assoc, ← HV2.out]; rfl), below_drewN HBU.out _⟩
                  case measure => simp [intOf]; omega
              · have hV : Hid (cv2 = crK ms (A, C) (k + 1)) := Lib.hid (by
                  rw [HV2.out, HCN.out, ← HCV.out]
                  by_cases h0 : h.length = 0
                  · obtain rfl : j = 0 := by omega
                    rw [h0, crR_one]
                    rfl
                  · rw [show j + 1 = h.length by omega])
                clear hb
                go_wp2_with fail
                go_roundw
                case rel => exact ⟨k + 1, cv2, by omega, by go_num, rfl, hV, HBU.out⟩
                case measure => simp [intOf]; omega
          · obtain rfl : k = l := by omega
            have hcv : cv = true := by rw [HCV.out, ← hml]; exact HHC.out
            subst hcv
            obtain ⟨bm, om, rfl, hbm, hm0, hm1⟩ := HL6.out.linkAt hlt
            rw [HP.out] at hm0 hm1
            have m0 := (hb.cell (p := ⟨bm, om + i * 2, none⟩) hbm).trans hm0
            have m1 := (hb.cell (p := ⟨bm, om + i * 2 + 1, none⟩) hbm).trans hm1
            have hx := HX6.out.below hb
            have x0 := hx.c0
            have x1 := hx.c1
            have HXU := Lib.hid hx
            have HMM := Lib.hid (And.intro m0 m1)
            have HSU := Lib.hid (HS6.out.below hb)
            have hnot : ¬ A ≥ C := by omega
            have i00 : (0 : Int) ≤ (i : Int) := by omega
            have i01 : (i : Int) < (mp.length : Int) := by omega
            clear hb hm0 hm1 hx HCV
            go_wp2_with fail
            go_quiet (fail)
            go_wp2_with fail
            cases fv
            · have HFZ : Hid (false = fitK nb ls mp (i + 1)) := Lib.hid (by rw [HFN.out, ← HF.out]; rfl)
              go_quiet (fail)
              go_wp2
              go_roundw
              case rel => exact ⟨i + 1, false, by omega, by go_num, rfl, HFZ, below_drewN HBU.out _⟩
              case measure => simp [intOf]; omega
            · have HFZ : Hid (decide (lk ls A C ≥ 0) = fitK nb ls mp (i + 1)) := Lib.hid (by rw [HFN.out, ← HF.out]; simp)
              go_region_held3 (fun w' => w'.cell? ⟨X, 0, none⟩ = some (.int .i64 n) ∧ w'.cell? ⟨X, 1, none⟩ = some (.slice a len cap) ∧ w'.cell? ⟨bm, om + i * 2, none⟩ = some (.int .i64 A) ∧ w'.cell? ⟨bm, om + i * 2 + 1, none⟩ = some (.int .i64 C)) (go_keep) (first
                | (go_at_call 16; refine (lkP_any _ n a len cap ls A C hlen (HSU.out.below (below_drewN (Below.refl _ _) _).drew)).mono ?_; rintro e w8 ⟨rfl, hb8⟩; have HB8 := Lib.hid (below_up (below_drewN (Below.refl U.heap.size U) _).drew hb8 (Nat.le_refl _)); have hbmU : bm < U.heap.size := (Nat.lt_of_lt_of_le hbm HBU.out.size); have x0 := (HB8.out.cell (p := ⟨X, 0, none⟩) HXU.out.lt).trans HXU.out.c0; have x1 := (HB8.out.cell (p := ⟨X, 1, none⟩) HXU.out.lt).trans HXU.out.c1; have m0 := (HB8.out.cell (p := ⟨bm, om + i * 2, none⟩) hbmU).trans HMM.out.1; have m1 := (HB8.out.cell (p := ⟨bm, om + i * 2 + 1, none⟩) hbmU).trans HMM.out.2; clear hb8))
              all_goals
                go_wp2
                go_roundw
                case rel => exact ⟨i + 1, decide (lk ls A C ≥ 0), by omega, by go_num, rfl, HFZ, HBU.out.trans (HB8.out.mono HBU.out.size)⟩
                case measure => simp [intOf]; omega
      · obtain rfl : i = mp.length := by omega
        have HFE : Hid (fv = fitsB n ls ms) := Lib.hid (by rw [HF.out, HFIT.out])
        clear hb
        go_wp2_with fail
        go_loopw [12, 13] (fun q s wr2 => ∃ k : Nat, k ≤ l ∧ s = .int .i64 k ∧ q = .int .i64 ((tot ms k : Nat) : Int) ∧ Below w6.heap.size w6 wr2) (fun _ s _ => l - (intOf s).toNat)
        case atStart => exact ⟨0, Nat.zero_le _, rfl, rfl, HBU.out⟩
        case round =>
          clear HBU
          obtain ⟨k, hk, rfl, rfl, hb⟩ := hrel
          have HBU := Lib.hid hb
          by_cases hkl : k < l
          · obtain ⟨ar, cr, hgl, hrc, hrs⟩ := HM6.out.rowAt hkl
            have hcU := (hb.cell (p := ⟨gl, k, none⟩) hgl).trans hrc
            have ht := tot_cap10 hrow (k + 1) (by omega)
            have hte : tot ms (k + 1) = tot ms k + (row ms k).length := rfl
            have wt : IntKind.i64.wrap (((tot ms k : Nat) : Int) + ((row ms k).length : Int)) = ((tot ms (k + 1) : Nat) : Int) := (IntWalk.i64_in _ (by omega)).trans (by omega)
            have k00 : (0 : Int) ≤ (k : Int) := by omega
            have k01 : (k : Int) < (l : Int) := by omega
            clear hrc hrs hb ht hte
            go_wp2_with fail
            go_roundw
            case rel => exact ⟨k + 1, by omega, by go_num, rfl, HBU.out⟩
            case measure => simp [intOf]; omega
          · obtain rfl : k = l := by omega
            have hx := HX6.out.below hb
            have x0 := hx.c0
            have x1 := hx.c1
            have HSU := Lib.hid (HS6.out.below hb)
            have HMU := Lib.hid (HM6.out.below hb)
            have HLU := Lib.hid (HL6.out.below hb)
            obtain ⟨tt, htt⟩ : ∃ tt : Int, tt = ((tot ms k : Nat) : Int) := ⟨_, rfl⟩
            obtain ⟨gv, hgv⟩ : ∃ gv : Int, gv = gapV ms := ⟨_, rfl⟩
            have hgt : gv ≤ tt := by
              rw [hgv, htt]
              unfold gapV
              have := gapK_le ms ms.length
              rw [hml] at this ⊢
              omega
            have HGV := Lib.hid hgv
            rw [← htt]
            clear hx hb hgv htt
            cases fv
            · by_cases h0 : mp.length = 0
              · have hci : circV [] = false := circV_no (fun i hi => absurd hi (by simp))
                have HCI := Lib.hid hci
                have h0i : ¬ (0 : Int) < (mp.length : Int) := by omega
                clear hci
                go_wp2_with (first
                  | (go_at_call 14; refine (fitsP_any wr n a len cap ls _ k c ms hlen HSU.out HSM.out HMU.out).mono ?_; rw [← HFE.out]; rintro e w7 ⟨rfl, hb7⟩; have HM7 := Lib.hid (HMU.out.below hb7); have HL7 := Lib.hid (HLU.out.below hb7); have HB7 := Lib.hid (HBU.out.trans (hb7.mono HBU.out.size)); clear hb7)
                  | (go_at_call 17; refine (gapP_any w7 _ k c ms HSM.out HM7.out).mono ?_; rw [← HGV.out]; rintro e w8 ⟨rfl, hb8⟩; have HL8 := Lib.hid (HL7.out.below hb8); have HB8 := Lib.hid (HB7.out.trans (hb8.mono HB7.out.size)); clear hb8)
                  | (go_at_call 18; refine (circP_any w8 am 0 cm [] (by decide) ⟨rfl, (fun _ h => by cases h), .inl rfl⟩).mono ?_; rw [HCI.out]; rintro e w9 ⟨rfl, hb9⟩; have HB9 := Lib.hid (HB8.out.trans (hb9.mono HB8.out.size)); clear hb9))
                go_ret
                exact ⟨rfl, HB6.out.trans (HB9.out.mono HB6.out.size)⟩
              · have h0i : (0 : Int) < (mp.length : Int) := by omega
                go_wp2_with (first
                  | (go_at_call 14; refine (fitsP_any wr n a len cap ls _ k c ms hlen HSU.out HSM.out HMU.out).mono ?_; rw [← HFE.out]; rintro e w7 ⟨rfl, hb7⟩; have HM7 := Lib.hid (HMU.out.below hb7); have HB7 := Lib.hid (HBU.out.trans (hb7.mono HBU.out.size)); clear hb7)
                  | (go_at_call 17; refine (gapP_any w7 _ k c ms HSM.out HM7.out).mono ?_; rw [← HGV.out]; rintro e w8 ⟨rfl, hb8⟩; have HB8 := Lib.hid (HB7.out.trans (hb8.mono HB7.out.size)); clear hb8))
                go_ret
                exact ⟨rfl, HB6.out.trans (HB8.out.mono HB6.out.size)⟩
            · by_cases h0 : mp.length = 0
              · have hci : circV [] = false := circV_no (fun i hi => absurd hi (by simp))
                have HCI := Lib.hid hci
                have h0i : ¬ (0 : Int) < (mp.length : Int) := by omega
                clear hci
                go_wp2_with (first
                  | (go_at_call 14; refine (fitsP_any wr n a len cap ls _ k c ms hlen HSU.out HSM.out HMU.out).mono ?_; rw [← HFE.out]; rintro e w7 ⟨rfl, hb7⟩; have HM7 := Lib.hid (HMU.out.below hb7); have HL7 := Lib.hid (HLU.out.below hb7); have HB7 := Lib.hid (HBU.out.trans (hb7.mono HBU.out.size)); clear hb7)
                  | (go_at_call 17; refine (gapP_any w7 _ k c ms HSM.out HM7.out).mono ?_; rw [← HGV.out]; rintro e w8 ⟨rfl, hb8⟩; have HL8 := Lib.hid (HL7.out.below hb8); have HB8 := Lib.hid (HB7.out.trans (hb8.mono HB7.out.size)); clear hb8)
                  | (go_at_call 18; refine (circP_any w8 am 0 cm [] (by decide) ⟨rfl, (fun _ h => by cases h), .inl rfl⟩).mono ?_; rw [HCI.out]; rintro e w9 ⟨rfl, hb9⟩; have HB9 := Lib.hid (HB8.out.trans (hb9.mono HB8.out.size)); clear hb9))
                go_ret
                exact ⟨rfl, HB6.out.trans (HB9.out.mono HB6.out.size)⟩
              · have h0i : (0 : Int) < (mp.length : Int) := by omega
                go_wp2_with (first
                  | (go_at_call 14; refine (fitsP_any wr n a len cap ls _ k c ms hlen HSU.out HSM.out HMU.out).mono ?_; rw [← HFE.out]; rintro e w7 ⟨rfl, hb7⟩; have HM7 := Lib.hid (HMU.out.below hb7); have HB7 := Lib.hid (HBU.out.trans (hb7.mono HBU.out.size)); clear hb7)
                  | (go_at_call 17; refine (gapP_any w7 _ k c ms HSM.out HM7.out).mono ?_; rw [← HGV.out]; rintro e w8 ⟨rfl, hb8⟩; have HB8 := Lib.hid (HB7.out.trans (hb8.mono HB7.out.size)); clear hb8))
                go_ret
                exact ⟨rfl, HB6.out.trans (HB8.out.mono HB6.out.size)⟩
set_option maxRecDepth 20000 in
theorem lawMaps_walk (a : Option Addr) (len cap : Nat) (z : List Int) (W : World) (w0 : IsRow .u8 W a len cap z) : Calls Try.prog 3 #[.slice a len cap] W fun e W' => e = .returned (.bool true) ∧ Below W.heap.size W W' := by
  by_cases hl : len ≤ 1048576
  · exact maps_small W a len cap hl (code_of w0)
  · clear w0
    go_enter Try.func3, Try.ntmps3
    go_wp2_with (go_at_call 9; refine (big_yes _ a len cap hl).mono ?_; rintro e w0 ⟨rfl, rfl⟩)
    go_ret
    exact ⟨rfl, Below.refl _ _⟩
end Go.Proofs.Ytbjjgcfmdlinaaa
