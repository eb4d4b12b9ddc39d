/- The walk of the law on bounds. -/
import Derived.Test.YthcinjlghhfhmaaBdP
import Derived.Test.YthcinjlghhfhmaaDraw10
import Derived.Test.YthcinjlghhfhmaaBig
import Derived.Test.YthcinjlghhfhmaaTake
namespace Go.Proofs.Ythcinjlghhfhmaa
open Go.RowKit
set_option maxRecDepth 20000 in
set_option maxHeartbeats 6400000 in
theorem bounds_small (W : World) (a0 : Option Addr) (len0 cap0 : Nat) (hl : len0 ≤ 1048576) (hc : CodeAt W W.heap.size a0 len0) : Calls Try.prog 3 #[.slice a0 len0 cap0] W fun e W' => e = .returned (.bool true) ∧ Below W.heap.size W W' := by
  have HC := Lib.hid hc
  clear hc
  go_enter Try.func3, Try.ntmps3
  go_wp2_with fail
  go_at_call 9
  refine (big_no _ a0 len0 cap0 hl).mono ?_
  rintro e w0 ⟨rfl, rfl⟩
  go_wp2_with fail
  go_at_call 10
  refine (drawAlw_any _ a0 len0 cap0 hl HC.out).mono ?_
  rintro e w1 ⟨⟨ms, ls, ds, a, la, ca, b, lb, cb, c, lc, cc, hla, hr, hlb, hlc, rfl, hsm, hsv, hsd⟩, hb1⟩
  have HS1 := Lib.hid hsm
  have HV1 := Lib.hid hsv
  have HD1 := Lib.hid hsd
  have HB1 := Lib.hid hb1
  have HSM := Lib.hid (drawn_small hsm.1 (by omega) hr)
  have HLD := Lib.hid hsd.1
  have hlb2 : lb ≤ 1073741824 := by omega
  have hlc2 : lc ≤ 1073741824 := by omega
  have hlm : -9223372036854775808 ≤ (lc : Int) := by omega
  have hlp : (lc : Int) ≤ 9223372036854775807 := by omega
  clear hsm hsv hsd hb1 hr HC
  obtain ⟨NL, hNL⟩ : ∃ r, r = narL ms ls (lc : Int) := ⟨_, rfl⟩
  obtain ⟨NB, hNB⟩ : ∃ r, r = narB ms ls (lc : Int) := ⟨_, rfl⟩
  have HNL := Lib.hid hNL
  have HNB := Lib.hid hNB
  have HN6 : Hid (NL.length ≤ 6) := Lib.hid (by rw [hNL]; exact narL_le _ _ _)
  clear hNL hNB
  go_wp2_with fail
  go_at_call 11
  refine (narP_any _ _ _ _ ms _ _ _ ls (lc : Int) HSM.out HS1.out hlb2 HV1.out hlm hlp).mono ?_
  rw [← HNL.out, ← HNB.out]
  rintro e w2 ⟨a2, l2, c2, rfl, ho2, hb2⟩
  have hl2 : l2 ≤ 6 := by have h1 := ho2.1; have h2 := HN6.out; omega
  have HX2 := Lib.hid ho2.sees
  have HS2 := Lib.hid (HS1.out.below hb2)
  have HV2 := Lib.hid (HV1.out.below hb2)
  have HD2 := Lib.hid (HD1.out.below hb2)
  have HB2 := Lib.hid (below_up HB1.out hb2 (Nat.le_refl _))
  clear ho2 hb2 HS1 HV1 HD1 HB1
  go_wp2_with fail
  go_at_call 12
  refine (specNarA_any _ _ _ _ ms _ _ _ ls (lc : Int) HSM.out HS2.out hlb2 HV2.out hlm hlp).mono ?_
  rw [← HNL.out, ← HNB.out]
  rintro e w3 ⟨a3, l3, c3, rfl, ho3, hb3⟩
  have HX3 := Lib.hid (HX2.out.below hb3)
  have HS3 := Lib.hid (HS2.out.below hb3)
  have HV3 := Lib.hid (HV2.out.below hb3)
  have HD3 := Lib.hid (HD2.out.below hb3)
  have HB3 := Lib.hid (below_up HB2.out hb3 (Nat.le_refl _))
  clear ho3 hb3 HX2 HS2 HV2 HD2 HB2
  obtain ⟨AB, hAB⟩ : ∃ r, r = alwV ms ls ds := ⟨_, rfl⟩
  have HAB := Lib.hid hAB
  clear hAB
  cases hnr : narR ms ls (lc : Int) with
  | none =>
    have hno := nar_no hnr
    obtain rfl : NB = false := HNB.out.trans hno.2
    obtain rfl : NL = [] := HNL.out.trans hno.1
    obtain rfl : AB = false := by
      cases hA : AB
      · rfl
      · obtain ⟨q, hq, _⟩ := nar_sound (HAB.out.symm.trans hA)
        rw [HLD.out, hnr] at hq
        cases hq
    obtain rfl : l2 = 0 := HX3.out.1.symm
    clear hno hnr
    go_wp2_with fail
    go_at_call 13
    refine (alwP_any _ _ _ _ ms _ _ _ ls _ _ _ ds HSM.out HS3.out hlb2 HV3.out hlc2 HD3.out).mono ?_
    rw [← HAB.out]
    rintro e w4 ⟨rfl, hb4⟩
    have HX4 := Lib.hid (HX3.out.below hb4)
    have HS4 := Lib.hid (HS3.out.below hb4)
    have HV4 := Lib.hid (HV3.out.below hb4)
    have HB4 := Lib.hid (below_up HB3.out hb4 (Nat.le_refl _))
    clear hb4 HX3 HS3 HV3 HD3 HB3
    go_wp2_with fail
    go_at_call 14
    refine (onceP_any _ _ _ _ ms _ _ _ ls _ _ _ [] HSM.out HS4.out hlb2 HV4.out (by omega) HX4.out).mono ?_
    rintro e w5 ⟨a5, l5, c5, rfl, ho5, hb5⟩
    have HB5 := Lib.hid (below_up HB4.out hb5 (Nat.le_refl _))
    clear ho5 hb5
    go_wp2_with fail
    go_ret
    exact ⟨rfl, HB5.out⟩
  | some q =>
    have hyes := nar_yes hnr
    obtain rfl : NB = true := HNB.out.trans hyes.2
    obtain rfl : NL = q := HNL.out.trans hyes.1
    have HNR := Lib.hid hnr
    have hq2 : NL.length = lc := by rw [← HLD.out]; exact nar_len (by rw [HLD.out]; exact hnr)
    obtain rfl : l2 = lc := HX3.out.1.symm.trans hq2
    have HOKN : Hid (ivsOk NL = true) := Lib.hid (nar_narrow hnr).2.1
    clear hyes hnr hq2
    cases AB with
    | true =>
      have HW : Hid (Within ds NL) := Lib.hid (by
        obtain ⟨q, hq, hw⟩ := nar_sound HAB.out.symm
        rw [HLD.out, HNR.out] at hq
        cases hq
        exact hw)
      go_wp2_with fail
      go_at_call 13
      refine (alwP_any _ _ _ _ ms _ _ _ ls _ _ _ ds HSM.out HS3.out hlb2 HV3.out hlc2 HD3.out).mono ?_
      rw [← HAB.out]
      rintro e w4 ⟨rfl, hb4⟩
      have HX4 := Lib.hid (HX3.out.below hb4)
      have HS4 := Lib.hid (HS3.out.below hb4)
      have HV4 := Lib.hid (HV3.out.below hb4)
      have HD4 := Lib.hid (HD3.out.below hb4)
      have HB4 := Lib.hid (below_up HB3.out hb4 (Nat.le_refl _))
      clear hb4 HX3 HS3 HV3 HD3 HB3
      go_wp2_with fail
      go_loopw [10] (fun s wr => ∃ k : Nat, k ≤ l2 ∧ s = .int .i64 k ∧ Below w4.heap.size w4 wr) (fun s _ => l2 - (intOf s).toNat)
      case atStart => exact ⟨0, Nat.zero_le _, rfl, Below.refl _ _⟩
      case round =>
        obtain ⟨k, hk, rfl, hb⟩ := hrel
        have HBR := Lib.hid hb
        by_cases hkl : k < l2
        · obtain ⟨b6, o6, rfl, hb6, hx0, hx1⟩ := (HX4.out.below hb).at hkl
          obtain ⟨b7, o7, rfl, hb7, hdc⟩ : ∃ b off, c = some ⟨b, off, none⟩ ∧ b < wr.heap.size ∧ ∀ j, j < l2 → wr.cell? ⟨b, off + j, none⟩ = some (.int .i64 (ds.getD j 0)) := by
            rcases (HD4.out.below hb).2.2 with h0 | h1
            · omega
            · exact h1
          have hd0 := hdc k hkl
          have hwk := HW.out k (by rw [HX4.out.1]; exact hkl)
          obtain ⟨d, hd⟩ : ∃ d, d = ds.getD k 0 := ⟨_, rfl⟩
          obtain ⟨u, v, huv⟩ : ∃ u v, iv NL k = (u, v) := ⟨_, _, rfl⟩
          rw [huv] at hx0 hx1 hwk
          rw [← hd] at hd0 hwk
          simp only at hwk
          obtain ⟨hk1, hk2⟩ := hwk
          have g1 : ¬ d < u := by omega
          have g2 : ¬ v < d := by omega
          have i0 : (0 : Int) ≤ (k : Int) := by omega
          have i1 : (k : Int) < (l2 : Int) := by omega
          clear hdc hd huv hb hk1 hk2 hb6 hb7
          go_wp2_with fail
          go_quiet (fail)
          go_wp2
          go_roundw
          case rel => exact ⟨k + 1, by omega, by go_num, below_drewN HBR.out _⟩
          case measure => simp [intOf]; omega
        · have HX5 := Lib.hid (HX4.out.below hb)
          have HS5 := Lib.hid (HS4.out.below hb)
          have HV5 := Lib.hid (HV4.out.below hb)
          have HB5 := Lib.hid (below_up HB4.out hb (Nat.le_refl _))
          obtain ⟨V5, rfl⟩ : ∃ V, V = wr := ⟨_, rfl⟩
          have e : l2 = k := by omega
          subst e
          clear hb HX4 HS4 HV4 HD4 HB4 HBR hk hkl
          cases hp : onceR ms ls NL with
          | none =>
            have HP := Lib.hid (once_no hp)
            clear hp
            go_wp2_with fail
            go_at_call 14
            refine (onceP_any _ _ _ _ ms _ _ _ ls _ _ _ NL HSM.out HS5.out hlb2 HV5.out hlc2 HX5.out).mono ?_
            rw [HP.out.1, HP.out.2]
            rintro e w6 ⟨a6, l6, c6, rfl, ho6, hb6⟩
            have HB6 := Lib.hid (below_up HB5.out hb6 (Nat.le_refl _))
            clear ho6 hb6
            go_wp2_with fail
            go_ret
            exact ⟨rfl, HB6.out⟩
          | some p =>
            have HP := Lib.hid (once_yes hp)
            have HN := Lib.hid (once_narrow hp)
            clear hp
            go_wp2_with fail
            go_at_call 14
            refine (onceP_any _ _ _ _ ms _ _ _ ls _ _ _ NL HSM.out HS5.out hlb2 HV5.out hlc2 HX5.out).mono ?_
            rw [HP.out.1, HP.out.2]
            rintro e w6 ⟨a6, l6, c6, rfl, ho6, hb6⟩
            obtain rfl : l6 = l2 := by have h1 := ho6.1; have h2 := HN.out.1; have h3 := HX5.out.1; omega
            have HY6 := Lib.hid ho6.sees
            have HX6 := Lib.hid (HX5.out.below hb6)
            have HB6 := Lib.hid (below_up HB5.out hb6 (Nat.le_refl _))
            clear ho6 hb6 HX5 HS5 HV5 HB5
            go_wp2_with fail
            go_loopw [13] (fun s wr => ∃ k : Nat, k ≤ l6 ∧ s = .int .i64 k ∧ Below w6.heap.size w6 wr) (fun s _ => l6 - (intOf s).toNat)
            case atStart => exact ⟨0, Nat.zero_le _, rfl, Below.refl _ _⟩
            case round =>
              obtain ⟨k, hk, rfl, hb⟩ := hrel
              have HBR := Lib.hid hb
              by_cases hkl : k < l6
              · obtain ⟨b8, o8, rfl, hb8, hx0, hx1⟩ := (HX6.out.below hb).at hkl
                obtain ⟨b9, o9, rfl, hb9, hy0, hy1⟩ := (HY6.out.below hb).at hkl
                have hn := HN.out.2.2 k (by rw [HX6.out.1]; exact hkl)
                have hv := ivsOk_true.1 HN.out.2.1 k (by rw [HY6.out.1]; exact hkl)
                obtain ⟨u, v, huv⟩ : ∃ u v, iv NL k = (u, v) := ⟨_, _, rfl⟩
                obtain ⟨s, t, hst⟩ : ∃ s t, iv p k = (s, t) := ⟨_, _, rfl⟩
                rw [huv] at hx0 hx1 hn
                rw [hst] at hy0 hy1 hn hv
                simp only at hn hv
                have g1 : ¬ s < u := by omega
                have g2 : ¬ v < t := by omega
                have HIV : Hid (isV s t = true) := Lib.hid (isV_true.2 (by omega))
                have HI : Hid (IsI64 s ∧ IsI64 t) := Lib.hid ⟨⟨by omega, by omega⟩, ⟨by omega, by omega⟩⟩
                have i0 : (0 : Int) ≤ (k : Int) := by omega
                have i1 : (k : Int) < (l6 : Int) := by omega
                obtain ⟨U, rfl⟩ : ∃ U, U = wr := ⟨_, rfl⟩
                have HK8 := Lib.hid hb8
                have HK9 := Lib.hid hb9
                clear huv hst hb hn hv hb8 hb9
                go_wp2_with fail
                refine wp_region_noPanic ?_
                refine wp_region_held_drew (S := (fun w' => (w'.cell? ⟨b8, o8 + k * 2, none⟩ = some (.int .i64 u) ∧ w'.cell? ⟨b8, o8 + k * 2 + 1, none⟩ = some (.int .i64 v)) ∧ (w'.cell? ⟨b9, o9 + k * 2, none⟩ = some (.int .i64 s) ∧ w'.cell? ⟨b9, o9 + k * 2 + 1, none⟩ = some (.int .i64 t)))) (by kernel_rfl) ?_ (fun hHeld => ?_)
                · exact ⟨⟨hx0, hx1⟩, ⟨hy0, hy1⟩⟩
                refine take_val 0 (some 95) (.slice (some ⟨b9, o9, none⟩) l6 c6) (by kernel_rfl) (by kernel_rfl) (by kernel_rfl) (fun _ _ _ h => h) ⟨_, rfl, rfl, by rfl, fun w hSw => by go_simp⟩ (by assumption) ?_
                try simp only [Act.put, List.setIfInBounds_toArray, List.set_cons_zero, List.set_cons_succ]
                refine take_val 1 (some 96) (.int .i64 (k : Int)) (by kernel_rfl) (by kernel_rfl) (by kernel_rfl) (fun _ _ _ h => h) ⟨_, rfl, rfl, by rfl, fun w hSw => by go_simp⟩ (by assumption) ?_
                try simp only [Act.put, List.setIfInBounds_toArray, List.set_cons_zero, List.set_cons_succ]
                refine take_val 2 (some 97) (.pointer (some ⟨b9, o9 + k * 2, none⟩)) (by kernel_rfl) (by kernel_rfl) (by kernel_rfl) (fun _ _ _ h => h) ⟨_, rfl, rfl, by rfl, fun w hSw => by go_simp⟩ (by assumption) ?_
                try simp only [Act.put, List.setIfInBounds_toArray, List.set_cons_zero, List.set_cons_succ]
                refine take_val 3 (some 98) (.pointer (some ⟨b9, o9 + k * 2, none⟩)) (by kernel_rfl) (by kernel_rfl) (by kernel_rfl) (fun _ _ _ h => h) ⟨_, rfl, rfl, by rfl, fun w hSw => by go_simp⟩ (by assumption) ?_
                try simp only [Act.put, List.setIfInBounds_toArray, List.set_cons_zero, List.set_cons_succ]
                refine take_val 4 (some 99) (.int .i64 s) (by kernel_rfl) (by kernel_rfl) (by kernel_rfl) (fun _ _ _ h => h) ⟨_, rfl, rfl, by rfl, fun w hSw => by go_simp⟩ (by assumption) ?_
                try simp only [Act.put, List.setIfInBounds_toArray, List.set_cons_zero, List.set_cons_succ]
                refine take_val 5 (some 100) (.slice (some ⟨b8, o8, none⟩) l6 c2) (by kernel_rfl) (by kernel_rfl) (by kernel_rfl) (fun _ _ _ h => h) ⟨_, rfl, rfl, by rfl, fun w hSw => by go_simp⟩ (by assumption) ?_
                try simp only [Act.put, List.setIfInBounds_toArray, List.set_cons_zero, List.set_cons_succ]
                refine take_val 6 (some 101) (.int .i64 (k : Int)) (by kernel_rfl) (by kernel_rfl) (by kernel_rfl) (fun _ _ _ h => h) ⟨_, rfl, rfl, by rfl, fun w hSw => by go_simp⟩ (by assumption) ?_
                try simp only [Act.put, List.setIfInBounds_toArray, List.set_cons_zero, List.set_cons_succ]
                refine take_val 7 (some 102) (.pointer (some ⟨b8, o8 + k * 2, none⟩)) (by kernel_rfl) (by kernel_rfl) (by kernel_rfl) (fun _ _ _ h => h) ⟨_, rfl, rfl, by rfl, fun w hSw => by go_simp⟩ (by assumption) ?_
                try simp only [Act.put, List.setIfInBounds_toArray, List.set_cons_zero, List.set_cons_succ]
                refine take_val 8 (some 103) (.pointer (some ⟨b8, o8 + k * 2, none⟩)) (by kernel_rfl) (by kernel_rfl) (by kernel_rfl) (fun _ _ _ h => h) ⟨_, rfl, rfl, by rfl, fun w hSw => by go_simp⟩ (by assumption) ?_
                try simp only [Act.put, List.setIfInBounds_toArray, List.set_cons_zero, List.set_cons_succ]
                refine take_val 9 (some 104) (.int .i64 u) (by kernel_rfl) (by kernel_rfl) (by kernel_rfl) (fun _ _ _ h => h) ⟨_, rfl, rfl, by rfl, fun w hSw => by go_simp⟩ (by assumption) ?_
                try simp only [Act.put, List.setIfInBounds_toArray, List.set_cons_zero, List.set_cons_succ]
                refine take_val 10 (some 105) (.bool false) (by kernel_rfl) (by kernel_rfl) (by kernel_rfl) (fun _ _ _ h => h) ⟨_, rfl, rfl, by rfl, fun w hSw => by go_simp⟩ (by assumption) ?_
                try simp only [Act.put, List.setIfInBounds_toArray, List.set_cons_zero, List.set_cons_succ]
                refine take_val 11 (some 106) (.bool false) (by kernel_rfl) (by kernel_rfl) (by kernel_rfl) (fun _ _ _ h => h) ⟨_, rfl, rfl, by rfl, fun w hSw => by go_simp⟩ (by assumption) ?_
                try simp only [Act.put, List.setIfInBounds_toArray, List.set_cons_zero, List.set_cons_succ]
                refine take_val 12 (some 107) (.slice (some ⟨b9, o9, none⟩) l6 c6) (by kernel_rfl) (by kernel_rfl) (by kernel_rfl) (fun _ _ _ h => h) ⟨_, rfl, rfl, by rfl, fun w hSw => by go_simp⟩ (by assumption) ?_
                try simp only [Act.put, List.setIfInBounds_toArray, List.set_cons_zero, List.set_cons_succ]
                refine take_val 13 (some 108) (.int .i64 (k : Int)) (by kernel_rfl) (by kernel_rfl) (by kernel_rfl) (fun _ _ _ h => h) ⟨_, rfl, rfl, by rfl, fun w hSw => by go_simp⟩ (by assumption) ?_
                try simp only [Act.put, List.setIfInBounds_toArray, List.set_cons_zero, List.set_cons_succ]
                refine take_val 14 (some 109) (.pointer (some ⟨b9, o9 + k * 2, none⟩)) (by kernel_rfl) (by kernel_rfl) (by kernel_rfl) (fun _ _ _ h => h) ⟨_, rfl, rfl, by rfl, fun w hSw => by go_simp⟩ (by assumption) ?_
                try simp only [Act.put, List.setIfInBounds_toArray, List.set_cons_zero, List.set_cons_succ]
                refine take_val 15 (some 110) (.pointer (some ⟨b9, o9 + k * 2 + 1, none⟩)) (by kernel_rfl) (by kernel_rfl) (by kernel_rfl) (fun _ _ _ h => h) ⟨_, rfl, rfl, by rfl, fun w hSw => by go_simp⟩ (by assumption) ?_
                try simp only [Act.put, List.setIfInBounds_toArray, List.set_cons_zero, List.set_cons_succ]
                refine take_val 16 (some 111) (.int .i64 t) (by kernel_rfl) (by kernel_rfl) (by kernel_rfl) (fun _ _ _ h => h) ⟨_, rfl, rfl, by rfl, fun w hSw => by go_simp⟩ (by assumption) ?_
                try simp only [Act.put, List.setIfInBounds_toArray, List.set_cons_zero, List.set_cons_succ]
                refine take_val 17 (some 112) (.slice (some ⟨b8, o8, none⟩) l6 c2) (by kernel_rfl) (by kernel_rfl) (by kernel_rfl) (fun _ _ _ h => h) ⟨_, rfl, rfl, by rfl, fun w hSw => by go_simp⟩ (by assumption) ?_
                try simp only [Act.put, List.setIfInBounds_toArray, List.set_cons_zero, List.set_cons_succ]
                refine take_val 18 (some 113) (.int .i64 (k : Int)) (by kernel_rfl) (by kernel_rfl) (by kernel_rfl) (fun _ _ _ h => h) ⟨_, rfl, rfl, by rfl, fun w hSw => by go_simp⟩ (by assumption) ?_
                try simp only [Act.put, List.setIfInBounds_toArray, List.set_cons_zero, List.set_cons_succ]
                refine take_val 19 (some 114) (.pointer (some ⟨b8, o8 + k * 2, none⟩)) (by kernel_rfl) (by kernel_rfl) (by kernel_rfl) (fun _ _ _ h => h) ⟨_, rfl, rfl, by rfl, fun w hSw => by go_simp⟩ (by assumption) ?_
                try simp only [Act.put, List.setIfInBounds_toArray, List.set_cons_zero, List.set_cons_succ]
                refine take_val 20 (some 115) (.pointer (some ⟨b8, o8 + k * 2 + 1, none⟩)) (by kernel_rfl) (by kernel_rfl) (by kernel_rfl) (fun _ _ _ h => h) ⟨_, rfl, rfl, by rfl, fun w hSw => by go_simp⟩ (by assumption) ?_
                try simp only [Act.put, List.setIfInBounds_toArray, List.set_cons_zero, List.set_cons_succ]
                refine take_val 21 (some 116) (.int .i64 v) (by kernel_rfl) (by kernel_rfl) (by kernel_rfl) (fun _ _ _ h => h) ⟨_, rfl, rfl, by rfl, fun w hSw => by go_simp⟩ (by assumption) ?_
                try simp only [Act.put, List.setIfInBounds_toArray, List.set_cons_zero, List.set_cons_succ]
                refine take_val 22 (some 117) (.bool false) (by kernel_rfl) (by kernel_rfl) (by kernel_rfl) (fun _ _ _ h => h) ⟨_, rfl, rfl, by rfl, fun w hSw => by go_simp⟩ (by assumption) ?_
                try simp only [Act.put, List.setIfInBounds_toArray, List.set_cons_zero, List.set_cons_succ]
                refine take_val 23 (some 118) (.bool false) (by kernel_rfl) (by kernel_rfl) (by kernel_rfl) (fun _ _ _ h => h) ⟨_, rfl, rfl, by rfl, fun w hSw => by go_simp⟩ (by assumption) ?_
                try simp only [Act.put, List.setIfInBounds_toArray, List.set_cons_zero, List.set_cons_succ]
                refine take_val 24 (some 119) (.bool false) (by kernel_rfl) (by kernel_rfl) (by kernel_rfl) (fun _ _ _ h => h) ⟨_, rfl, rfl, by rfl, fun w hSw => by go_simp⟩ (by assumption) ?_
                try simp only [Act.put, List.setIfInBounds_toArray, List.set_cons_zero, List.set_cons_succ]
                refine take_val 25 (some 120) (.slice (some ⟨b9, o9, none⟩) l6 c6) (by kernel_rfl) (by kernel_rfl) (by kernel_rfl) (fun _ _ _ h => h) ⟨_, rfl, rfl, by rfl, fun w hSw => by go_simp⟩ (by assumption) ?_
                try simp only [Act.put, List.setIfInBounds_toArray, List.set_cons_zero, List.set_cons_succ]
                refine take_val 26 (some 121) (.int .i64 (k : Int)) (by kernel_rfl) (by kernel_rfl) (by kernel_rfl) (fun _ _ _ h => h) ⟨_, rfl, rfl, by rfl, fun w hSw => by go_simp⟩ (by assumption) ?_
                try simp only [Act.put, List.setIfInBounds_toArray, List.set_cons_zero, List.set_cons_succ]
                refine take_val 27 (some 122) (.pointer (some ⟨b9, o9 + k * 2, none⟩)) (by kernel_rfl) (by kernel_rfl) (by kernel_rfl) (fun _ _ _ h => h) ⟨_, rfl, rfl, by rfl, fun w hSw => by go_simp⟩ (by assumption) ?_
                try simp only [Act.put, List.setIfInBounds_toArray, List.set_cons_zero, List.set_cons_succ]
                refine take_val 28 (some 123) (.agg #[.int .i64 s, .int .i64 t]) (by kernel_rfl) (by kernel_rfl) (by kernel_rfl) (fun _ _ _ h => h) ⟨_, rfl, rfl, by rfl, fun w hSw => by go_simp⟩ (by assumption) ?_
                try simp only [Act.put, List.setIfInBounds_toArray, List.set_cons_zero, List.set_cons_succ]
                refine wpAnyH_ready (rs := [29]) (by kernel_rfl) (by simp) ?_
                refine AllReadyH.cons rfl (fun K hK => ?_) AllReadyH.nil
                go_simp
                go_at_call 15
                refine (ivP_any s t _ HI.out.1 HI.out.2).mono ?_
                rw [HIV.out]
                rintro e z2 ⟨rfl, hb⟩
                have HU9 := Lib.hid (below_up (w0 := U) (Below.refl _ _).drew hb (Nat.le_refl _))
                have HB9 := Lib.hid (below_up HBR.out HU9.out (Nat.le_refl _))
                clear hb hHeld
                refine hK.out _ _ ⟨⟨(HU9.out.cell (p := ⟨b8, o8 + k * 2, none⟩) HK8.out).trans hx0, (HU9.out.cell (p := ⟨b8, o8 + k * 2 + 1, none⟩) HK8.out).trans hx1⟩, ⟨(HU9.out.cell (p := ⟨b9, o9 + k * 2, none⟩) HK9.out).trans hy0, (HU9.out.cell (p := ⟨b9, o9 + k * 2 + 1, none⟩) HK9.out).trans hy1⟩⟩ (fun hHeld => ?_)
                clear hK K
                try simp only [Act.put, List.setIfInBounds_toArray, List.set_cons_zero, List.set_cons_succ]
                refine take_val 30 (some 125) (.bool false) (by kernel_rfl) (by kernel_rfl) (by kernel_rfl) (fun _ _ _ h => h) ⟨_, rfl, rfl, by rfl, fun w hSw => by go_simp⟩ (by assumption) ?_
                try simp only [Act.put, List.setIfInBounds_toArray, List.set_cons_zero, List.set_cons_succ]
                refine take_val 31 (some 126) (.bool false) (by kernel_rfl) (by kernel_rfl) (by kernel_rfl) (fun _ _ _ h => h) ⟨_, rfl, rfl, by rfl, fun w hSw => by go_simp⟩ (by assumption) ?_
                try simp only [Act.put, List.setIfInBounds_toArray, List.set_cons_zero, List.set_cons_succ]
                refine wpAnyH_done (by kernel_rfl) ?_ _
                refine NoPanic.normal ?_
                go_wp2
                go_roundw
                case rel => exact ⟨k + 1, by omega, by go_num, HB9.out⟩
                case measure => simp [intOf]; omega
              · have HB7 := Lib.hid (below_up HB6.out hb (Nat.le_refl _))
                clear hb
                go_wp2
                go_ret
                exact ⟨rfl, HB7.out⟩
    | false =>
      go_wp2_with fail
      go_at_call 13
      refine (alwP_any _ _ _ _ ms _ _ _ ls _ _ _ ds HSM.out HS3.out hlb2 HV3.out hlc2 HD3.out).mono ?_
      rw [← HAB.out]
      rintro e w4 ⟨rfl, hb4⟩
      have HX5 := Lib.hid (HX3.out.below hb4)
      have HS5 := Lib.hid (HS3.out.below hb4)
      have HV5 := Lib.hid (HV3.out.below hb4)
      have HB5 := Lib.hid (below_up HB3.out hb4 (Nat.le_refl _))
      clear hb4 HX3 HS3 HV3 HD3 HB3
      cases hp : onceR ms ls NL with
      | none =>
        have HP := Lib.hid (once_no hp)
        clear hp
        go_wp2_with fail
        go_at_call 14
        refine (onceP_any _ _ _ _ ms _ _ _ ls _ _ _ NL HSM.out HS5.out hlb2 HV5.out hlc2 HX5.out).mono ?_
        rw [HP.out.1, HP.out.2]
        rintro e w6 ⟨a6, l6, c6, rfl, ho6, hb6⟩
        have HB6 := Lib.hid (below_up HB5.out hb6 (Nat.le_refl _))
        clear ho6 hb6
        go_wp2_with fail
        go_ret
        exact ⟨rfl, HB6.out⟩
      | some p =>
        have HP := Lib.hid (once_yes hp)
        have HN := Lib.hid (once_narrow hp)
        clear hp
        go_wp2_with fail
        go_at_call 14
        refine (onceP_any _ _ _ _ ms _ _ _ ls _ _ _ NL HSM.out HS5.out hlb2 HV5.out hlc2 HX5.out).mono ?_
        rw [HP.out.1, HP.out.2]
        rintro e w6 ⟨a6, l6, c6, rfl, ho6, hb6⟩
        obtain rfl : l6 = l2 := by have h1 := ho6.1; have h2 := HN.out.1; have h3 := HX5.out.1; omega
        have HY6 := Lib.hid ho6.sees
        have HX6 := Lib.hid (HX5.out.below hb6)
        have HB6 := Lib.hid (below_up HB5.out hb6 (Nat.le_refl _))
        clear ho6 hb6 HX5 HS5 HV5 HB5
        go_wp2_with fail
        go_loopw [13] (fun s wr => ∃ k : Nat, k ≤ l6 ∧ s = .int .i64 k ∧ Below w6.heap.size w6 wr) (fun s _ => l6 - (intOf s).toNat)
        case atStart => exact ⟨0, Nat.zero_le _, rfl, Below.refl _ _⟩
        case round =>
          obtain ⟨k, hk, rfl, hb⟩ := hrel
          have HBR := Lib.hid hb
          by_cases hkl : k < l6
          · obtain ⟨b8, o8, rfl, hb8, hx0, hx1⟩ := (HX6.out.below hb).at hkl
            obtain ⟨b9, o9, rfl, hb9, hy0, hy1⟩ := (HY6.out.below hb).at hkl
            have hn := HN.out.2.2 k (by rw [HX6.out.1]; exact hkl)
            have hv := ivsOk_true.1 HN.out.2.1 k (by rw [HY6.out.1]; exact hkl)
            obtain ⟨u, v, huv⟩ : ∃ u v, iv NL k = (u, v) := ⟨_, _, rfl⟩
            obtain ⟨s, t, hst⟩ : ∃ s t, iv p k = (s, t) := ⟨_, _, rfl⟩
            rw [huv] at hx0 hx1 hn
            rw [hst] at hy0 hy1 hn hv
            simp only at hn hv
            have g1 : ¬ s < u := by omega
            have g2 : ¬ v < t := by omega
            have HIV : Hid (isV s t = true) := Lib.hid (isV_true.2 (by omega))
            have HI : Hid (IsI64 s ∧ IsI64 t) := Lib.hid ⟨⟨by omega, by omega⟩, ⟨by omega, by omega⟩⟩
            have i0 : (0 : Int) ≤ (k : Int) := by omega
            have i1 : (k : Int) < (l6 : Int) := by omega
            obtain ⟨U, rfl⟩ : ∃ U, U = wr := ⟨_, rfl⟩
            have HK8 := Lib.hid hb8
            have HK9 := Lib.hid hb9
            clear huv hst hb hn hv hb8 hb9
            go_wp2_with fail
            refine wp_region_noPanic ?_
            refine wp_region_held_drew (S := (fun w' => (w'.cell? ⟨b8, o8 + k * 2, none⟩ = some (.int .i64 u) ∧ w'.cell? ⟨b8, o8 + k * 2 + 1, none⟩ = some (.int .i64 v)) ∧ (w'.cell? ⟨b9, o9 + k * 2, none⟩ = some (.int .i64 s) ∧ w'.cell? ⟨b9, o9 + k * 2 + 1, none⟩ = some (.int .i64 t)))) (by kernel_rfl) ?_ (fun hHeld => ?_)
            · exact ⟨⟨hx0, hx1⟩, ⟨hy0, hy1⟩⟩
            refine take_val 0 (some 95) (.slice (some ⟨b9, o9, none⟩) l6 c6) (by kernel_rfl) (by kernel_rfl) (by kernel_rfl) (fun _ _ _ h => h) ⟨_, rfl, rfl, by rfl, fun w hSw => by go_simp⟩ (by assumption) ?_
            try simp only [Act.put, List.setIfInBounds_toArray, List.set_cons_zero, List.set_cons_succ]
            refine take_val 1 (some 96) (.int .i64 (k : Int)) (by kernel_rfl) (by kernel_rfl) (by kernel_rfl) (fun _ _ _ h => h) ⟨_, rfl, rfl, by rfl, fun w hSw => by go_simp⟩ (by assumption) ?_
            try simp only [Act.put, List.setIfInBounds_toArray, List.set_cons_zero, List.set_cons_succ]
            refine take_val 2 (some 97) (.pointer (some ⟨b9, o9 + k * 2, none⟩)) (by kernel_rfl) (by kernel_rfl) (by kernel_rfl) (fun _ _ _ h => h) ⟨_, rfl, rfl, by rfl, fun w hSw => by go_simp⟩ (by assumption) ?_
            try simp only [Act.put, List.setIfInBounds_toArray, List.set_cons_zero, List.set_cons_succ]
            refine take_val 3 (some 98) (.pointer (some ⟨b9, o9 + k * 2, none⟩)) (by kernel_rfl) (by kernel_rfl) (by kernel_rfl) (fun _ _ _ h => h) ⟨_, rfl, rfl, by rfl, fun w hSw => by go_simp⟩ (by assumption) ?_
            try simp only [Act.put, List.setIfInBounds_toArray, List.set_cons_zero, List.set_cons_succ]
            refine take_val 4 (some 99) (.int .i64 s) (by kernel_rfl) (by kernel_rfl) (by kernel_rfl) (fun _ _ _ h => h) ⟨_, rfl, rfl, by rfl, fun w hSw => by go_simp⟩ (by assumption) ?_
            try simp only [Act.put, List.setIfInBounds_toArray, List.set_cons_zero, List.set_cons_succ]
            refine take_val 5 (some 100) (.slice (some ⟨b8, o8, none⟩) l6 c2) (by kernel_rfl) (by kernel_rfl) (by kernel_rfl) (fun _ _ _ h => h) ⟨_, rfl, rfl, by rfl, fun w hSw => by go_simp⟩ (by assumption) ?_
            try simp only [Act.put, List.setIfInBounds_toArray, List.set_cons_zero, List.set_cons_succ]
            refine take_val 6 (some 101) (.int .i64 (k : Int)) (by kernel_rfl) (by kernel_rfl) (by kernel_rfl) (fun _ _ _ h => h) ⟨_, rfl, rfl, by rfl, fun w hSw => by go_simp⟩ (by assumption) ?_
            try simp only [Act.put, List.setIfInBounds_toArray, List.set_cons_zero, List.set_cons_succ]
            refine take_val 7 (some 102) (.pointer (some ⟨b8, o8 + k * 2, none⟩)) (by kernel_rfl) (by kernel_rfl) (by kernel_rfl) (fun _ _ _ h => h) ⟨_, rfl, rfl, by rfl, fun w hSw => by go_simp⟩ (by assumption) ?_
            try simp only [Act.put, List.setIfInBounds_toArray, List.set_cons_zero, List.set_cons_succ]
            refine take_val 8 (some 103) (.pointer (some ⟨b8, o8 + k * 2, none⟩)) (by kernel_rfl) (by kernel_rfl) (by kernel_rfl) (fun _ _ _ h => h) ⟨_, rfl, rfl, by rfl, fun w hSw => by go_simp⟩ (by assumption) ?_
            try simp only [Act.put, List.setIfInBounds_toArray, List.set_cons_zero, List.set_cons_succ]
            refine take_val 9 (some 104) (.int .i64 u) (by kernel_rfl) (by kernel_rfl) (by kernel_rfl) (fun _ _ _ h => h) ⟨_, rfl, rfl, by rfl, fun w hSw => by go_simp⟩ (by assumption) ?_
            try simp only [Act.put, List.setIfInBounds_toArray, List.set_cons_zero, List.set_cons_succ]
            refine take_val 10 (some 105) (.bool false) (by kernel_rfl) (by kernel_rfl) (by kernel_rfl) (fun _ _ _ h => h) ⟨_, rfl, rfl, by rfl, fun w hSw => by go_simp⟩ (by assumption) ?_
            try simp only [Act.put, List.setIfInBounds_toArray, List.set_cons_zero, List.set_cons_succ]
            refine take_val 11 (some 106) (.bool false) (by kernel_rfl) (by kernel_rfl) (by kernel_rfl) (fun _ _ _ h => h) ⟨_, rfl, rfl, by rfl, fun w hSw => by go_simp⟩ (by assumption) ?_
            try simp only [Act.put, List.setIfInBounds_toArray, List.set_cons_zero, List.set_cons_succ]
            refine take_val 12 (some 107) (.slice (some ⟨b9, o9, none⟩) l6 c6) (by kernel_rfl) (by kernel_rfl) (by kernel_rfl) (fun _ _ _ h => h) ⟨_, rfl, rfl, by rfl, fun w hSw => by go_simp⟩ (by assumption) ?_
            try simp only [Act.put, List.setIfInBounds_toArray, List.set_cons_zero, List.set_cons_succ]
            refine take_val 13 (some 108) (.int .i64 (k : Int)) (by kernel_rfl) (by kernel_rfl) (by kernel_rfl) (fun _ _ _ h => h) ⟨_, rfl, rfl, by rfl, fun w hSw => by go_simp⟩ (by assumption) ?_
            try simp only [Act.put, List.setIfInBounds_toArray, List.set_cons_zero, List.set_cons_succ]
            refine take_val 14 (some 109) (.pointer (some ⟨b9, o9 + k * 2, none⟩)) (by kernel_rfl) (by kernel_rfl) (by kernel_rfl) (fun _ _ _ h => h) ⟨_, rfl, rfl, by rfl, fun w hSw => by go_simp⟩ (by assumption) ?_
            try simp only [Act.put, List.setIfInBounds_toArray, List.set_cons_zero, List.set_cons_succ]
            refine take_val 15 (some 110) (.pointer (some ⟨b9, o9 + k * 2 + 1, none⟩)) (by kernel_rfl) (by kernel_rfl) (by kernel_rfl) (fun _ _ _ h => h) ⟨_, rfl, rfl, by rfl, fun w hSw => by go_simp⟩ (by assumption) ?_
            try simp only [Act.put, List.setIfInBounds_toArray, List.set_cons_zero, List.set_cons_succ]
            refine take_val 16 (some 111) (.int .i64 t) (by kernel_rfl) (by kernel_rfl) (by kernel_rfl) (fun _ _ _ h => h) ⟨_, rfl, rfl, by rfl, fun w hSw => by go_simp⟩ (by assumption) ?_
            try simp only [Act.put, List.setIfInBounds_toArray, List.set_cons_zero, List.set_cons_succ]
            refine take_val 17 (some 112) (.slice (some ⟨b8, o8, none⟩) l6 c2) (by kernel_rfl) (by kernel_rfl) (by kernel_rfl) (fun _ _ _ h => h) ⟨_, rfl, rfl, by rfl, fun w hSw => by go_simp⟩ (by assumption) ?_
            try simp only [Act.put, List.setIfInBounds_toArray, List.set_cons_zero, List.set_cons_succ]
            refine take_val 18 (some 113) (.int .i64 (k : Int)) (by kernel_rfl) (by kernel_rfl) (by kernel_rfl) (fun _ _ _ h => h) ⟨_, rfl, rfl, by rfl, fun w hSw => by go_simp⟩ (by assumption) ?_
            try simp only [Act.put, List.setIfInBounds_toArray, List.set_cons_zero, List.set_cons_succ]
            refine take_val 19 (some 114) (.pointer (some ⟨b8, o8 + k * 2, none⟩)) (by kernel_rfl) (by kernel_rfl) (by kernel_rfl) (fun _ _ _ h => h) ⟨_, rfl, rfl, by rfl, fun w hSw => by go_simp⟩ (by assumption) ?_
            try simp only [Act.put, List.setIfInBounds_toArray, List.set_cons_zero, List.set_cons_succ]
            refine take_val 20 (some 115) (.pointer (some ⟨b8, o8 + k * 2 + 1, none⟩)) (by kernel_rfl) (by kernel_rfl) (by kernel_rfl) (fun _ _ _ h => h) ⟨_, rfl, rfl, by rfl, fun w hSw => by go_simp⟩ (by assumption) ?_
            try simp only [Act.put, List.setIfInBounds_toArray, List.set_cons_zero, List.set_cons_succ]
            refine take_val 21 (some 116) (.int .i64 v) (by kernel_rfl) (by kernel_rfl) (by kernel_rfl) (fun _ _ _ h => h) ⟨_, rfl, rfl, by rfl, fun w hSw => by go_simp⟩ (by assumption) ?_
            try simp only [Act.put, List.setIfInBounds_toArray, List.set_cons_zero, List.set_cons_succ]
            refine take_val 22 (some 117) (.bool false) (by kernel_rfl) (by kernel_rfl) (by kernel_rfl) (fun _ _ _ h => h) ⟨_, rfl, rfl, by rfl, fun w hSw => by go_simp⟩ (by assumption) ?_
            try simp only [Act.put, List.setIfInBounds_toArray, List.set_cons_zero, List.set_cons_succ]
            refine take_val 23 (some 118) (.bool false) (by kernel_rfl) (by kernel_rfl) (by kernel_rfl) (fun _ _ _ h => h) ⟨_, rfl, rfl, by rfl, fun w hSw => by go_simp⟩ (by assumption) ?_
            try simp only [Act.put, List.setIfInBounds_toArray, List.set_cons_zero, List.set_cons_succ]
            refine take_val 24 (some 119) (.bool false) (by kernel_rfl) (by kernel_rfl) (by kernel_rfl) (fun _ _ _ h => h) ⟨_, rfl, rfl, by rfl, fun w hSw => by go_simp⟩ (by assumption) ?_
            try simp only [Act.put, List.setIfInBounds_toArray, List.set_cons_zero, List.set_cons_succ]
            refine take_val 25 (some 120) (.slice (some ⟨b9, o9, none⟩) l6 c6) (by kernel_rfl) (by kernel_rfl) (by kernel_rfl) (fun _ _ _ h => h) ⟨_, rfl, rfl, by rfl, fun w hSw => by go_simp⟩ (by assumption) ?_
            try simp only [Act.put, List.setIfInBounds_toArray, List.set_cons_zero, List.set_cons_succ]
            refine take_val 26 (some 121) (.int .i64 (k : Int)) (by kernel_rfl) (by kernel_rfl) (by kernel_rfl) (fun _ _ _ h => h) ⟨_, rfl, rfl, by rfl, fun w hSw => by go_simp⟩ (by assumption) ?_
            try simp only [Act.put, List.setIfInBounds_toArray, List.set_cons_zero, List.set_cons_succ]
            refine take_val 27 (some 122) (.pointer (some ⟨b9, o9 + k * 2, none⟩)) (by kernel_rfl) (by kernel_rfl) (by kernel_rfl) (fun _ _ _ h => h) ⟨_, rfl, rfl, by rfl, fun w hSw => by go_simp⟩ (by assumption) ?_
            try simp only [Act.put, List.setIfInBounds_toArray, List.set_cons_zero, List.set_cons_succ]
            refine take_val 28 (some 123) (.agg #[.int .i64 s, .int .i64 t]) (by kernel_rfl) (by kernel_rfl) (by kernel_rfl) (fun _ _ _ h => h) ⟨_, rfl, rfl, by rfl, fun w hSw => by go_simp⟩ (by assumption) ?_
            try simp only [Act.put, List.setIfInBounds_toArray, List.set_cons_zero, List.set_cons_succ]
            refine wpAnyH_ready (rs := [29]) (by kernel_rfl) (by simp) ?_
            refine AllReadyH.cons rfl (fun K hK => ?_) AllReadyH.nil
            go_simp
            go_at_call 15
            refine (ivP_any s t _ HI.out.1 HI.out.2).mono ?_
            rw [HIV.out]
            rintro e z2 ⟨rfl, hb⟩
            have HU9 := Lib.hid (below_up (w0 := U) (Below.refl _ _).drew hb (Nat.le_refl _))
            have HB9 := Lib.hid (below_up HBR.out HU9.out (Nat.le_refl _))
            clear hb hHeld
            refine hK.out _ _ ⟨⟨(HU9.out.cell (p := ⟨b8, o8 + k * 2, none⟩) HK8.out).trans hx0, (HU9.out.cell (p := ⟨b8, o8 + k * 2 + 1, none⟩) HK8.out).trans hx1⟩, ⟨(HU9.out.cell (p := ⟨b9, o9 + k * 2, none⟩) HK9.out).trans hy0, (HU9.out.cell (p := ⟨b9, o9 + k * 2 + 1, none⟩) HK9.out).trans hy1⟩⟩ (fun hHeld => ?_)
            clear hK K
            try simp only [Act.put, List.setIfInBounds_toArray, List.set_cons_zero, List.set_cons_succ]
            refine take_val 30 (some 125) (.bool false) (by kernel_rfl) (by kernel_rfl) (by kernel_rfl) (fun _ _ _ h => h) ⟨_, rfl, rfl, by rfl, fun w hSw => by go_simp⟩ (by assumption) ?_
            try simp only [Act.put, List.setIfInBounds_toArray, List.set_cons_zero, List.set_cons_succ]
            refine take_val 31 (some 126) (.bool false) (by kernel_rfl) (by kernel_rfl) (by kernel_rfl) (fun _ _ _ h => h) ⟨_, rfl, rfl, by rfl, fun w hSw => by go_simp⟩ (by assumption) ?_
            try simp only [Act.put, List.setIfInBounds_toArray, List.set_cons_zero, List.set_cons_succ]
            refine wpAnyH_done (by kernel_rfl) ?_ _
            refine NoPanic.normal ?_
            go_wp2
            go_roundw
            case rel => exact ⟨k + 1, by omega, by go_num, HB9.out⟩
            case measure => simp [intOf]; omega
          · have HB7 := Lib.hid (below_up HB6.out hb (Nat.le_refl _))
            clear hb
            go_wp2
            go_ret
            exact ⟨rfl, HB7.out⟩
set_option maxRecDepth 20000 in
theorem lawBounds_walk (a : Option Addr) (len cap : Nat) (z : List Int) (W : World) (w0 : IsRow .u8 W a len cap z) : Calls Try.prog 3 #[.slice a len cap] W fun e W' => e = .returned (.bool true) ∧ Below W.heap.size W W' := by
  by_cases hl : len ≤ 1048576
  · exact bounds_small W a len cap hl (code_of w0)
  · clear w0
    go_enter Try.func3, Try.ntmps3
    go_wp2_with (go_at_call 9; refine (big_yes _ a len cap hl).mono ?_; rintro e w0 ⟨rfl, rfl⟩)
    go_ret
    exact ⟨rfl, Below.refl _ _⟩
end Go.Proofs.Ythcinjlghhfhmaa
