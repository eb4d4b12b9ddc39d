/- The walk of the law on AllowsDelays. -/
import Derived.Test.YthcinjlghhfhmaaBdP
namespace Go.Proofs.Ythcinjlghhfhmaa
open Go.RowKit
set_option maxHeartbeats 4000000 in
set_option maxRecDepth 20000 in
theorem lawAllowsDelays_walk (a0 : Option Addr) (len0 cap0 : Nat) (z0 : List (List Int)) (a1 : Option Addr) (len1 cap1 : Nat) (z1 : List (Int × Int)) (a2 : Option Addr) (len2 cap2 : Nat) (z2 : List Int) (W : World) (q0 : IsRows W a0 len0 z0) (q1 : IsIvs W a1 len1 z1) (q2 : IsRow .i64 W a2 len2 cap2 z2) : Calls Try.prog 8 #[.slice a0 len0 cap0, .slice a1 len1 cap1, .slice a2 len2 cap2] W fun e W' => e = .returned (.bool true) ∧ Below W.heap.size W W' := by
  obtain ⟨zs0, hs0⟩ : ∃ zs, SeesM W a0 len0 zs := ⟨_, q0.1⟩
  have hc0 := q0.2
  have HA0 := Lib.hid hs0
  clear hs0 q0
  obtain ⟨zs1, hs1⟩ : ∃ zs, SeesV W a1 len1 zs := ⟨_, q1.1⟩
  have hc1 := q1.2
  have HA1 := Lib.hid hs1
  clear hs1 q1
  obtain ⟨zs2, hs2⟩ : ∃ zs, Sees .i64 W a2 len2 zs := ⟨_, row_sees q2⟩
  have HA2 := Lib.hid hs2
  clear hs2 q2
  obtain ⟨v0, hv0⟩ : ∃ v, v = szV zs0 := ⟨_, rfl⟩
  have HV0 := Lib.hid hv0
  clear hv0
  by_cases hg2 : len2 ≤ 1048576
  case neg =>
    go_enter Try.func8, Try.ntmps8
    go_wp2_with fail
    go_ret
    exact ⟨rfl, Below.refl _ _⟩
  by_cases hg0 : SmallM zs0
  case neg =>
    have hv0 : v0 = -1 := HV0.out.trans (szV_big hg0)
    subst hv0
    go_enter Try.func8, Try.ntmps8
    go_wp2_with fail
    go_at_call 16
    refine (szM_any _ _ _ _ _ (-1) hc0 HA0.out HV0.out).mono ?_
    rintro e w1 ⟨rfl, hb⟩
    have HB1 := Lib.hid hb
    clear hb
    go_wp2_with fail
    go_ret
    exact ⟨rfl, HB1.out⟩
  have HG0 := Lib.hid hg0
  have hv0 : ¬ v0 < 0 := by have h1 := HV0.out; rw [szV_small hg0] at h1; unfold SmallM at hg0; omega
  have ht0 : tot zs0 len0 ≤ 1048576 := by have h1 := HA0.out.1; unfold SmallM at hg0; rw [h1] at hg0; omega
  have hl0 : len0 ≤ 1048576 := by have h1 := HA0.out.1; unfold SmallM at hg0; omega
  clear hg0
  have hv0u : v0 ≤ 1048576 := by have h1 := HV0.out; rw [szV_small HG0.out] at h1; omega
  by_cases hg1 : (len1 : Int) ≤ v0
  case neg =>
    go_enter Try.func8, Try.ntmps8
    go_wp2_with fail
    go_at_call 16
    refine (szM_any _ _ _ _ _ v0 hc0 HA0.out HV0.out).mono ?_
    rintro e w1 ⟨rfl, hb⟩
    have HB1 := Lib.hid hb
    clear hb
    go_wp2_with fail
    go_at_call 17
    refine (szIv_any _ _ _ _ v0 (-1) hc1 (by omega) (by omega) (by rw [if_pos (by omega)])).mono ?_
    rintro e w2 ⟨rfl, rfl⟩
    go_wp2_with fail
    go_ret
    exact ⟨rfl, HB1.out⟩
  have hw1 : ¬ v0 - (len1 : Int) < 0 := by omega
  have hl1 : len1 ≤ 1048576 := by omega
  go_enter Try.func8, Try.ntmps8
  go_wp2_with fail
  go_at_call 16
  refine (szM_any _ _ _ _ _ v0 hc0 HA0.out HV0.out).mono ?_
  rintro e w1 ⟨rfl, hb⟩
  have HB1 := Lib.hid hb
  have HZ1 := Lib.hid hb.size
  have HBW1 := Lib.hid (hb)
  clear hb
  go_wp2_with fail
  go_at_call 17
  refine (szIv_any _ _ _ _ v0 (v0 - len1) hc1 (by omega) (by omega) (by rw [if_neg (by omega)])).mono ?_
  rintro e w2 ⟨rfl, hw⟩
  have hb : Below w1.heap.size w1 w2 := hw ▸ Below.refl _ _
  clear hw
  have HB2 := Lib.hid hb
  have HZ2 := Lib.hid hb.size
  have HBW2 := Lib.hid (below_up HBW1.out hb (Nat.le_refl _))
  clear hb
  go_wp2_with fail
  go_at_call 19
  refine (toM_any _ _ _ _ _ HG0.out (HA0.out.below HBW2.out)).mono ?_
  rintro e w3 ⟨b1, l1, c1, rfl, ho, hb⟩
  obtain rfl : len0 = l1 := HA0.out.1.symm.trans ho.1
  have HO1_3 := Lib.hid ho
  clear ho
  have HB3 := Lib.hid hb
  have HZ3 := Lib.hid hb.size
  have HBW3 := Lib.hid (below_up HBW2.out hb (Nat.le_refl _))
  clear hb
  go_wp2_with fail
  go_at_call 20
  refine (toV_any _ _ _ _ _ (Nat.le_trans hl1 (by decide)) (HA1.out.below HBW3.out)).mono ?_
  rintro e w4 ⟨b2, l2, c2, rfl, ho, hb⟩
  obtain rfl : len1 = l2 := HA1.out.1.symm.trans ho.1
  have HO2_4 := Lib.hid ho
  clear ho
  have HB4 := Lib.hid hb
  have HZ4 := Lib.hid hb.size
  have HBW4 := Lib.hid (below_up HBW3.out hb (Nat.le_refl _))
  clear hb
  go_wp2_with fail
  go_at_call 31
  refine (toI_any _ _ _ _ _ (Nat.le_trans hg2 (by decide)) (HA2.out.below HBW4.out)).mono ?_
  rintro e w5 ⟨b3, l3, c3, rfl, ho, hb⟩
  obtain rfl : len2 = l3 := HA2.out.1.symm.trans ho.1
  have HO3_5 := Lib.hid ho
  clear ho
  have HB5 := Lib.hid hb
  have HZ5 := Lib.hid hb.size
  have HBW5 := Lib.hid (below_up HBW4.out hb (Nat.le_refl _))
  clear hb
  have HO1_4 := Lib.hid (HO1_3.out.below HB4.out)
  have HO1_5 := Lib.hid (HO1_4.out.below HB5.out)
  have HO2_5 := Lib.hid (HO2_4.out.below HB5.out)
  go_wp2_with fail
  go_at_call 30
  refine (specAlw_any _ _ _ _ zs0 _ _ _ zs1 _ _ _ zs2 HG0.out HO1_5.out.sees (Nat.le_trans hl1 (by decide)) HO2_5.out.sees (Nat.le_trans hg2 (by decide)) HO3_5.out.sees).mono ?_
  rintro e w6 ⟨rfl, hb⟩
  have HB6 := Lib.hid hb
  have HZ6 := Lib.hid hb.size
  have HBW6 := Lib.hid (below_up HBW5.out hb (Nat.le_refl _))
  clear hb
  go_wp2_with fail
  go_at_call 19
  refine (toM_any _ _ _ _ _ HG0.out (HA0.out.below HBW6.out)).mono ?_
  rintro e w7 ⟨b4, l4, c4, rfl, ho, hb⟩
  obtain rfl : len0 = l4 := HA0.out.1.symm.trans ho.1
  have HO4_7 := Lib.hid ho
  clear ho
  have HB7 := Lib.hid hb
  have HZ7 := Lib.hid hb.size
  have HBW7 := Lib.hid (below_up HBW6.out hb (Nat.le_refl _))
  clear hb
  go_wp2_with fail
  go_at_call 20
  refine (toV_any _ _ _ _ _ (Nat.le_trans hl1 (by decide)) (HA1.out.below HBW7.out)).mono ?_
  rintro e w8 ⟨b5, l5, c5, rfl, ho, hb⟩
  obtain rfl : len1 = l5 := HA1.out.1.symm.trans ho.1
  have HO5_8 := Lib.hid ho
  clear ho
  have HB8 := Lib.hid hb
  have HZ8 := Lib.hid hb.size
  have HBW8 := Lib.hid (below_up HBW7.out hb (Nat.le_refl _))
  clear hb
  go_wp2_with fail
  go_at_call 31
  refine (toI_any _ _ _ _ _ (Nat.le_trans hg2 (by decide)) (HA2.out.below HBW8.out)).mono ?_
  rintro e w9 ⟨b6, l6, c6, rfl, ho, hb⟩
  obtain rfl : len2 = l6 := HA2.out.1.symm.trans ho.1
  have HO6_9 := Lib.hid ho
  clear ho
  have HB9 := Lib.hid hb
  have HZ9 := Lib.hid hb.size
  have HBW9 := Lib.hid (below_up HBW8.out hb (Nat.le_refl _))
  clear hb
  have HO4_8 := Lib.hid (HO4_7.out.below HB8.out)
  have HO4_9 := Lib.hid (HO4_8.out.below HB9.out)
  have HO5_9 := Lib.hid (HO5_8.out.below HB9.out)
  go_wp2_with fail
  go_at_call 13
  refine (alwP_any _ _ _ _ zs0 _ _ _ zs1 _ _ _ zs2 HG0.out HO4_9.out.sees (Nat.le_trans hl1 (by decide)) HO5_9.out.sees (Nat.le_trans hg2 (by decide)) HO6_9.out.sees).mono ?_
  rintro e w10 ⟨rfl, hb⟩
  have HB10 := Lib.hid hb
  have HZ10 := Lib.hid hb.size
  have HBW10 := Lib.hid (below_up HBW9.out hb (Nat.le_refl _))
  clear hb
  go_wp2_with fail
  go_at_call 19
  refine (toM_any _ _ _ _ _ HG0.out (HA0.out.below HBW10.out)).mono ?_
  rintro e w11 ⟨b7, l7, c7, rfl, ho, hb⟩
  obtain rfl : len0 = l7 := HA0.out.1.symm.trans ho.1
  have HO7_11 := Lib.hid ho
  clear ho
  have HB11 := Lib.hid hb
  have HZ11 := Lib.hid hb.size
  have HBW11 := Lib.hid (below_up HBW10.out hb (Nat.le_refl _))
  clear hb
  have HO4_10 := Lib.hid (HO4_9.out.below HB10.out)
  have HO4_11 := Lib.hid (HO4_10.out.below HB11.out)
  go_wp2_with fail
  go_at_call 22
  refine (eqM_yes _ _ _ _ _ _ _ HG0.out HO4_11.out.sees HO7_11.out.sees).mono ?_
  rintro e w12 ⟨rfl, hb⟩
  have HB12 := Lib.hid hb
  have HZ12 := Lib.hid hb.size
  have HBW12 := Lib.hid (below_up HBW11.out hb (Nat.le_refl _))
  clear hb
  go_wp2_with fail
  go_at_call 20
  refine (toV_any _ _ _ _ _ (Nat.le_trans hl1 (by decide)) (HA1.out.below HBW12.out)).mono ?_
  rintro e w13 ⟨b8, l8, c8, rfl, ho, hb⟩
  obtain rfl : len1 = l8 := HA1.out.1.symm.trans ho.1
  have HO8_13 := Lib.hid ho
  clear ho
  have HB13 := Lib.hid hb
  have HZ13 := Lib.hid hb.size
  have HBW13 := Lib.hid (below_up HBW12.out hb (Nat.le_refl _))
  clear hb
  have HO5_10 := Lib.hid (HO5_9.out.below HB10.out)
  have HO5_11 := Lib.hid (HO5_10.out.below HB11.out)
  have HO5_12 := Lib.hid (HO5_11.out.below HB12.out)
  have HO5_13 := Lib.hid (HO5_12.out.below HB13.out)
  go_wp2_with fail
  go_at_call 23
  refine (eqV_yes _ _ _ _ _ _ _ (Nat.le_trans hl1 (by decide)) HO5_13.out.sees HO8_13.out.sees).mono ?_
  rintro e w14 ⟨rfl, hb⟩
  have HB14 := Lib.hid hb
  have HZ14 := Lib.hid hb.size
  have HBW14 := Lib.hid (below_up HBW13.out hb (Nat.le_refl _))
  clear hb
  go_wp2_with fail
  go_at_call 31
  refine (toI_any _ _ _ _ _ (Nat.le_trans hg2 (by decide)) (HA2.out.below HBW14.out)).mono ?_
  rintro e w15 ⟨b9, l9, c9, rfl, ho, hb⟩
  obtain rfl : len2 = l9 := HA2.out.1.symm.trans ho.1
  have HO9_15 := Lib.hid ho
  clear ho
  have HB15 := Lib.hid hb
  have HZ15 := Lib.hid hb.size
  have HBW15 := Lib.hid (below_up HBW14.out hb (Nat.le_refl _))
  clear hb
  have HO6_10 := Lib.hid (HO6_9.out.below HB10.out)
  have HO6_11 := Lib.hid (HO6_10.out.below HB11.out)
  have HO6_12 := Lib.hid (HO6_11.out.below HB12.out)
  have HO6_13 := Lib.hid (HO6_12.out.below HB13.out)
  have HO6_14 := Lib.hid (HO6_13.out.below HB14.out)
  have HO6_15 := Lib.hid (HO6_14.out.below HB15.out)
  go_wp2_with fail
  go_at_call 32
  refine (eqI_yes _ _ _ _ _ _ _ (Nat.le_trans hg2 (by decide)) HO6_15.out.sees HO9_15.out.sees).mono ?_
  rintro e w16 ⟨rfl, hb⟩
  have HB16 := Lib.hid hb
  have HZ16 := Lib.hid hb.size
  have HBW16 := Lib.hid (below_up HBW15.out hb (Nat.le_refl _))
  clear hb
  go_wp2_with fail
  go_ret
  exact ⟨rfl, HBW16.out⟩
end Go.Proofs.Ythcinjlghhfhmaa
