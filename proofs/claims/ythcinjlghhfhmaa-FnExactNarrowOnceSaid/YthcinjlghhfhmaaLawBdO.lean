/- The walk of the law on NarrowOnce. -/
import Derived.Test.YthcinjlghhfhmaaBdP
namespace Go.Proofs.Ythcinjlghhfhmaa
open Go.RowKit
set_option maxHeartbeats 4000000 in
set_option maxRecDepth 20000 in
theorem lawNarrowOnce_walk (a0 : Option Addr) (len0 cap0 : Nat) (z0 : List (List Int)) (a1 : Option Addr) (len1 cap1 : Nat) (z1 : List (Int × Int)) (a2 : Option Addr) (len2 cap2 : Nat) (z2 : List (Int × Int)) (W : World) (q0 : IsRows W a0 len0 z0) (q1 : IsIvs W a1 len1 z1) (q2 : IsIvs W a2 len2 z2) : Calls Try.prog 6 #[.slice a0 len0 cap0, .slice a1 len1 cap1, .slice a2 len2 cap2] W fun e W' => e = .returned (.bool true) ∧ Below W.heap.size W W' := by
  obtain ⟨zs0, hs0⟩ : ∃ zs, SeesM W a0 len0 zs := ⟨_, q0.1⟩
  have hc0 := q0.2
  have HA0 := Lib.hid hs0
  clear hs0 q0
  obtain ⟨zs1, hs1⟩ : ∃ zs, SeesV W a1 len1 zs := ⟨_, q1.1⟩
  have hc1 := q1.2
  have HA1 := Lib.hid hs1
  clear hs1 q1
  obtain ⟨zs2, hs2⟩ : ∃ zs, SeesV W a2 len2 zs := ⟨_, q2.1⟩
  have hc2 := q2.2
  have HA2 := Lib.hid hs2
  clear hs2 q2
  obtain ⟨v0, hv0⟩ : ∃ v, v = szV zs0 := ⟨_, rfl⟩
  have HV0 := Lib.hid hv0
  clear hv0
  by_cases hg0 : SmallM zs0
  case neg =>
    have hv0 : v0 = -1 := HV0.out.trans (szV_big hg0)
    subst hv0
    go_enter Try.func6, Try.ntmps6
    go_wp2_with fail
    go_at_call 16
    refine (szM_any _ _ _ _ _ (-1) hc0 HA0.out HV0.out).mono ?_
    rintro e w1 ⟨rfl, hb⟩
    have HB1 := Lib.hid hb
    clear hb
    go_wp2_with fail
    go_ret
    exact ⟨rfl, HB1.out⟩
  have HG0 := Lib.hid hg0
  have hv0 : ¬ v0 < 0 := by have h1 := HV0.out; rw [szV_small hg0] at h1; unfold SmallM at hg0; omega
  have ht0 : tot zs0 len0 ≤ 1048576 := by have h1 := HA0.out.1; unfold SmallM at hg0; rw [h1] at hg0; omega
  have hl0 : len0 ≤ 1048576 := by have h1 := HA0.out.1; unfold SmallM at hg0; omega
  clear hg0
  have hv0u : v0 ≤ 1048576 := by have h1 := HV0.out; rw [szV_small HG0.out] at h1; omega
  by_cases hg1 : (len1 : Int) ≤ v0
  case neg =>
    go_enter Try.func6, Try.ntmps6
    go_wp2_with fail
    go_at_call 16
    refine (szM_any _ _ _ _ _ v0 hc0 HA0.out HV0.out).mono ?_
    rintro e w1 ⟨rfl, hb⟩
    have HB1 := Lib.hid hb
    clear hb
    go_wp2_with fail
    go_at_call 17
    refine (szIv_any _ _ _ _ v0 (-1) hc1 (by omega) (by omega) (by rw [if_pos (by omega)])).mono ?_
    rintro e w2 ⟨rfl, rfl⟩
    go_wp2_with fail
    go_ret
    exact ⟨rfl, HB1.out⟩
  have hw1 : ¬ v0 - (len1 : Int) < 0 := by omega
  have hl1 : len1 ≤ 1048576 := by omega
  by_cases hg2 : (len2 : Int) ≤ (v0 - (len1 : Int))
  case neg =>
    go_enter Try.func6, Try.ntmps6
    go_wp2_with fail
    go_at_call 16
    refine (szM_any _ _ _ _ _ v0 hc0 HA0.out HV0.out).mono ?_
    rintro e w1 ⟨rfl, hb⟩
    have HB1 := Lib.hid hb
    clear hb
    go_wp2_with fail
    go_at_call 17
    refine (szIv_any _ _ _ _ v0 (v0 - len1) hc1 (by omega) (by omega) (by rw [if_neg (by omega)])).mono ?_
    rintro e w2 ⟨rfl, rfl⟩
    go_wp2_with fail
    go_at_call 17
    refine (szIv_any _ _ _ _ (v0 - (len1 : Int)) (-1) hc2 (by omega) (by omega) (by rw [if_pos (by omega)])).mono ?_
    rintro e w2 ⟨rfl, rfl⟩
    go_wp2_with fail
    go_ret
    exact ⟨rfl, HB1.out⟩
  have hw2 : ¬ (v0 - (len1 : Int)) - (len2 : Int) < 0 := by omega
  have hl2 : len2 ≤ 1048576 := by omega
  go_enter Try.func6, Try.ntmps6
  go_wp2_with fail
  go_at_call 16
  refine (szM_any _ _ _ _ _ v0 hc0 HA0.out HV0.out).mono ?_
  rintro e w1 ⟨rfl, hb⟩
  have HB1 := Lib.hid hb
  have HZ1 := Lib.hid hb.size
  have HBW1 := Lib.hid (hb)
  clear hb
  go_wp2_with fail
  go_at_call 17
  refine (szIv_any _ _ _ _ v0 (v0 - len1) hc1 (by omega) (by omega) (by rw [if_neg (by omega)])).mono ?_
  rintro e w2 ⟨rfl, hw⟩
  have hb : Below w1.heap.size w1 w2 := hw ▸ Below.refl _ _
  clear hw
  have HB2 := Lib.hid hb
  have HZ2 := Lib.hid hb.size
  have HBW2 := Lib.hid (below_up HBW1.out hb (Nat.le_refl _))
  clear hb
  go_wp2_with fail
  go_at_call 17
  refine (szIv_any _ _ _ _ (v0 - (len1 : Int)) ((v0 - (len1 : Int)) - len2) hc2 (by omega) (by omega) (by rw [if_neg (by omega)])).mono ?_
  rintro e w3 ⟨rfl, hw⟩
  have hb : Below w2.heap.size w2 w3 := hw ▸ Below.refl _ _
  clear hw
  have HB3 := Lib.hid hb
  have HZ3 := Lib.hid hb.size
  have HBW3 := Lib.hid (below_up HBW2.out hb (Nat.le_refl _))
  clear hb
  go_wp2_with fail
  go_at_call 19
  refine (toM_any _ _ _ _ _ HG0.out (HA0.out.below HBW3.out)).mono ?_
  rintro e w4 ⟨b1, l1, c1, rfl, ho, hb⟩
  obtain rfl : len0 = l1 := HA0.out.1.symm.trans ho.1
  have HO1_4 := Lib.hid ho
  clear ho
  have HB4 := Lib.hid hb
  have HZ4 := Lib.hid hb.size
  have HBW4 := Lib.hid (below_up HBW3.out hb (Nat.le_refl _))
  clear hb
  go_wp2_with fail
  go_at_call 20
  refine (toV_any _ _ _ _ _ (Nat.le_trans hl1 (by decide)) (HA1.out.below HBW4.out)).mono ?_
  rintro e w5 ⟨b2, l2, c2, rfl, ho, hb⟩
  obtain rfl : len1 = l2 := HA1.out.1.symm.trans ho.1
  have HO2_5 := Lib.hid ho
  clear ho
  have HB5 := Lib.hid hb
  have HZ5 := Lib.hid hb.size
  have HBW5 := Lib.hid (below_up HBW4.out hb (Nat.le_refl _))
  clear hb
  go_wp2_with fail
  go_at_call 20
  refine (toV_any _ _ _ _ _ (Nat.le_trans hl2 (by decide)) (HA2.out.below HBW5.out)).mono ?_
  rintro e w6 ⟨b3, l3, c3, rfl, ho, hb⟩
  obtain rfl : len2 = l3 := HA2.out.1.symm.trans ho.1
  have HO3_6 := Lib.hid ho
  clear ho
  have HB6 := Lib.hid hb
  have HZ6 := Lib.hid hb.size
  have HBW6 := Lib.hid (below_up HBW5.out hb (Nat.le_refl _))
  clear hb
  have HO1_5 := Lib.hid (HO1_4.out.below HB5.out)
  have HO1_6 := Lib.hid (HO1_5.out.below HB6.out)
  have HO2_6 := Lib.hid (HO2_5.out.below HB6.out)
  go_wp2_with fail
  go_at_call 28
  refine (specOnce_any _ _ _ _ zs0 _ _ _ zs1 _ _ _ zs2 HG0.out HO1_6.out.sees (Nat.le_trans hl1 (by decide)) HO2_6.out.sees (Nat.le_trans hl2 (by decide)) HO3_6.out.sees).mono ?_
  rintro e w7 ⟨b4, l4, c4, rfl, ho, hb⟩
  have hl4 : l4 ≤ 1073741824 := by have h1 := ho.1; have h2 := onceL_le zs0 zs1 zs2; omega
  have HO4_7 := Lib.hid ho
  clear ho
  have HB7 := Lib.hid hb
  have HZ7 := Lib.hid hb.size
  have HBW7 := Lib.hid (below_up HBW6.out hb (Nat.le_refl _))
  clear hb
  have HWL := Lib.hid (HO4_7.out.1)
  go_wp2_with fail
  go_at_call 19
  refine (toM_any _ _ _ _ _ HG0.out (HA0.out.below HBW7.out)).mono ?_
  rintro e w8 ⟨b5, l5, c5, rfl, ho, hb⟩
  obtain rfl : len0 = l5 := HA0.out.1.symm.trans ho.1
  have HO5_8 := Lib.hid ho
  clear ho
  have HB8 := Lib.hid hb
  have HZ8 := Lib.hid hb.size
  have HBW8 := Lib.hid (below_up HBW7.out hb (Nat.le_refl _))
  clear hb
  go_wp2_with fail
  go_at_call 20
  refine (toV_any _ _ _ _ _ (Nat.le_trans hl1 (by decide)) (HA1.out.below HBW8.out)).mono ?_
  rintro e w9 ⟨b6, l6, c6, rfl, ho, hb⟩
  obtain rfl : len1 = l6 := HA1.out.1.symm.trans ho.1
  have HO6_9 := Lib.hid ho
  clear ho
  have HB9 := Lib.hid hb
  have HZ9 := Lib.hid hb.size
  have HBW9 := Lib.hid (below_up HBW8.out hb (Nat.le_refl _))
  clear hb
  go_wp2_with fail
  go_at_call 20
  refine (toV_any _ _ _ _ _ (Nat.le_trans hl2 (by decide)) (HA2.out.below HBW9.out)).mono ?_
  rintro e w10 ⟨b7, l7, c7, rfl, ho, hb⟩
  obtain rfl : len2 = l7 := HA2.out.1.symm.trans ho.1
  have HO7_10 := Lib.hid ho
  clear ho
  have HB10 := Lib.hid hb
  have HZ10 := Lib.hid hb.size
  have HBW10 := Lib.hid (below_up HBW9.out hb (Nat.le_refl _))
  clear hb
  have HO5_9 := Lib.hid (HO5_8.out.below HB9.out)
  have HO5_10 := Lib.hid (HO5_9.out.below HB10.out)
  have HO6_10 := Lib.hid (HO6_9.out.below HB10.out)
  go_wp2_with fail
  go_at_call 14
  refine (onceP_any _ _ _ _ zs0 _ _ _ zs1 _ _ _ zs2 HG0.out HO5_10.out.sees (Nat.le_trans hl1 (by decide)) HO6_10.out.sees (Nat.le_trans hl2 (by decide)) HO7_10.out.sees).mono ?_
  rintro e w11 ⟨b8, l8, c8, rfl, ho, hb⟩
  obtain rfl : l4 = l8 := HWL.out.symm.trans ho.1
  have HO8_11 := Lib.hid ho
  clear ho
  have HB11 := Lib.hid hb
  have HZ11 := Lib.hid hb.size
  have HBW11 := Lib.hid (below_up HBW10.out hb (Nat.le_refl _))
  clear hb
  have HO4_8 := Lib.hid (HO4_7.out.below HB8.out)
  have HO4_9 := Lib.hid (HO4_8.out.below HB9.out)
  have HO4_10 := Lib.hid (HO4_9.out.below HB10.out)
  have HO4_11 := Lib.hid (HO4_10.out.below HB11.out)
  go_wp2_with fail
  go_at_call 23
  refine (eqV_yes _ _ _ _ _ _ _ hl4 HO8_11.out.sees HO4_11.out.sees).mono ?_
  rintro e w12 ⟨rfl, hb⟩
  have HB12 := Lib.hid hb
  have HZ12 := Lib.hid hb.size
  have HBW12 := Lib.hid (below_up HBW11.out hb (Nat.le_refl _))
  clear hb
  go_wp2_with fail
  go_at_call 19
  refine (toM_any _ _ _ _ _ HG0.out (HA0.out.below HBW12.out)).mono ?_
  rintro e w13 ⟨b9, l9, c9, rfl, ho, hb⟩
  obtain rfl : len0 = l9 := HA0.out.1.symm.trans ho.1
  have HO9_13 := Lib.hid ho
  clear ho
  have HB13 := Lib.hid hb
  have HZ13 := Lib.hid hb.size
  have HBW13 := Lib.hid (below_up HBW12.out hb (Nat.le_refl _))
  clear hb
  have HO5_11 := Lib.hid (HO5_10.out.below HB11.out)
  have HO5_12 := Lib.hid (HO5_11.out.below HB12.out)
  have HO5_13 := Lib.hid (HO5_12.out.below HB13.out)
  go_wp2_with fail
  go_at_call 22
  refine (eqM_yes _ _ _ _ _ _ _ HG0.out HO5_13.out.sees HO9_13.out.sees).mono ?_
  rintro e w14 ⟨rfl, hb⟩
  have HB14 := Lib.hid hb
  have HZ14 := Lib.hid hb.size
  have HBW14 := Lib.hid (below_up HBW13.out hb (Nat.le_refl _))
  clear hb
  go_wp2_with fail
  go_at_call 20
  refine (toV_any _ _ _ _ _ (Nat.le_trans hl1 (by decide)) (HA1.out.below HBW14.out)).mono ?_
  rintro e w15 ⟨b10, l10, c10, rfl, ho, hb⟩
  obtain rfl : len1 = l10 := HA1.out.1.symm.trans ho.1
  have HO10_15 := Lib.hid ho
  clear ho
  have HB15 := Lib.hid hb
  have HZ15 := Lib.hid hb.size
  have HBW15 := Lib.hid (below_up HBW14.out hb (Nat.le_refl _))
  clear hb
  have HO6_11 := Lib.hid (HO6_10.out.below HB11.out)
  have HO6_12 := Lib.hid (HO6_11.out.below HB12.out)
  have HO6_13 := Lib.hid (HO6_12.out.below HB13.out)
  have HO6_14 := Lib.hid (HO6_13.out.below HB14.out)
  have HO6_15 := Lib.hid (HO6_14.out.below HB15.out)
  go_wp2_with fail
  go_at_call 23
  refine (eqV_yes _ _ _ _ _ _ _ (Nat.le_trans hl1 (by decide)) HO6_15.out.sees HO10_15.out.sees).mono ?_
  rintro e w16 ⟨rfl, hb⟩
  have HB16 := Lib.hid hb
  have HZ16 := Lib.hid hb.size
  have HBW16 := Lib.hid (below_up HBW15.out hb (Nat.le_refl _))
  clear hb
  go_wp2_with fail
  go_at_call 20
  refine (toV_any _ _ _ _ _ (Nat.le_trans hl2 (by decide)) (HA2.out.below HBW16.out)).mono ?_
  rintro e w17 ⟨b11, l11, c11, rfl, ho, hb⟩
  obtain rfl : len2 = l11 := HA2.out.1.symm.trans ho.1
  have HO11_17 := Lib.hid ho
  clear ho
  have HB17 := Lib.hid hb
  have HZ17 := Lib.hid hb.size
  have HBW17 := Lib.hid (below_up HBW16.out hb (Nat.le_refl _))
  clear hb
  have HO7_11 := Lib.hid (HO7_10.out.below HB11.out)
  have HO7_12 := Lib.hid (HO7_11.out.below HB12.out)
  have HO7_13 := Lib.hid (HO7_12.out.below HB13.out)
  have HO7_14 := Lib.hid (HO7_13.out.below HB14.out)
  have HO7_15 := Lib.hid (HO7_14.out.below HB15.out)
  have HO7_16 := Lib.hid (HO7_15.out.below HB16.out)
  have HO7_17 := Lib.hid (HO7_16.out.below HB17.out)
  go_wp2_with fail
  go_at_call 23
  refine (eqV_yes _ _ _ _ _ _ _ (Nat.le_trans hl2 (by decide)) HO7_17.out.sees HO11_17.out.sees).mono ?_
  rintro e w18 ⟨rfl, hb⟩
  have HB18 := Lib.hid hb
  have HZ18 := Lib.hid hb.size
  have HBW18 := Lib.hid (below_up HBW17.out hb (Nat.le_refl _))
  clear hb
  have HO5_14 := Lib.hid (HO5_13.out.below HB14.out)
  have HO5_15 := Lib.hid (HO5_14.out.below HB15.out)
  have HO5_16 := Lib.hid (HO5_15.out.below HB16.out)
  have HO5_17 := Lib.hid (HO5_16.out.below HB17.out)
  have HO5_18 := Lib.hid (HO5_17.out.below HB18.out)
  go_wp2_with fail
  go_at_call 29
  refine (markM_any _ _ _ _ _ _ _ (1) HG0.out (by omega) (by omega) (Nat.le_trans (Nat.le_trans (Nat.le_trans (Nat.le_trans (Nat.le_trans (Nat.le_trans (Nat.le_trans (Nat.le_trans (Nat.le_trans (Nat.le_trans HZ8.out HZ9.out) HZ10.out) HZ11.out) HZ12.out) HZ13.out) HZ14.out) HZ15.out) HZ16.out) HZ17.out) HZ18.out) HO5_18.out).mono ?_
  rintro e w19 ⟨rfl, ho, hm⟩
  have HM19 := Lib.hid hm
  have HZ19 := Lib.hid hm.size
  have HBW19 := Lib.hid (below_moved HBW18.out hm (Nat.le_refl _) (Nat.le_trans (Nat.le_trans (Nat.le_trans (Nat.le_trans (Nat.le_trans (Nat.le_trans HZ1.out HZ2.out) HZ3.out) HZ4.out) HZ5.out) HZ6.out) HZ7.out))
  have HO5_19 := Lib.hid ho
  clear ho hm
  have HO6_16 := Lib.hid (HO6_15.out.below HB16.out)
  have HO6_17 := Lib.hid (HO6_16.out.below HB17.out)
  have HO6_18 := Lib.hid (HO6_17.out.below HB18.out)
  have HO6_19 := Lib.hid (HO6_18.out.moved HM19.out (.inr (Nat.le_refl _)))
  go_wp2_with fail
  go_at_call 26
  refine (markV_any _ _ _ _ _ _ _ (1 + (tot zs0 len0 : Int)) (Nat.le_trans hl1 (by decide)) (by omega) (by omega) HO6_19.out).mono ?_
  rintro e w20 ⟨rfl, ho, hm⟩
  have HM20 := Lib.hid hm
  have HZ20 := Lib.hid hm.size
  have HBW20 := Lib.hid (below_moved HBW19.out hm (Nat.le_refl _) (Nat.le_trans (Nat.le_trans (Nat.le_trans (Nat.le_trans (Nat.le_trans (Nat.le_trans (Nat.le_trans HZ1.out HZ2.out) HZ3.out) HZ4.out) HZ5.out) HZ6.out) HZ7.out) HZ8.out))
  have HO6_20 := Lib.hid ho
  clear ho hm
  have HO7_18 := Lib.hid (HO7_17.out.below HB18.out)
  have HO7_19 := Lib.hid (HO7_18.out.moved HM19.out (.inr HZ9.out))
  have HO7_20 := Lib.hid (HO7_19.out.moved HM20.out (.inr (Nat.le_refl _)))
  go_wp2_with fail
  go_at_call 26
  refine (markV_any _ _ _ _ _ _ _ (1 + (tot zs0 len0 : Int) + len1 * 2) (Nat.le_trans hl2 (by decide)) (by omega) (by omega) HO7_20.out).mono ?_
  rintro e w21 ⟨rfl, ho, hm⟩
  have HM21 := Lib.hid hm
  have HZ21 := Lib.hid hm.size
  have HBW21 := Lib.hid (below_moved HBW20.out hm (Nat.le_refl _) (Nat.le_trans (Nat.le_trans (Nat.le_trans (Nat.le_trans (Nat.le_trans (Nat.le_trans (Nat.le_trans (Nat.le_trans HZ1.out HZ2.out) HZ3.out) HZ4.out) HZ5.out) HZ6.out) HZ7.out) HZ8.out) HZ9.out))
  have HO7_21 := Lib.hid ho
  clear ho hm
  have HO8_12 := Lib.hid (HO8_11.out.below HB12.out)
  have HO8_13 := Lib.hid (HO8_12.out.below HB13.out)
  have HO8_14 := Lib.hid (HO8_13.out.below HB14.out)
  have HO8_15 := Lib.hid (HO8_14.out.below HB15.out)
  have HO8_16 := Lib.hid (HO8_15.out.below HB16.out)
  have HO8_17 := Lib.hid (HO8_16.out.below HB17.out)
  have HO8_18 := Lib.hid (HO8_17.out.below HB18.out)
  have HO8_19 := Lib.hid (HO8_18.out.moved HM19.out (.inr (Nat.le_trans HZ9.out HZ10.out)))
  have HO8_20 := Lib.hid (HO8_19.out.moved HM20.out (.inr HZ10.out))
  have HO8_21 := Lib.hid (HO8_20.out.moved HM21.out (.inr (Nat.le_refl _)))
  have HO4_12 := Lib.hid (HO4_11.out.below HB12.out)
  have HO4_13 := Lib.hid (HO4_12.out.below HB13.out)
  have HO4_14 := Lib.hid (HO4_13.out.below HB14.out)
  have HO4_15 := Lib.hid (HO4_14.out.below HB15.out)
  have HO4_16 := Lib.hid (HO4_15.out.below HB16.out)
  have HO4_17 := Lib.hid (HO4_16.out.below HB17.out)
  have HO4_18 := Lib.hid (HO4_17.out.below HB18.out)
  have HO4_19 := Lib.hid (HO4_18.out.moved HM19.out (.inl (Nat.le_refl _)))
  have HO4_20 := Lib.hid (HO4_19.out.moved HM20.out (.inl HZ8.out))
  have HO4_21 := Lib.hid (HO4_20.out.moved HM21.out (.inl (Nat.le_trans HZ8.out HZ9.out)))
  go_wp2_with fail
  go_at_call 23
  refine (eqV_yes _ _ _ _ _ _ _ hl4 HO8_21.out.sees HO4_21.out.sees).mono ?_
  rintro e w22 ⟨rfl, hb⟩
  have HB22 := Lib.hid hb
  have HZ22 := Lib.hid hb.size
  have HBW22 := Lib.hid (below_up HBW21.out hb (Nat.le_refl _))
  clear hb
  have HO8_22 := Lib.hid (HO8_21.out.below HB22.out)
  go_wp2_with fail
  go_at_call 26
  refine (markV_any _ _ _ _ _ _ _ 1 hl4 (by omega) (by omega) HO8_22.out).mono ?_
  rintro e w23 ⟨rfl, ho, hm⟩
  have HM23 := Lib.hid hm
  have HZ23 := Lib.hid hm.size
  have HBW23 := Lib.hid (below_moved HBW22.out hm (Nat.le_refl _) (Nat.le_trans (Nat.le_trans (Nat.le_trans (Nat.le_trans (Nat.le_trans (Nat.le_trans (Nat.le_trans (Nat.le_trans (Nat.le_trans HZ1.out HZ2.out) HZ3.out) HZ4.out) HZ5.out) HZ6.out) HZ7.out) HZ8.out) HZ9.out) HZ10.out))
  have HO8_23 := Lib.hid ho
  clear ho hm
  go_wp2_with fail
  go_at_call 27
  refine (heldV_any _ _ _ _ 1 hl4 (by omega) (by omega) HO8_23.out.sees).mono ?_
  rintro e w24 ⟨rfl, hb⟩
  have HB24 := Lib.hid hb
  have HZ24 := Lib.hid hb.size
  have HBW24 := Lib.hid (below_up HBW23.out hb (Nat.le_refl _))
  clear hb
  go_wp2_with fail
  go_at_call 19
  refine (toM_any _ _ _ _ _ HG0.out (HA0.out.below HBW24.out)).mono ?_
  rintro e w25 ⟨b12, l12, c12, rfl, ho, hb⟩
  obtain rfl : len0 = l12 := HA0.out.1.symm.trans ho.1
  have HO12_25 := Lib.hid ho
  clear ho
  have HB25 := Lib.hid hb
  have HZ25 := Lib.hid hb.size
  have HBW25 := Lib.hid (below_up HBW24.out hb (Nat.le_refl _))
  clear hb
  go_wp2_with fail
  go_at_call 20
  refine (toV_any _ _ _ _ _ (Nat.le_trans hl1 (by decide)) (HA1.out.below HBW25.out)).mono ?_
  rintro e w26 ⟨b13, l13, c13, rfl, ho, hb⟩
  obtain rfl : len1 = l13 := HA1.out.1.symm.trans ho.1
  have HO13_26 := Lib.hid ho
  clear ho
  have HB26 := Lib.hid hb
  have HZ26 := Lib.hid hb.size
  have HBW26 := Lib.hid (below_up HBW25.out hb (Nat.le_refl _))
  clear hb
  go_wp2_with fail
  go_at_call 20
  refine (toV_any _ _ _ _ _ (Nat.le_trans hl2 (by decide)) (HA2.out.below HBW26.out)).mono ?_
  rintro e w27 ⟨b14, l14, c14, rfl, ho, hb⟩
  obtain rfl : len2 = l14 := HA2.out.1.symm.trans ho.1
  have HO14_27 := Lib.hid ho
  clear ho
  have HB27 := Lib.hid hb
  have HZ27 := Lib.hid hb.size
  have HBW27 := Lib.hid (below_up HBW26.out hb (Nat.le_refl _))
  clear hb
  have HO12_26 := Lib.hid (HO12_25.out.below HB26.out)
  have HO12_27 := Lib.hid (HO12_26.out.below HB27.out)
  have HO13_27 := Lib.hid (HO13_26.out.below HB27.out)
  go_wp2_with fail
  go_at_call 14
  refine (onceP_any _ _ _ _ zs0 _ _ _ zs1 _ _ _ zs2 HG0.out HO12_27.out.sees (Nat.le_trans hl1 (by decide)) HO13_27.out.sees (Nat.le_trans hl2 (by decide)) HO14_27.out.sees).mono ?_
  rintro e w28 ⟨b15, l15, c15, rfl, ho, hb⟩
  obtain rfl : l4 = l15 := HWL.out.symm.trans ho.1
  have HO15_28 := Lib.hid ho
  clear ho
  have HB28 := Lib.hid hb
  have HZ28 := Lib.hid hb.size
  have HBW28 := Lib.hid (below_up HBW27.out hb (Nat.le_refl _))
  clear hb
  have HO4_22 := Lib.hid (HO4_21.out.below HB22.out)
  have HO4_23 := Lib.hid (HO4_22.out.moved HM23.out (.inl (Nat.le_trans (Nat.le_trans HZ8.out HZ9.out) HZ10.out)))
  have HO4_24 := Lib.hid (HO4_23.out.below HB24.out)
  have HO4_25 := Lib.hid (HO4_24.out.below HB25.out)
  have HO4_26 := Lib.hid (HO4_25.out.below HB26.out)
  have HO4_27 := Lib.hid (HO4_26.out.below HB27.out)
  have HO4_28 := Lib.hid (HO4_27.out.below HB28.out)
  go_wp2_with fail
  go_at_call 23
  refine (eqV_yes _ _ _ _ _ _ _ hl4 HO15_28.out.sees HO4_28.out.sees).mono ?_
  rintro e w29 ⟨rfl, hb⟩
  have HB29 := Lib.hid hb
  have HZ29 := Lib.hid hb.size
  have HBW29 := Lib.hid (below_up HBW28.out hb (Nat.le_refl _))
  clear hb
  have HO8_24 := Lib.hid (HO8_23.out.below HB24.out)
  have HO8_25 := Lib.hid (HO8_24.out.below HB25.out)
  have HO8_26 := Lib.hid (HO8_25.out.below HB26.out)
  have HO8_27 := Lib.hid (HO8_26.out.below HB27.out)
  have HO8_28 := Lib.hid (HO8_27.out.below HB28.out)
  have HO8_29 := Lib.hid (HO8_28.out.below HB29.out)
  go_wp2_with fail
  go_at_call 27
  refine (heldV_any _ _ _ _ 1 hl4 (by omega) (by omega) HO8_29.out.sees).mono ?_
  rintro e w30 ⟨rfl, hb⟩
  have HB30 := Lib.hid hb
  have HZ30 := Lib.hid hb.size
  have HBW30 := Lib.hid (below_up HBW29.out hb (Nat.le_refl _))
  clear hb
  go_wp2_with fail
  go_ret
  exact ⟨rfl, HBW30.out⟩
end Go.Proofs.Ythcinjlghhfhmaa
