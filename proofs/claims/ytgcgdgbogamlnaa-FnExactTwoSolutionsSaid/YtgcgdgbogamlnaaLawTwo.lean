/- The walk of the law on TwoSolutions. -/
import Derived.Test.YtgcgdgbogamlnaaTwoB
namespace Go.Proofs.Ytgcgdgbogamlnaa
open Go.RowKit
set_option maxHeartbeats 4000000 in
set_option maxRecDepth 20000 in
theorem lawTwoSolutions_walk (a0 : Option Addr) (len0 cap0 : Nat) (z0 : List (List Int)) (a1 : Option Addr) (len1 cap1 : Nat) (z1 : List Int) (a2 : Option Addr) (len2 cap2 : Nat) (z2 : List Int) (W : World) (q0 : IsRows W a0 len0 z0) (q1 : IsRow .i64 W a1 len1 cap1 z1) (q2 : IsRow .i64 W a2 len2 cap2 z2) : Calls Try.prog 9 #[.slice a0 len0 cap0, .slice a1 len1 cap1, .slice a2 len2 cap2] W fun e W' => e = .returned (.bool true) ∧ Below W.heap.size W W' := by
  obtain ⟨zs0, hs0⟩ : ∃ zs, SeesM W a0 len0 zs := ⟨_, q0.1⟩
  have hc0 := q0.2
  have HA0 := Lib.hid hs0
  clear hs0 q0
  obtain ⟨zs1, hs1⟩ : ∃ zs, Sees .i64 W a1 len1 zs := ⟨_, row_sees q1⟩
  have HA1 := Lib.hid hs1
  clear hs1 q1
  obtain ⟨zs2, hs2⟩ : ∃ zs, Sees .i64 W a2 len2 zs := ⟨_, row_sees q2⟩
  have HA2 := Lib.hid hs2
  clear hs2 q2
  obtain ⟨v0, hv0⟩ : ∃ v, v = szV zs0 := ⟨_, rfl⟩
  have HV0 := Lib.hid hv0
  clear hv0
  by_cases hg1 : len1 ≤ 1048576
  case neg =>
    go_enter Try.func9, Try.ntmps9
    go_wp2_with fail
    go_ret
    exact ⟨rfl, Below.refl _ _⟩
  by_cases hg2 : len2 ≤ 1048576
  case neg =>
    go_enter Try.func9, Try.ntmps9
    go_wp2_with fail
    go_ret
    exact ⟨rfl, Below.refl _ _⟩
  by_cases hg0 : SmallM zs0
  case neg =>
    have hv0 : v0 = -1 := HV0.out.trans (szV_big hg0)
    subst hv0
    go_enter Try.func9, Try.ntmps9
    go_wp2_with fail
    go_at_call 20
    refine (szM_any _ _ _ _ _ (-1) hc0 HA0.out HV0.out).mono ?_
    rintro e w1 ⟨rfl, hb⟩
    have HB1 := Lib.hid hb
    clear hb
    go_wp2_with fail
    go_ret
    exact ⟨rfl, HB1.out⟩
  have HG0 := Lib.hid hg0
  have hv0 : ¬ v0 < 0 := by have h1 := HV0.out; rw [szV_small hg0] at h1; unfold SmallM at hg0; omega
  have ht0 : tot zs0 len0 ≤ 1048576 := by have h1 := HA0.out.1; unfold SmallM at hg0; rw [h1] at hg0; omega
  have hl0 : len0 ≤ 1048576 := by have h1 := HA0.out.1; unfold SmallM at hg0; omega
  clear hg0
  go_enter Try.func9, Try.ntmps9
  go_wp2_with fail
  go_at_call 20
  refine (szM_any _ _ _ _ _ v0 hc0 HA0.out HV0.out).mono ?_
  rintro e w1 ⟨rfl, hb⟩
  have HB1 := Lib.hid hb
  have HZ1 := Lib.hid hb.size
  have HBW1 := Lib.hid (hb)
  clear hb
  go_wp2_with fail
  go_at_call 22
  refine (toM_any _ _ _ _ _ HG0.out (HA0.out.below HBW1.out)).mono ?_
  rintro e w2 ⟨b1, l1, c1, rfl, ho, hb⟩
  obtain rfl : len0 = l1 := HA0.out.1.symm.trans ho.1
  have HO1_2 := Lib.hid ho
  clear ho
  have HB2 := Lib.hid hb
  have HZ2 := Lib.hid hb.size
  have HBW2 := Lib.hid (below_up HBW1.out hb (Nat.le_refl _))
  clear hb
  go_wp2_with fail
  go_at_call 23
  refine (toI_any _ _ _ _ _ (Nat.le_trans hg1 (by decide)) (HA1.out.below HBW2.out)).mono ?_
  rintro e w3 ⟨b2, l2, c2, rfl, ho, hb⟩
  obtain rfl : len1 = l2 := HA1.out.1.symm.trans ho.1
  have HO2_3 := Lib.hid ho
  clear ho
  have HB3 := Lib.hid hb
  have HZ3 := Lib.hid hb.size
  have HBW3 := Lib.hid (below_up HBW2.out hb (Nat.le_refl _))
  clear hb
  go_wp2_with fail
  go_at_call 23
  refine (toI_any _ _ _ _ _ (Nat.le_trans hg2 (by decide)) (HA2.out.below HBW3.out)).mono ?_
  rintro e w4 ⟨b3, l3, c3, rfl, ho, hb⟩
  obtain rfl : len2 = l3 := HA2.out.1.symm.trans ho.1
  have HO3_4 := Lib.hid ho
  clear ho
  have HB4 := Lib.hid hb
  have HZ4 := Lib.hid hb.size
  have HBW4 := Lib.hid (below_up HBW3.out hb (Nat.le_refl _))
  clear hb
  have HO1_3 := Lib.hid (HO1_2.out.below HB3.out)
  have HO1_4 := Lib.hid (HO1_3.out.below HB4.out)
  have HO2_4 := Lib.hid (HO2_3.out.below HB4.out)
  go_wp2_with fail
  go_at_call 38
  refine (specTwo_any _ _ _ _ zs0 _ _ _ zs1 _ _ _ zs2 HG0.out HO1_4.out.sees (Nat.le_trans hg1 (by decide)) HO2_4.out.sees (Nat.le_trans hg2 (by decide)) HO3_4.out.cap HO3_4.out.capMax HO3_4.out.sees).mono ?_
  rintro e w5 ⟨b4, l4, c4, b5, l5, c5, H5, rfl, hh1, hh2, ho4, ho5, hb⟩
  have HH5 := Lib.hid (And.intro hh1 hh2)
  clear hh1 hh2
  have hl4 : l4 ≤ 1073741824 := by have h1 := ho4.1; have h2 := twoX_le zs0 zs1 zs2; omega
  have HO4_5 := Lib.hid ho4
  clear ho4
  have hl5 : l5 ≤ 1073741824 := by have h1 := ho5.1; have h2 := twoY_le zs0 zs1 zs2; omega
  have HO5_5 := Lib.hid ho5
  clear ho5
  have HB5 := Lib.hid hb
  have HZ5 := Lib.hid hb.size
  have HBW5 := Lib.hid (below_up HBW4.out hb (Nat.le_refl _))
  clear hb
  have HWL0 := Lib.hid (HO4_5.out.1)
  have HWL1 := Lib.hid (HO5_5.out.1)
  go_wp2_with fail
  go_at_call 22
  refine (toM_any _ _ _ _ _ HG0.out (HA0.out.below HBW5.out)).mono ?_
  rintro e w6 ⟨b6, l6, c6, rfl, ho, hb⟩
  obtain rfl : len0 = l6 := HA0.out.1.symm.trans ho.1
  have HO6_6 := Lib.hid ho
  clear ho
  have HB6 := Lib.hid hb
  have HZ6 := Lib.hid hb.size
  have HBW6 := Lib.hid (below_up HBW5.out hb (Nat.le_refl _))
  clear hb
  go_wp2_with fail
  go_at_call 23
  refine (toI_any _ _ _ _ _ (Nat.le_trans hg1 (by decide)) (HA1.out.below HBW6.out)).mono ?_
  rintro e w7 ⟨b7, l7, c7, rfl, ho, hb⟩
  obtain rfl : len1 = l7 := HA1.out.1.symm.trans ho.1
  have HO7_7 := Lib.hid ho
  clear ho
  have HB7 := Lib.hid hb
  have HZ7 := Lib.hid hb.size
  have HBW7 := Lib.hid (below_up HBW6.out hb (Nat.le_refl _))
  clear hb
  go_wp2_with fail
  go_at_call 23
  refine (toI_any _ _ _ _ _ (Nat.le_trans hg2 (by decide)) (HA2.out.below HBW7.out)).mono ?_
  rintro e w8 ⟨b8, l8, c8, rfl, ho, hb⟩
  obtain rfl : len2 = l8 := HA2.out.1.symm.trans ho.1
  have HO8_8 := Lib.hid ho
  clear ho
  have HB8 := Lib.hid hb
  have HZ8 := Lib.hid hb.size
  have HBW8 := Lib.hid (below_up HBW7.out hb (Nat.le_refl _))
  clear hb
  have HO6_7 := Lib.hid (HO6_6.out.below HB7.out)
  have HO6_8 := Lib.hid (HO6_7.out.below HB8.out)
  have HO7_8 := Lib.hid (HO7_7.out.below HB8.out)
  go_wp2_with fail
  go_at_call 17
  refine (twoP_any _ _ _ _ zs0 _ _ _ zs1 _ _ _ zs2 HG0.out HO6_8.out.sees (Nat.le_trans hg1 (by decide)) HO7_8.out.cap HO7_8.out.capMax HO7_8.out.sees (Nat.le_trans hg2 (by decide)) HO8_8.out.cap HO8_8.out.capMax HO8_8.out.sees).mono ?_
  rintro e w9 ⟨b9, l9, c9, b10, l10, c10, H9, rfl, hh1, hh2, ho9, ho10, hb⟩
  have HH9 := Lib.hid (And.intro hh1 hh2)
  clear hh1 hh2
  obtain rfl : l4 = l9 := HWL0.out.symm.trans ho9.1
  have HO9_9 := Lib.hid ho9
  clear ho9
  obtain rfl : l5 = l10 := HWL1.out.symm.trans ho10.1
  have HO10_9 := Lib.hid ho10
  clear ho10
  have HB9 := Lib.hid hb
  have HZ9 := Lib.hid hb.size
  have HBW9 := Lib.hid (below_up HBW8.out hb (Nat.le_refl _))
  clear hb
  have HO4_6 := Lib.hid (HO4_5.out.below HB6.out)
  have HO4_7 := Lib.hid (HO4_6.out.below HB7.out)
  have HO4_8 := Lib.hid (HO4_7.out.below HB8.out)
  have HO4_9 := Lib.hid (HO4_8.out.below HB9.out)
  go_wp2_with fail
  go_at_call 30
  refine (eqR_yes _ _ _ _ _ _ _ hl4 HO9_9.out.sees HO4_9.out.sees).mono ?_
  rintro e w10 ⟨rfl, hb⟩
  have HB10 := Lib.hid hb
  have HZ10 := Lib.hid hb.size
  have HBW10 := Lib.hid (below_up HBW9.out hb (Nat.le_refl _))
  clear hb
  have HO10_10 := Lib.hid (HO10_9.out.below HB10.out)
  have HO5_6 := Lib.hid (HO5_5.out.below HB6.out)
  have HO5_7 := Lib.hid (HO5_6.out.below HB7.out)
  have HO5_8 := Lib.hid (HO5_7.out.below HB8.out)
  have HO5_9 := Lib.hid (HO5_8.out.below HB9.out)
  have HO5_10 := Lib.hid (HO5_9.out.below HB10.out)
  go_wp2_with fail
  go_at_call 30
  refine (eqR_yes _ _ _ _ _ _ _ hl5 HO10_10.out.sees HO5_10.out.sees).mono ?_
  rintro e w11 ⟨rfl, hb⟩
  have HB11 := Lib.hid hb
  have HZ11 := Lib.hid hb.size
  have HBW11 := Lib.hid (below_up HBW10.out hb (Nat.le_refl _))
  clear hb
  go_wp2_with fail
  go_at_call 22
  refine (toM_any _ _ _ _ _ HG0.out (HA0.out.below HBW11.out)).mono ?_
  rintro e w12 ⟨b11, l11, c11, rfl, ho, hb⟩
  obtain rfl : len0 = l11 := HA0.out.1.symm.trans ho.1
  have HO11_12 := Lib.hid ho
  clear ho
  have HB12 := Lib.hid hb
  have HZ12 := Lib.hid hb.size
  have HBW12 := Lib.hid (below_up HBW11.out hb (Nat.le_refl _))
  clear hb
  have HO6_9 := Lib.hid (HO6_8.out.below HB9.out)
  have HO6_10 := Lib.hid (HO6_9.out.below HB10.out)
  have HO6_11 := Lib.hid (HO6_10.out.below HB11.out)
  have HO6_12 := Lib.hid (HO6_11.out.below HB12.out)
  go_wp2_with fail
  go_at_call 25
  refine (eqM_yes _ _ _ _ _ _ _ HG0.out HO6_12.out.sees HO11_12.out.sees).mono ?_
  rintro e w13 ⟨rfl, hb⟩
  have HB13 := Lib.hid hb
  have HZ13 := Lib.hid hb.size
  have HBW13 := Lib.hid (below_up HBW12.out hb (Nat.le_refl _))
  clear hb
  go_wp2_with fail
  go_at_call 23
  refine (toI_any _ _ _ _ _ (Nat.le_trans hg1 (by decide)) (HA1.out.below HBW13.out)).mono ?_
  rintro e w14 ⟨b12, l12, c12, rfl, ho, hb⟩
  obtain rfl : len1 = l12 := HA1.out.1.symm.trans ho.1
  have HO12_14 := Lib.hid ho
  clear ho
  have HB14 := Lib.hid hb
  have HZ14 := Lib.hid hb.size
  have HBW14 := Lib.hid (below_up HBW13.out hb (Nat.le_refl _))
  clear hb
  have HO7_9 := Lib.hid (HO7_8.out.below HB9.out)
  have HO7_10 := Lib.hid (HO7_9.out.below HB10.out)
  have HO7_11 := Lib.hid (HO7_10.out.below HB11.out)
  have HO7_12 := Lib.hid (HO7_11.out.below HB12.out)
  have HO7_13 := Lib.hid (HO7_12.out.below HB13.out)
  have HO7_14 := Lib.hid (HO7_13.out.below HB14.out)
  go_wp2_with fail
  go_at_call 26
  refine (eqI_yes _ _ _ _ _ _ _ (Nat.le_trans hg1 (by decide)) HO7_14.out.sees HO12_14.out.sees).mono ?_
  rintro e w15 ⟨rfl, hb⟩
  have HB15 := Lib.hid hb
  have HZ15 := Lib.hid hb.size
  have HBW15 := Lib.hid (below_up HBW14.out hb (Nat.le_refl _))
  clear hb
  go_wp2_with fail
  go_at_call 23
  refine (toI_any _ _ _ _ _ (Nat.le_trans hg2 (by decide)) (HA2.out.below HBW15.out)).mono ?_
  rintro e w16 ⟨b13, l13, c13, rfl, ho, hb⟩
  obtain rfl : len2 = l13 := HA2.out.1.symm.trans ho.1
  have HO13_16 := Lib.hid ho
  clear ho
  have HB16 := Lib.hid hb
  have HZ16 := Lib.hid hb.size
  have HBW16 := Lib.hid (below_up HBW15.out hb (Nat.le_refl _))
  clear hb
  have HO8_9 := Lib.hid (HO8_8.out.below HB9.out)
  have HO8_10 := Lib.hid (HO8_9.out.below HB10.out)
  have HO8_11 := Lib.hid (HO8_10.out.below HB11.out)
  have HO8_12 := Lib.hid (HO8_11.out.below HB12.out)
  have HO8_13 := Lib.hid (HO8_12.out.below HB13.out)
  have HO8_14 := Lib.hid (HO8_13.out.below HB14.out)
  have HO8_15 := Lib.hid (HO8_14.out.below HB15.out)
  have HO8_16 := Lib.hid (HO8_15.out.below HB16.out)
  go_wp2_with fail
  go_at_call 26
  refine (eqI_yes _ _ _ _ _ _ _ (Nat.le_trans hg2 (by decide)) HO8_16.out.sees HO13_16.out.sees).mono ?_
  rintro e w17 ⟨rfl, hb⟩
  have HB17 := Lib.hid hb
  have HZ17 := Lib.hid hb.size
  have HBW17 := Lib.hid (below_up HBW16.out hb (Nat.le_refl _))
  clear hb
  have HO6_13 := Lib.hid (HO6_12.out.below HB13.out)
  have HO6_14 := Lib.hid (HO6_13.out.below HB14.out)
  have HO6_15 := Lib.hid (HO6_14.out.below HB15.out)
  have HO6_16 := Lib.hid (HO6_15.out.below HB16.out)
  have HO6_17 := Lib.hid (HO6_16.out.below HB17.out)
  go_wp2_with fail
  go_at_call 31
  refine (markM_any _ _ _ _ _ _ _ (1) HG0.out (by omega) (by omega) (Nat.le_trans (Nat.le_trans (Nat.le_trans (Nat.le_trans (Nat.le_trans (Nat.le_trans (Nat.le_trans (Nat.le_trans (Nat.le_trans (Nat.le_trans (Nat.le_trans HZ6.out HZ7.out) HZ8.out) HZ9.out) HZ10.out) HZ11.out) HZ12.out) HZ13.out) HZ14.out) HZ15.out) HZ16.out) HZ17.out) HO6_17.out).mono ?_
  rintro e w18 ⟨rfl, ho, hm⟩
  have HM18 := Lib.hid hm
  have HZ18 := Lib.hid hm.size
  have HBW18 := Lib.hid (below_moved HBW17.out hm (Nat.le_refl _) (Nat.le_trans (Nat.le_trans (Nat.le_trans (Nat.le_trans HZ1.out HZ2.out) HZ3.out) HZ4.out) HZ5.out))
  have HO6_18 := Lib.hid ho
  clear ho hm
  have HO7_15 := Lib.hid (HO7_14.out.below HB15.out)
  have HO7_16 := Lib.hid (HO7_15.out.below HB16.out)
  have HO7_17 := Lib.hid (HO7_16.out.below HB17.out)
  have HO7_18 := Lib.hid (HO7_17.out.moved HM18.out (.inr (Nat.le_refl _)))
  go_wp2_with fail
  go_at_call 32
  refine (markI_any _ _ _ _ _ _ _ (1 + (tot zs0 len0 : Int)) (Nat.le_trans hg1 (by decide)) (by omega) (by omega) HO7_18.out).mono ?_
  rintro e w19 ⟨rfl, ho, hm⟩
  have HM19 := Lib.hid hm
  have HZ19 := Lib.hid hm.size
  have HBW19 := Lib.hid (below_moved HBW18.out hm (Nat.le_refl _) (Nat.le_trans (Nat.le_trans (Nat.le_trans (Nat.le_trans (Nat.le_trans HZ1.out HZ2.out) HZ3.out) HZ4.out) HZ5.out) HZ6.out))
  have HO7_19 := Lib.hid ho
  clear ho hm
  have HO8_17 := Lib.hid (HO8_16.out.below HB17.out)
  have HO8_18 := Lib.hid (HO8_17.out.moved HM18.out (.inr HZ7.out))
  have HO8_19 := Lib.hid (HO8_18.out.moved HM19.out (.inr (Nat.le_refl _)))
  go_wp2_with fail
  go_at_call 32
  refine (markI_any _ _ _ _ _ _ _ (1 + (tot zs0 len0 : Int) + len1) (Nat.le_trans hg2 (by decide)) (by omega) (by omega) HO8_19.out).mono ?_
  rintro e w20 ⟨rfl, ho, hm⟩
  have HM20 := Lib.hid hm
  have HZ20 := Lib.hid hm.size
  have HBW20 := Lib.hid (below_moved HBW19.out hm (Nat.le_refl _) (Nat.le_trans (Nat.le_trans (Nat.le_trans (Nat.le_trans (Nat.le_trans (Nat.le_trans HZ1.out HZ2.out) HZ3.out) HZ4.out) HZ5.out) HZ6.out) HZ7.out))
  have HO8_20 := Lib.hid ho
  clear ho hm
  have HO9_10 := Lib.hid (HO9_9.out.below HB10.out)
  have HO9_11 := Lib.hid (HO9_10.out.below HB11.out)
  have HO9_12 := Lib.hid (HO9_11.out.below HB12.out)
  have HO9_13 := Lib.hid (HO9_12.out.below HB13.out)
  have HO9_14 := Lib.hid (HO9_13.out.below HB14.out)
  have HO9_15 := Lib.hid (HO9_14.out.below HB15.out)
  have HO9_16 := Lib.hid (HO9_15.out.below HB16.out)
  have HO9_17 := Lib.hid (HO9_16.out.below HB17.out)
  have HO9_18 := Lib.hid (HO9_17.out.moved HM18.out (.inr (Nat.le_trans HZ7.out HZ8.out)))
  have HO9_19 := Lib.hid (HO9_18.out.moved HM19.out (.inr HZ8.out))
  have HO9_20 := Lib.hid (HO9_19.out.moved HM20.out (.inr (Nat.le_refl _)))
  have HO4_10 := Lib.hid (HO4_9.out.below HB10.out)
  have HO4_11 := Lib.hid (HO4_10.out.below HB11.out)
  have HO4_12 := Lib.hid (HO4_11.out.below HB12.out)
  have HO4_13 := Lib.hid (HO4_12.out.below HB13.out)
  have HO4_14 := Lib.hid (HO4_13.out.below HB14.out)
  have HO4_15 := Lib.hid (HO4_14.out.below HB15.out)
  have HO4_16 := Lib.hid (HO4_15.out.below HB16.out)
  have HO4_17 := Lib.hid (HO4_16.out.below HB17.out)
  have HO4_18 := Lib.hid (HO4_17.out.moved HM18.out (.inl HH5.out.2))
  have HO4_19 := Lib.hid (HO4_18.out.moved HM19.out (.inl (Nat.le_trans HH5.out.2 HZ6.out)))
  have HO4_20 := Lib.hid (HO4_19.out.moved HM20.out (.inl (Nat.le_trans (Nat.le_trans HH5.out.2 HZ6.out) HZ7.out)))
  go_wp2_with fail
  go_at_call 30
  refine (eqR_yes _ _ _ _ _ _ _ hl4 HO9_20.out.sees HO4_20.out.sees).mono ?_
  rintro e w21 ⟨rfl, hb⟩
  have HB21 := Lib.hid hb
  have HZ21 := Lib.hid hb.size
  have HBW21 := Lib.hid (below_up HBW20.out hb (Nat.le_refl _))
  clear hb
  have HO10_11 := Lib.hid (HO10_10.out.below HB11.out)
  have HO10_12 := Lib.hid (HO10_11.out.below HB12.out)
  have HO10_13 := Lib.hid (HO10_12.out.below HB13.out)
  have HO10_14 := Lib.hid (HO10_13.out.below HB14.out)
  have HO10_15 := Lib.hid (HO10_14.out.below HB15.out)
  have HO10_16 := Lib.hid (HO10_15.out.below HB16.out)
  have HO10_17 := Lib.hid (HO10_16.out.below HB17.out)
  have HO10_18 := Lib.hid (HO10_17.out.moved HM18.out (.inr (Nat.le_trans (Nat.le_trans HZ7.out HZ8.out) HH9.out.1)))
  have HO10_19 := Lib.hid (HO10_18.out.moved HM19.out (.inr (Nat.le_trans HZ8.out HH9.out.1)))
  have HO10_20 := Lib.hid (HO10_19.out.moved HM20.out (.inr HH9.out.1))
  have HO10_21 := Lib.hid (HO10_20.out.below HB21.out)
  have HO5_11 := Lib.hid (HO5_10.out.below HB11.out)
  have HO5_12 := Lib.hid (HO5_11.out.below HB12.out)
  have HO5_13 := Lib.hid (HO5_12.out.below HB13.out)
  have HO5_14 := Lib.hid (HO5_13.out.below HB14.out)
  have HO5_15 := Lib.hid (HO5_14.out.below HB15.out)
  have HO5_16 := Lib.hid (HO5_15.out.below HB16.out)
  have HO5_17 := Lib.hid (HO5_16.out.below HB17.out)
  have HO5_18 := Lib.hid (HO5_17.out.moved HM18.out (.inl (Nat.le_refl _)))
  have HO5_19 := Lib.hid (HO5_18.out.moved HM19.out (.inl HZ6.out))
  have HO5_20 := Lib.hid (HO5_19.out.moved HM20.out (.inl (Nat.le_trans HZ6.out HZ7.out)))
  have HO5_21 := Lib.hid (HO5_20.out.below HB21.out)
  go_wp2_with fail
  go_at_call 30
  refine (eqR_yes _ _ _ _ _ _ _ hl5 HO10_21.out.sees HO5_21.out.sees).mono ?_
  rintro e w22 ⟨rfl, hb⟩
  have HB22 := Lib.hid hb
  have HZ22 := Lib.hid hb.size
  have HBW22 := Lib.hid (below_up HBW21.out hb (Nat.le_refl _))
  clear hb
  have HO9_21 := Lib.hid (HO9_20.out.below HB21.out)
  have HO9_22 := Lib.hid (HO9_21.out.below HB22.out)
  go_wp2_with fail
  go_at_call 33
  refine (markR_any _ _ _ _ _ _ _ 1 hl4 (by omega) (by omega) HO9_22.out).mono ?_
  rintro e w23 ⟨rfl, ho, hm⟩
  have HM23 := Lib.hid hm
  have HZ23 := Lib.hid hm.size
  have HBW23 := Lib.hid (below_moved HBW22.out hm (Nat.le_refl _) (Nat.le_trans (Nat.le_trans (Nat.le_trans (Nat.le_trans (Nat.le_trans (Nat.le_trans (Nat.le_trans HZ1.out HZ2.out) HZ3.out) HZ4.out) HZ5.out) HZ6.out) HZ7.out) HZ8.out))
  have HO9_23 := Lib.hid ho
  clear ho hm
  have HO10_22 := Lib.hid (HO10_21.out.below HB22.out)
  have HO10_23 := Lib.hid (HO10_22.out.moved HM23.out (.inr (Nat.le_refl _)))
  go_wp2_with fail
  go_at_call 33
  refine (markR_any _ _ _ _ _ _ _ (1 + l4 * 2) hl5 (by omega) (by omega) HO10_23.out).mono ?_
  rintro e w24 ⟨rfl, ho, hm⟩
  have HM24 := Lib.hid hm
  have HZ24 := Lib.hid hm.size
  have HBW24 := Lib.hid (below_moved HBW23.out hm (Nat.le_refl _) (Nat.le_trans (Nat.le_trans (Nat.le_trans (Nat.le_trans (Nat.le_trans (Nat.le_trans (Nat.le_trans (Nat.le_trans HZ1.out HZ2.out) HZ3.out) HZ4.out) HZ5.out) HZ6.out) HZ7.out) HZ8.out) HH9.out.1))
  have HO10_24 := Lib.hid ho
  clear ho hm
  have HO9_24 := Lib.hid (HO9_23.out.moved HM24.out (.inl (Nat.le_refl _)))
  go_wp2_with fail
  go_at_call 34
  refine (heldR_any _ _ _ _ 1 hl4 (by omega) (by omega) HO9_24.out.sees).mono ?_
  rintro e w25 ⟨rfl, hb⟩
  have HB25 := Lib.hid hb
  have HZ25 := Lib.hid hb.size
  have HBW25 := Lib.hid (below_up HBW24.out hb (Nat.le_refl _))
  clear hb
  have HO10_25 := Lib.hid (HO10_24.out.below HB25.out)
  go_wp2_with fail
  go_at_call 34
  refine (heldR_any _ _ _ _ (1 + l4 * 2) hl5 (by omega) (by omega) HO10_25.out.sees).mono ?_
  rintro e w26 ⟨rfl, hb⟩
  have HB26 := Lib.hid hb
  have HZ26 := Lib.hid hb.size
  have HBW26 := Lib.hid (below_up HBW25.out hb (Nat.le_refl _))
  clear hb
  go_wp2_with fail
  go_at_call 22
  refine (toM_any _ _ _ _ _ HG0.out (HA0.out.below HBW26.out)).mono ?_
  rintro e w27 ⟨b14, l14, c14, rfl, ho, hb⟩
  obtain rfl : len0 = l14 := HA0.out.1.symm.trans ho.1
  have HO14_27 := Lib.hid ho
  clear ho
  have HB27 := Lib.hid hb
  have HZ27 := Lib.hid hb.size
  have HBW27 := Lib.hid (below_up HBW26.out hb (Nat.le_refl _))
  clear hb
  go_wp2_with fail
  go_at_call 23
  refine (toI_any _ _ _ _ _ (Nat.le_trans hg1 (by decide)) (HA1.out.below HBW27.out)).mono ?_
  rintro e w28 ⟨b15, l15, c15, rfl, ho, hb⟩
  obtain rfl : len1 = l15 := HA1.out.1.symm.trans ho.1
  have HO15_28 := Lib.hid ho
  clear ho
  have HB28 := Lib.hid hb
  have HZ28 := Lib.hid hb.size
  have HBW28 := Lib.hid (below_up HBW27.out hb (Nat.le_refl _))
  clear hb
  go_wp2_with fail
  go_at_call 23
  refine (toI_any _ _ _ _ _ (Nat.le_trans hg2 (by decide)) (HA2.out.below HBW28.out)).mono ?_
  rintro e w29 ⟨b16, l16, c16, rfl, ho, hb⟩
  obtain rfl : len2 = l16 := HA2.out.1.symm.trans ho.1
  have HO16_29 := Lib.hid ho
  clear ho
  have HB29 := Lib.hid hb
  have HZ29 := Lib.hid hb.size
  have HBW29 := Lib.hid (below_up HBW28.out hb (Nat.le_refl _))
  clear hb
  have HO14_28 := Lib.hid (HO14_27.out.below HB28.out)
  have HO14_29 := Lib.hid (HO14_28.out.below HB29.out)
  have HO15_29 := Lib.hid (HO15_28.out.below HB29.out)
  go_wp2_with fail
  go_at_call 17
  refine (twoP_any _ _ _ _ zs0 _ _ _ zs1 _ _ _ zs2 HG0.out HO14_29.out.sees (Nat.le_trans hg1 (by decide)) HO15_29.out.cap HO15_29.out.capMax HO15_29.out.sees (Nat.le_trans hg2 (by decide)) HO16_29.out.cap HO16_29.out.capMax HO16_29.out.sees).mono ?_
  rintro e w30 ⟨b17, l17, c17, b18, l18, c18, H30, rfl, hh1, hh2, ho17, ho18, hb⟩
  have HH30 := Lib.hid (And.intro hh1 hh2)
  clear hh1 hh2
  obtain rfl : l4 = l17 := HWL0.out.symm.trans ho17.1
  have HO17_30 := Lib.hid ho17
  clear ho17
  obtain rfl : l5 = l18 := HWL1.out.symm.trans ho18.1
  have HO18_30 := Lib.hid ho18
  clear ho18
  have HB30 := Lib.hid hb
  have HZ30 := Lib.hid hb.size
  have HBW30 := Lib.hid (below_up HBW29.out hb (Nat.le_refl _))
  clear hb
  have HO4_21 := Lib.hid (HO4_20.out.below HB21.out)
  have HO4_22 := Lib.hid (HO4_21.out.below HB22.out)
  have HO4_23 := Lib.hid (HO4_22.out.moved HM23.out (.inl (Nat.le_trans (Nat.le_trans (Nat.le_trans HH5.out.2 HZ6.out) HZ7.out) HZ8.out)))
  have HO4_24 := Lib.hid (HO4_23.out.moved HM24.out (.inl (Nat.le_trans (Nat.le_trans (Nat.le_trans (Nat.le_trans HH5.out.2 HZ6.out) HZ7.out) HZ8.out) HH9.out.1)))
  have HO4_25 := Lib.hid (HO4_24.out.below HB25.out)
  have HO4_26 := Lib.hid (HO4_25.out.below HB26.out)
  have HO4_27 := Lib.hid (HO4_26.out.below HB27.out)
  have HO4_28 := Lib.hid (HO4_27.out.below HB28.out)
  have HO4_29 := Lib.hid (HO4_28.out.below HB29.out)
  have HO4_30 := Lib.hid (HO4_29.out.below HB30.out)
  go_wp2_with fail
  go_at_call 30
  refine (eqR_yes _ _ _ _ _ _ _ hl4 HO17_30.out.sees HO4_30.out.sees).mono ?_
  rintro e w31 ⟨rfl, hb⟩
  have HB31 := Lib.hid hb
  have HZ31 := Lib.hid hb.size
  have HBW31 := Lib.hid (below_up HBW30.out hb (Nat.le_refl _))
  clear hb
  have HO18_31 := Lib.hid (HO18_30.out.below HB31.out)
  have HO5_22 := Lib.hid (HO5_21.out.below HB22.out)
  have HO5_23 := Lib.hid (HO5_22.out.moved HM23.out (.inl (Nat.le_trans (Nat.le_trans HZ6.out HZ7.out) HZ8.out)))
  have HO5_24 := Lib.hid (HO5_23.out.moved HM24.out (.inl (Nat.le_trans (Nat.le_trans (Nat.le_trans HZ6.out HZ7.out) HZ8.out) HH9.out.1)))
  have HO5_25 := Lib.hid (HO5_24.out.below HB25.out)
  have HO5_26 := Lib.hid (HO5_25.out.below HB26.out)
  have HO5_27 := Lib.hid (HO5_26.out.below HB27.out)
  have HO5_28 := Lib.hid (HO5_27.out.below HB28.out)
  have HO5_29 := Lib.hid (HO5_28.out.below HB29.out)
  have HO5_30 := Lib.hid (HO5_29.out.below HB30.out)
  have HO5_31 := Lib.hid (HO5_30.out.below HB31.out)
  go_wp2_with fail
  go_at_call 30
  refine (eqR_yes _ _ _ _ _ _ _ hl5 HO18_31.out.sees HO5_31.out.sees).mono ?_
  rintro e w32 ⟨rfl, hb⟩
  have HB32 := Lib.hid hb
  have HZ32 := Lib.hid hb.size
  have HBW32 := Lib.hid (below_up HBW31.out hb (Nat.le_refl _))
  clear hb
  have HO9_25 := Lib.hid (HO9_24.out.below HB25.out)
  have HO9_26 := Lib.hid (HO9_25.out.below HB26.out)
  have HO9_27 := Lib.hid (HO9_26.out.below HB27.out)
  have HO9_28 := Lib.hid (HO9_27.out.below HB28.out)
  have HO9_29 := Lib.hid (HO9_28.out.below HB29.out)
  have HO9_30 := Lib.hid (HO9_29.out.below HB30.out)
  have HO9_31 := Lib.hid (HO9_30.out.below HB31.out)
  have HO9_32 := Lib.hid (HO9_31.out.below HB32.out)
  go_wp2_with fail
  go_at_call 34
  refine (heldR_any _ _ _ _ 1 hl4 (by omega) (by omega) HO9_32.out.sees).mono ?_
  rintro e w33 ⟨rfl, hb⟩
  have HB33 := Lib.hid hb
  have HZ33 := Lib.hid hb.size
  have HBW33 := Lib.hid (below_up HBW32.out hb (Nat.le_refl _))
  clear hb
  have HO10_26 := Lib.hid (HO10_25.out.below HB26.out)
  have HO10_27 := Lib.hid (HO10_26.out.below HB27.out)
  have HO10_28 := Lib.hid (HO10_27.out.below HB28.out)
  have HO10_29 := Lib.hid (HO10_28.out.below HB29.out)
  have HO10_30 := Lib.hid (HO10_29.out.below HB30.out)
  have HO10_31 := Lib.hid (HO10_30.out.below HB31.out)
  have HO10_32 := Lib.hid (HO10_31.out.below HB32.out)
  have HO10_33 := Lib.hid (HO10_32.out.below HB33.out)
  go_wp2_with fail
  go_at_call 34
  refine (heldR_any _ _ _ _ (1 + l4 * 2) hl5 (by omega) (by omega) HO10_33.out.sees).mono ?_
  rintro e w34 ⟨rfl, hb⟩
  have HB34 := Lib.hid hb
  have HZ34 := Lib.hid hb.size
  have HBW34 := Lib.hid (below_up HBW33.out hb (Nat.le_refl _))
  clear hb
  go_wp2_with fail
  go_ret
  exact ⟨rfl, HBW34.out⟩
end Go.Proofs.Ytgcgdgbogamlnaa
