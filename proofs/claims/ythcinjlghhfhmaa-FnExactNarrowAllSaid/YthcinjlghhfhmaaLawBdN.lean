/- The walk of the law on NarrowAll. -/
import Derived.Test.YthcinjlghhfhmaaBdP
namespace Go.Proofs.Ythcinjlghhfhmaa
open Go.RowKit
set_option maxHeartbeats 4000000 in
set_option maxRecDepth 20000 in
theorem lawNarrowAll_walk (a0 : Option Addr) (len0 cap0 : Nat) (z0 : List (List Int)) (a1 : Option Addr) (len1 cap1 : Nat) (z1 : List (Int × Int)) (n2 : Int) (W : World) (q0 : IsRows W a0 len0 z0) (q1 : IsIvs W a1 len1 z1) (q2 : (Lit.int .i64 n2).wf = true) : Calls Try.prog 7 #[.slice a0 len0 cap0, .slice a1 len1 cap1, .int .i64 n2] W fun e W' => e = .returned (.bool true) ∧ Below W.heap.size W W' := by
  obtain ⟨zs0, hs0⟩ : ∃ zs, SeesM W a0 len0 zs := ⟨_, q0.1⟩
  have hc0 := q0.2
  have HA0 := Lib.hid hs0
  clear hs0 q0
  obtain ⟨zs1, hs1⟩ : ∃ zs, SeesV W a1 len1 zs := ⟨_, q1.1⟩
  have hc1 := q1.2
  have HA1 := Lib.hid hs1
  clear hs1 q1
  obtain ⟨hn2, hm2⟩ := bounds_i64 q2
  clear q2
  obtain ⟨v0, hv0⟩ : ∃ v, v = szV zs0 := ⟨_, rfl⟩
  have HV0 := Lib.hid hv0
  clear hv0
  by_cases hg0 : SmallM zs0
  case neg =>
    have hv0 : v0 = -1 := HV0.out.trans (szV_big hg0)
    subst hv0
    go_enter Try.func7, Try.ntmps7
    go_wp2_with fail
    go_at_call 16
    refine (szM_any _ _ _ _ _ (-1) hc0 HA0.out HV0.out).mono ?_
    rintro e w1 ⟨rfl, hb⟩
    have HB1 := Lib.hid hb
    clear hb
    go_wp2_with fail
    go_ret
    exact ⟨rfl, HB1.out⟩
  have HG0 := Lib.hid hg0
  have hv0 : ¬ v0 < 0 := by have h1 := HV0.out; rw [szV_small hg0] at h1; unfold SmallM at hg0; omega
  have ht0 : tot zs0 len0 ≤ 1048576 := by have h1 := HA0.out.1; unfold SmallM at hg0; rw [h1] at hg0; omega
  have hl0 : len0 ≤ 1048576 := by have h1 := HA0.out.1; unfold SmallM at hg0; omega
  clear hg0
  have hv0u : v0 ≤ 1048576 := by have h1 := HV0.out; rw [szV_small HG0.out] at h1; omega
  by_cases hg1 : (len1 : Int) ≤ v0
  case neg =>
    go_enter Try.func7, Try.ntmps7
    go_wp2_with fail
    go_at_call 16
    refine (szM_any _ _ _ _ _ v0 hc0 HA0.out HV0.out).mono ?_
    rintro e w1 ⟨rfl, hb⟩
    have HB1 := Lib.hid hb
    clear hb
    go_wp2_with fail
    go_at_call 17
    refine (szIv_any _ _ _ _ v0 (-1) hc1 (by omega) (by omega) (by rw [if_pos (by omega)])).mono ?_
    rintro e w2 ⟨rfl, rfl⟩
    go_wp2_with fail
    go_ret
    exact ⟨rfl, HB1.out⟩
  have hw1 : ¬ v0 - (len1 : Int) < 0 := by omega
  have hl1 : len1 ≤ 1048576 := by omega
  go_enter Try.func7, Try.ntmps7
  go_wp2_with fail
  go_at_call 16
  refine (szM_any _ _ _ _ _ v0 hc0 HA0.out HV0.out).mono ?_
  rintro e w1 ⟨rfl, hb⟩
  have HB1 := Lib.hid hb
  have HZ1 := Lib.hid hb.size
  have HBW1 := Lib.hid (hb)
  clear hb
  go_wp2_with fail
  go_at_call 17
  refine (szIv_any _ _ _ _ v0 (v0 - len1) hc1 (by omega) (by omega) (by rw [if_neg (by omega)])).mono ?_
  rintro e w2 ⟨rfl, hw⟩
  have hb : Below w1.heap.size w1 w2 := hw ▸ Below.refl _ _
  clear hw
  have HB2 := Lib.hid hb
  have HZ2 := Lib.hid hb.size
  have HBW2 := Lib.hid (below_up HBW1.out hb (Nat.le_refl _))
  clear hb
  go_wp2_with fail
  go_at_call 19
  refine (toM_any _ _ _ _ _ HG0.out (HA0.out.below HBW2.out)).mono ?_
  rintro e w3 ⟨b1, l1, c1, rfl, ho, hb⟩
  obtain rfl : len0 = l1 := HA0.out.1.symm.trans ho.1
  have HO1_3 := Lib.hid ho
  clear ho
  have HB3 := Lib.hid hb
  have HZ3 := Lib.hid hb.size
  have HBW3 := Lib.hid (below_up HBW2.out hb (Nat.le_refl _))
  clear hb
  go_wp2_with fail
  go_at_call 20
  refine (toV_any _ _ _ _ _ (Nat.le_trans hl1 (by decide)) (HA1.out.below HBW3.out)).mono ?_
  rintro e w4 ⟨b2, l2, c2, rfl, ho, hb⟩
  obtain rfl : len1 = l2 := HA1.out.1.symm.trans ho.1
  have HO2_4 := Lib.hid ho
  clear ho
  have HB4 := Lib.hid hb
  have HZ4 := Lib.hid hb.size
  have HBW4 := Lib.hid (below_up HBW3.out hb (Nat.le_refl _))
  clear hb
  have HO1_4 := Lib.hid (HO1_3.out.below HB4.out)
  go_wp2_with fail
  go_at_call 12
  refine (specNarA_any _ _ _ _ zs0 _ _ _ zs1 n2 HG0.out HO1_4.out.sees (Nat.le_trans hl1 (by decide)) HO2_4.out.sees hn2 hm2).mono ?_
  rintro e w5 ⟨b3, l3, c3, rfl, ho, hb⟩
  have hl3 : l3 ≤ 1073741824 := by have h1 := ho.1; have h2 := narL_le zs0 zs1 n2; omega
  have HO3_5 := Lib.hid ho
  clear ho
  have HB5 := Lib.hid hb
  have HZ5 := Lib.hid hb.size
  have HBW5 := Lib.hid (below_up HBW4.out hb (Nat.le_refl _))
  clear hb
  have HWL := Lib.hid (HO3_5.out.1)
  go_wp2_with fail
  go_at_call 19
  refine (toM_any _ _ _ _ _ HG0.out (HA0.out.below HBW5.out)).mono ?_
  rintro e w6 ⟨b4, l4, c4, rfl, ho, hb⟩
  obtain rfl : len0 = l4 := HA0.out.1.symm.trans ho.1
  have HO4_6 := Lib.hid ho
  clear ho
  have HB6 := Lib.hid hb
  have HZ6 := Lib.hid hb.size
  have HBW6 := Lib.hid (below_up HBW5.out hb (Nat.le_refl _))
  clear hb
  go_wp2_with fail
  go_at_call 20
  refine (toV_any _ _ _ _ _ (Nat.le_trans hl1 (by decide)) (HA1.out.below HBW6.out)).mono ?_
  rintro e w7 ⟨b5, l5, c5, rfl, ho, hb⟩
  obtain rfl : len1 = l5 := HA1.out.1.symm.trans ho.1
  have HO5_7 := Lib.hid ho
  clear ho
  have HB7 := Lib.hid hb
  have HZ7 := Lib.hid hb.size
  have HBW7 := Lib.hid (below_up HBW6.out hb (Nat.le_refl _))
  clear hb
  have HO4_7 := Lib.hid (HO4_6.out.below HB7.out)
  go_wp2_with fail
  go_at_call 11
  refine (narP_any _ _ _ _ zs0 _ _ _ zs1 n2 HG0.out HO4_7.out.sees (Nat.le_trans hl1 (by decide)) HO5_7.out.sees hn2 hm2).mono ?_
  rintro e w8 ⟨b6, l6, c6, rfl, ho, hb⟩
  obtain rfl : l3 = l6 := HWL.out.symm.trans ho.1
  have HO6_8 := Lib.hid ho
  clear ho
  have HB8 := Lib.hid hb
  have HZ8 := Lib.hid hb.size
  have HBW8 := Lib.hid (below_up HBW7.out hb (Nat.le_refl _))
  clear hb
  have HO3_6 := Lib.hid (HO3_5.out.below HB6.out)
  have HO3_7 := Lib.hid (HO3_6.out.below HB7.out)
  have HO3_8 := Lib.hid (HO3_7.out.below HB8.out)
  go_wp2_with fail
  go_at_call 23
  refine (eqV_yes _ _ _ _ _ _ _ hl3 HO6_8.out.sees HO3_8.out.sees).mono ?_
  rintro e w9 ⟨rfl, hb⟩
  have HB9 := Lib.hid hb
  have HZ9 := Lib.hid hb.size
  have HBW9 := Lib.hid (below_up HBW8.out hb (Nat.le_refl _))
  clear hb
  go_wp2_with fail
  go_at_call 19
  refine (toM_any _ _ _ _ _ HG0.out (HA0.out.below HBW9.out)).mono ?_
  rintro e w10 ⟨b7, l7, c7, rfl, ho, hb⟩
  obtain rfl : len0 = l7 := HA0.out.1.symm.trans ho.1
  have HO7_10 := Lib.hid ho
  clear ho
  have HB10 := Lib.hid hb
  have HZ10 := Lib.hid hb.size
  have HBW10 := Lib.hid (below_up HBW9.out hb (Nat.le_refl _))
  clear hb
  have HO4_8 := Lib.hid (HO4_7.out.below HB8.out)
  have HO4_9 := Lib.hid (HO4_8.out.below HB9.out)
  have HO4_10 := Lib.hid (HO4_9.out.below HB10.out)
  go_wp2_with fail
  go_at_call 22
  refine (eqM_yes _ _ _ _ _ _ _ HG0.out HO4_10.out.sees HO7_10.out.sees).mono ?_
  rintro e w11 ⟨rfl, hb⟩
  have HB11 := Lib.hid hb
  have HZ11 := Lib.hid hb.size
  have HBW11 := Lib.hid (below_up HBW10.out hb (Nat.le_refl _))
  clear hb
  go_wp2_with fail
  go_at_call 20
  refine (toV_any _ _ _ _ _ (Nat.le_trans hl1 (by decide)) (HA1.out.below HBW11.out)).mono ?_
  rintro e w12 ⟨b8, l8, c8, rfl, ho, hb⟩
  obtain rfl : len1 = l8 := HA1.out.1.symm.trans ho.1
  have HO8_12 := Lib.hid ho
  clear ho
  have HB12 := Lib.hid hb
  have HZ12 := Lib.hid hb.size
  have HBW12 := Lib.hid (below_up HBW11.out hb (Nat.le_refl _))
  clear hb
  have HO5_8 := Lib.hid (HO5_7.out.below HB8.out)
  have HO5_9 := Lib.hid (HO5_8.out.below HB9.out)
  have HO5_10 := Lib.hid (HO5_9.out.below HB10.out)
  have HO5_11 := Lib.hid (HO5_10.out.below HB11.out)
  have HO5_12 := Lib.hid (HO5_11.out.below HB12.out)
  go_wp2_with fail
  go_at_call 23
  refine (eqV_yes _ _ _ _ _ _ _ (Nat.le_trans hl1 (by decide)) HO5_12.out.sees HO8_12.out.sees).mono ?_
  rintro e w13 ⟨rfl, hb⟩
  have HB13 := Lib.hid hb
  have HZ13 := Lib.hid hb.size
  have HBW13 := Lib.hid (below_up HBW12.out hb (Nat.le_refl _))
  clear hb
  have HO4_11 := Lib.hid (HO4_10.out.below HB11.out)
  have HO4_12 := Lib.hid (HO4_11.out.below HB12.out)
  have HO4_13 := Lib.hid (HO4_12.out.below HB13.out)
  go_wp2_with fail
  go_at_call 29
  refine (markM_any _ _ _ _ _ _ _ (1) HG0.out (by omega) (by omega) (Nat.le_trans (Nat.le_trans (Nat.le_trans (Nat.le_trans (Nat.le_trans (Nat.le_trans (Nat.le_trans HZ6.out HZ7.out) HZ8.out) HZ9.out) HZ10.out) HZ11.out) HZ12.out) HZ13.out) HO4_13.out).mono ?_
  rintro e w14 ⟨rfl, ho, hm⟩
  have HM14 := Lib.hid hm
  have HZ14 := Lib.hid hm.size
  have HBW14 := Lib.hid (below_moved HBW13.out hm (Nat.le_refl _) (Nat.le_trans (Nat.le_trans (Nat.le_trans (Nat.le_trans HZ1.out HZ2.out) HZ3.out) HZ4.out) HZ5.out))
  have HO4_14 := Lib.hid ho
  clear ho hm
  have HO5_13 := Lib.hid (HO5_12.out.below HB13.out)
  have HO5_14 := Lib.hid (HO5_13.out.moved HM14.out (.inr (Nat.le_refl _)))
  go_wp2_with fail
  go_at_call 26
  refine (markV_any _ _ _ _ _ _ _ (1 + (tot zs0 len0 : Int)) (Nat.le_trans hl1 (by decide)) (by omega) (by omega) HO5_14.out).mono ?_
  rintro e w15 ⟨rfl, ho, hm⟩
  have HM15 := Lib.hid hm
  have HZ15 := Lib.hid hm.size
  have HBW15 := Lib.hid (below_moved HBW14.out hm (Nat.le_refl _) (Nat.le_trans (Nat.le_trans (Nat.le_trans (Nat.le_trans (Nat.le_trans HZ1.out HZ2.out) HZ3.out) HZ4.out) HZ5.out) HZ6.out))
  have HO5_15 := Lib.hid ho
  clear ho hm
  have HO6_9 := Lib.hid (HO6_8.out.below HB9.out)
  have HO6_10 := Lib.hid (HO6_9.out.below HB10.out)
  have HO6_11 := Lib.hid (HO6_10.out.below HB11.out)
  have HO6_12 := Lib.hid (HO6_11.out.below HB12.out)
  have HO6_13 := Lib.hid (HO6_12.out.below HB13.out)
  have HO6_14 := Lib.hid (HO6_13.out.moved HM14.out (.inr HZ7.out))
  have HO6_15 := Lib.hid (HO6_14.out.moved HM15.out (.inr (Nat.le_refl _)))
  have HO3_9 := Lib.hid (HO3_8.out.below HB9.out)
  have HO3_10 := Lib.hid (HO3_9.out.below HB10.out)
  have HO3_11 := Lib.hid (HO3_10.out.below HB11.out)
  have HO3_12 := Lib.hid (HO3_11.out.below HB12.out)
  have HO3_13 := Lib.hid (HO3_12.out.below HB13.out)
  have HO3_14 := Lib.hid (HO3_13.out.moved HM14.out (.inl (Nat.le_refl _)))
  have HO3_15 := Lib.hid (HO3_14.out.moved HM15.out (.inl HZ6.out))
  go_wp2_with fail
  go_at_call 23
  refine (eqV_yes _ _ _ _ _ _ _ hl3 HO6_15.out.sees HO3_15.out.sees).mono ?_
  rintro e w16 ⟨rfl, hb⟩
  have HB16 := Lib.hid hb
  have HZ16 := Lib.hid hb.size
  have HBW16 := Lib.hid (below_up HBW15.out hb (Nat.le_refl _))
  clear hb
  have HO6_16 := Lib.hid (HO6_15.out.below HB16.out)
  go_wp2_with fail
  go_at_call 26
  refine (markV_any _ _ _ _ _ _ _ 1 hl3 (by omega) (by omega) HO6_16.out).mono ?_
  rintro e w17 ⟨rfl, ho, hm⟩
  have HM17 := Lib.hid hm
  have HZ17 := Lib.hid hm.size
  have HBW17 := Lib.hid (below_moved HBW16.out hm (Nat.le_refl _) (Nat.le_trans (Nat.le_trans (Nat.le_trans (Nat.le_trans (Nat.le_trans (Nat.le_trans HZ1.out HZ2.out) HZ3.out) HZ4.out) HZ5.out) HZ6.out) HZ7.out))
  have HO6_17 := Lib.hid ho
  clear ho hm
  go_wp2_with fail
  go_at_call 27
  refine (heldV_any _ _ _ _ 1 hl3 (by omega) (by omega) HO6_17.out.sees).mono ?_
  rintro e w18 ⟨rfl, hb⟩
  have HB18 := Lib.hid hb
  have HZ18 := Lib.hid hb.size
  have HBW18 := Lib.hid (below_up HBW17.out hb (Nat.le_refl _))
  clear hb
  go_wp2_with fail
  go_at_call 19
  refine (toM_any _ _ _ _ _ HG0.out (HA0.out.below HBW18.out)).mono ?_
  rintro e w19 ⟨b9, l9, c9, rfl, ho, hb⟩
  obtain rfl : len0 = l9 := HA0.out.1.symm.trans ho.1
  have HO9_19 := Lib.hid ho
  clear ho
  have HB19 := Lib.hid hb
  have HZ19 := Lib.hid hb.size
  have HBW19 := Lib.hid (below_up HBW18.out hb (Nat.le_refl _))
  clear hb
  go_wp2_with fail
  go_at_call 20
  refine (toV_any _ _ _ _ _ (Nat.le_trans hl1 (by decide)) (HA1.out.below HBW19.out)).mono ?_
  rintro e w20 ⟨b10, l10, c10, rfl, ho, hb⟩
  obtain rfl : len1 = l10 := HA1.out.1.symm.trans ho.1
  have HO10_20 := Lib.hid ho
  clear ho
  have HB20 := Lib.hid hb
  have HZ20 := Lib.hid hb.size
  have HBW20 := Lib.hid (below_up HBW19.out hb (Nat.le_refl _))
  clear hb
  have HO9_20 := Lib.hid (HO9_19.out.below HB20.out)
  go_wp2_with fail
  go_at_call 11
  refine (narP_any _ _ _ _ zs0 _ _ _ zs1 n2 HG0.out HO9_20.out.sees (Nat.le_trans hl1 (by decide)) HO10_20.out.sees hn2 hm2).mono ?_
  rintro e w21 ⟨b11, l11, c11, rfl, ho, hb⟩
  obtain rfl : l3 = l11 := HWL.out.symm.trans ho.1
  have HO11_21 := Lib.hid ho
  clear ho
  have HB21 := Lib.hid hb
  have HZ21 := Lib.hid hb.size
  have HBW21 := Lib.hid (below_up HBW20.out hb (Nat.le_refl _))
  clear hb
  have HO3_16 := Lib.hid (HO3_15.out.below HB16.out)
  have HO3_17 := Lib.hid (HO3_16.out.moved HM17.out (.inl (Nat.le_trans HZ6.out HZ7.out)))
  have HO3_18 := Lib.hid (HO3_17.out.below HB18.out)
  have HO3_19 := Lib.hid (HO3_18.out.below HB19.out)
  have HO3_20 := Lib.hid (HO3_19.out.below HB20.out)
  have HO3_21 := Lib.hid (HO3_20.out.below HB21.out)
  go_wp2_with fail
  go_at_call 23
  refine (eqV_yes _ _ _ _ _ _ _ hl3 HO11_21.out.sees HO3_21.out.sees).mono ?_
  rintro e w22 ⟨rfl, hb⟩
  have HB22 := Lib.hid hb
  have HZ22 := Lib.hid hb.size
  have HBW22 := Lib.hid (below_up HBW21.out hb (Nat.le_refl _))
  clear hb
  have HO6_18 := Lib.hid (HO6_17.out.below HB18.out)
  have HO6_19 := Lib.hid (HO6_18.out.below HB19.out)
  have HO6_20 := Lib.hid (HO6_19.out.below HB20.out)
  have HO6_21 := Lib.hid (HO6_20.out.below HB21.out)
  have HO6_22 := Lib.hid (HO6_21.out.below HB22.out)
  go_wp2_with fail
  go_at_call 27
  refine (heldV_any _ _ _ _ 1 hl3 (by omega) (by omega) HO6_22.out.sees).mono ?_
  rintro e w23 ⟨rfl, hb⟩
  have HB23 := Lib.hid hb
  have HZ23 := Lib.hid hb.size
  have HBW23 := Lib.hid (below_up HBW22.out hb (Nat.le_refl _))
  clear hb
  go_wp2_with fail
  go_ret
  exact ⟨rfl, HBW23.out⟩
end Go.Proofs.Ythcinjlghhfhmaa
