/- The walk of the law on TwinsOf. -/
import Derived.Test.YtedkeobhcpbigaaToP
namespace Go.Proofs.Ytedkeobhcpbigaa
open Go.RowKit
set_option maxHeartbeats 4000000 in
set_option maxRecDepth 20000 in
theorem lawTwinsOf_walk (a0 : Option Addr) (len0 cap0 : Nat) (z0 : List (List Int)) (n1 : Int) (W : World) (q0 : IsRows W a0 len0 z0) (q1 : (Lit.int .i64 n1).wf = true) : Calls Try.prog 7 #[.slice a0 len0 cap0, .int .i64 n1] W fun e W' => e = .returned (.bool true) ∧ Below W.heap.size W W' := by
  obtain ⟨zs0, hs0⟩ : ∃ zs, SeesM W a0 len0 zs := ⟨_, q0.1⟩
  have hc0 := q0.2
  have HA0 := Lib.hid hs0
  clear hs0 q0
  obtain ⟨hn1, hm1⟩ := bounds_i64 q1
  clear q1
  obtain ⟨v0, hv0⟩ : ∃ v, v = szV zs0 := ⟨_, rfl⟩
  have HV0 := Lib.hid hv0
  clear hv0
  by_cases hg0 : SmallM zs0
  case neg =>
    have hv0 : v0 = -1 := HV0.out.trans (szV_big hg0)
    subst hv0
    go_enter Try.func7, Try.ntmps7
    go_wp2_with fail
    go_at_call 27
    refine (szM_any _ _ _ _ _ (-1) hc0 HA0.out HV0.out).mono ?_
    rintro e w1 ⟨rfl, hb⟩
    have HB1 := Lib.hid hb
    clear hb
    go_wp2_with fail
    go_ret
    exact ⟨rfl, HB1.out⟩
  have HG0 := Lib.hid hg0
  have hv0 : ¬ v0 < 0 := by have h1 := HV0.out; rw [szV_small hg0] at h1; unfold SmallM at hg0; omega
  have ht0 : tot zs0 len0 ≤ 1048576 := by have h1 := HA0.out.1; unfold SmallM at hg0; rw [h1] at hg0; omega
  have hl0 : len0 ≤ 1048576 := by have h1 := HA0.out.1; unfold SmallM at hg0; omega
  clear hg0
  go_enter Try.func7, Try.ntmps7
  go_wp2_with fail
  go_at_call 27
  refine (szM_any _ _ _ _ _ v0 hc0 HA0.out HV0.out).mono ?_
  rintro e w1 ⟨rfl, hb⟩
  have HB1 := Lib.hid hb
  have HZ1 := Lib.hid hb.size
  have HBW1 := Lib.hid (hb)
  clear hb
  go_wp2_with fail
  go_at_call 29
  refine (toM_any _ _ _ _ _ HG0.out (HA0.out.below HBW1.out)).mono ?_
  rintro e w2 ⟨b1, l1, c1, rfl, ho, hb⟩
  obtain rfl : len0 = l1 := HA0.out.1.symm.trans ho.1
  have HO1_2 := Lib.hid ho
  clear ho
  have HB2 := Lib.hid hb
  have HZ2 := Lib.hid hb.size
  have HBW2 := Lib.hid (below_up HBW1.out hb (Nat.le_refl _))
  clear hb
  go_wp2_with fail
  go_at_call 35
  refine (specTwins_any _ _ _ _ zs0 n1 hn1 hm1 HG0.out HO1_2.out.sees).mono ?_
  rintro e w3 ⟨b2, l2, c2, rfl, ho, hb⟩
  have hl2 : l2 ≤ 1073741824 := by have h1 := ho.1; have h2 := twinV_len zs0 n1 HG0.out; omega
  have HO2_3 := Lib.hid ho
  clear ho
  have HB3 := Lib.hid hb
  have HZ3 := Lib.hid hb.size
  have HBW3 := Lib.hid (below_up HBW2.out hb (Nat.le_refl _))
  clear hb
  have HWL := Lib.hid (HO2_3.out.1)
  go_wp2_with fail
  go_at_call 29
  refine (toM_any _ _ _ _ _ HG0.out (HA0.out.below HBW3.out)).mono ?_
  rintro e w4 ⟨b3, l3, c3, rfl, ho, hb⟩
  obtain rfl : len0 = l3 := HA0.out.1.symm.trans ho.1
  have HO3_4 := Lib.hid ho
  clear ho
  have HB4 := Lib.hid hb
  have HZ4 := Lib.hid hb.size
  have HBW4 := Lib.hid (below_up HBW3.out hb (Nat.le_refl _))
  clear hb
  go_wp2_with fail
  go_at_call 16
  refine (twinP_any _ _ _ _ zs0 n1 hn1 hm1 HG0.out HO3_4.out.sees).mono ?_
  rintro e w5 ⟨b4, l4, c4, rfl, ho, hb⟩
  obtain rfl : l2 = l4 := HWL.out.symm.trans ho.1
  have HO4_5 := Lib.hid ho
  clear ho
  have HB5 := Lib.hid hb
  have HZ5 := Lib.hid hb.size
  have HBW5 := Lib.hid (below_up HBW4.out hb (Nat.le_refl _))
  clear hb
  have HO2_4 := Lib.hid (HO2_3.out.below HB4.out)
  have HO2_5 := Lib.hid (HO2_4.out.below HB5.out)
  go_wp2_with fail
  go_at_call 24
  refine (eqI_yes _ _ _ _ _ _ _ hl2 HO4_5.out.sees HO2_5.out.sees).mono ?_
  rintro e w6 ⟨rfl, hb⟩
  have HB6 := Lib.hid hb
  have HZ6 := Lib.hid hb.size
  have HBW6 := Lib.hid (below_up HBW5.out hb (Nat.le_refl _))
  clear hb
  go_wp2_with fail
  go_at_call 29
  refine (toM_any _ _ _ _ _ HG0.out (HA0.out.below HBW6.out)).mono ?_
  rintro e w7 ⟨b5, l5, c5, rfl, ho, hb⟩
  obtain rfl : len0 = l5 := HA0.out.1.symm.trans ho.1
  have HO5_7 := Lib.hid ho
  clear ho
  have HB7 := Lib.hid hb
  have HZ7 := Lib.hid hb.size
  have HBW7 := Lib.hid (below_up HBW6.out hb (Nat.le_refl _))
  clear hb
  have HO3_5 := Lib.hid (HO3_4.out.below HB5.out)
  have HO3_6 := Lib.hid (HO3_5.out.below HB6.out)
  have HO3_7 := Lib.hid (HO3_6.out.below HB7.out)
  go_wp2_with fail
  go_at_call 30
  refine (eqM_yes _ _ _ _ _ _ _ HG0.out HO3_7.out.sees HO5_7.out.sees).mono ?_
  rintro e w8 ⟨rfl, hb⟩
  have HB8 := Lib.hid hb
  have HZ8 := Lib.hid hb.size
  have HBW8 := Lib.hid (below_up HBW7.out hb (Nat.le_refl _))
  clear hb
  have HO3_8 := Lib.hid (HO3_7.out.below HB8.out)
  go_wp2_with fail
  go_at_call 31
  refine (markM_any _ _ _ _ _ _ _ (1) HG0.out (by omega) (by omega) (Nat.le_trans (Nat.le_trans (Nat.le_trans (Nat.le_trans HZ4.out HZ5.out) HZ6.out) HZ7.out) HZ8.out) HO3_8.out).mono ?_
  rintro e w9 ⟨rfl, ho, hm⟩
  have HM9 := Lib.hid hm
  have HZ9 := Lib.hid hm.size
  have HBW9 := Lib.hid (below_moved HBW8.out hm (Nat.le_refl _) (Nat.le_trans (Nat.le_trans HZ1.out HZ2.out) HZ3.out))
  have HO3_9 := Lib.hid ho
  clear ho hm
  have HO4_6 := Lib.hid (HO4_5.out.below HB6.out)
  have HO4_7 := Lib.hid (HO4_6.out.below HB7.out)
  have HO4_8 := Lib.hid (HO4_7.out.below HB8.out)
  have HO4_9 := Lib.hid (HO4_8.out.moved HM9.out (.inr (Nat.le_refl _)))
  have HO2_6 := Lib.hid (HO2_5.out.below HB6.out)
  have HO2_7 := Lib.hid (HO2_6.out.below HB7.out)
  have HO2_8 := Lib.hid (HO2_7.out.below HB8.out)
  have HO2_9 := Lib.hid (HO2_8.out.moved HM9.out (.inl (Nat.le_refl _)))
  go_wp2_with fail
  go_at_call 24
  refine (eqI_yes _ _ _ _ _ _ _ hl2 HO4_9.out.sees HO2_9.out.sees).mono ?_
  rintro e w10 ⟨rfl, hb⟩
  have HB10 := Lib.hid hb
  have HZ10 := Lib.hid hb.size
  have HBW10 := Lib.hid (below_up HBW9.out hb (Nat.le_refl _))
  clear hb
  have HO4_10 := Lib.hid (HO4_9.out.below HB10.out)
  go_wp2_with fail
  go_at_call 25
  refine (markI_any _ _ _ _ _ _ _ 1 hl2 (by omega) (by omega) HO4_10.out).mono ?_
  rintro e w11 ⟨rfl, ho, hm⟩
  have HM11 := Lib.hid hm
  have HZ11 := Lib.hid hm.size
  have HBW11 := Lib.hid (below_moved HBW10.out hm (Nat.le_refl _) (Nat.le_trans (Nat.le_trans (Nat.le_trans HZ1.out HZ2.out) HZ3.out) HZ4.out))
  have HO4_11 := Lib.hid ho
  clear ho hm
  go_wp2_with fail
  go_at_call 26
  refine (heldI_any _ _ _ _ 1 hl2 (by omega) (by omega) HO4_11.out.sees).mono ?_
  rintro e w12 ⟨rfl, hb⟩
  have HB12 := Lib.hid hb
  have HZ12 := Lib.hid hb.size
  have HBW12 := Lib.hid (below_up HBW11.out hb (Nat.le_refl _))
  clear hb
  go_wp2_with fail
  go_at_call 29
  refine (toM_any _ _ _ _ _ HG0.out (HA0.out.below HBW12.out)).mono ?_
  rintro e w13 ⟨b6, l6, c6, rfl, ho, hb⟩
  obtain rfl : len0 = l6 := HA0.out.1.symm.trans ho.1
  have HO6_13 := Lib.hid ho
  clear ho
  have HB13 := Lib.hid hb
  have HZ13 := Lib.hid hb.size
  have HBW13 := Lib.hid (below_up HBW12.out hb (Nat.le_refl _))
  clear hb
  go_wp2_with fail
  go_at_call 16
  refine (twinP_any _ _ _ _ zs0 n1 hn1 hm1 HG0.out HO6_13.out.sees).mono ?_
  rintro e w14 ⟨b7, l7, c7, rfl, ho, hb⟩
  obtain rfl : l2 = l7 := HWL.out.symm.trans ho.1
  have HO7_14 := Lib.hid ho
  clear ho
  have HB14 := Lib.hid hb
  have HZ14 := Lib.hid hb.size
  have HBW14 := Lib.hid (below_up HBW13.out hb (Nat.le_refl _))
  clear hb
  have HO2_10 := Lib.hid (HO2_9.out.below HB10.out)
  have HO2_11 := Lib.hid (HO2_10.out.moved HM11.out (.inl HZ4.out))
  have HO2_12 := Lib.hid (HO2_11.out.below HB12.out)
  have HO2_13 := Lib.hid (HO2_12.out.below HB13.out)
  have HO2_14 := Lib.hid (HO2_13.out.below HB14.out)
  go_wp2_with fail
  go_at_call 24
  refine (eqI_yes _ _ _ _ _ _ _ hl2 HO7_14.out.sees HO2_14.out.sees).mono ?_
  rintro e w15 ⟨rfl, hb⟩
  have HB15 := Lib.hid hb
  have HZ15 := Lib.hid hb.size
  have HBW15 := Lib.hid (below_up HBW14.out hb (Nat.le_refl _))
  clear hb
  have HO4_12 := Lib.hid (HO4_11.out.below HB12.out)
  have HO4_13 := Lib.hid (HO4_12.out.below HB13.out)
  have HO4_14 := Lib.hid (HO4_13.out.below HB14.out)
  have HO4_15 := Lib.hid (HO4_14.out.below HB15.out)
  go_wp2_with fail
  go_at_call 26
  refine (heldI_any _ _ _ _ 1 hl2 (by omega) (by omega) HO4_15.out.sees).mono ?_
  rintro e w16 ⟨rfl, hb⟩
  have HB16 := Lib.hid hb
  have HZ16 := Lib.hid hb.size
  have HBW16 := Lib.hid (below_up HBW15.out hb (Nat.le_refl _))
  clear hb
  go_wp2_with fail
  go_ret
  exact ⟨rfl, HBW16.out⟩
end Go.Proofs.Ytedkeobhcpbigaa
