/- The walk of the law on RowOf. -/
import Derived.Test.YtakhlbagjomgbaaNetG
namespace Go.Proofs.Ytakhlbagjomgbaa
open Go.RowKit
set_option maxHeartbeats 4000000 in
set_option maxRecDepth 20000 in
theorem lawRowOf_walk (a0 : Option Addr) (len0 cap0 : Nat) (z0 : List Int) (n1 : Int) (W : World) (q0 : IsRow .i64 W a0 len0 cap0 z0) (q1 : (Lit.int .i64 n1).wf = true) : Calls Try.prog 8 #[.slice a0 len0 cap0, .int .i64 n1] W fun e W' => e = .returned (.bool true) ∧ Below W.heap.size W W' := by
  obtain ⟨zs0, hs0⟩ : ∃ zs, Sees .i64 W a0 len0 zs := ⟨_, row_sees q0⟩
  have HA0 := Lib.hid hs0
  clear hs0 q0
  obtain ⟨hn1, hm1⟩ := bounds_i64 q1
  clear q1
  by_cases hg0 : len0 ≤ 1048576
  case neg =>
    go_enter Try.func8, Try.ntmps8
    go_wp2_with fail
    go_ret
    exact ⟨rfl, Below.refl _ _⟩
  go_enter Try.func8, Try.ntmps8
  go_wp2_with fail
  go_at_call 24
  refine (toI_any _ _ _ _ _ (Nat.le_trans hg0 (by decide)) HA0.out).mono ?_
  rintro e w1 ⟨b1, l1, c1, rfl, ho, hb⟩
  obtain rfl : len0 = l1 := HA0.out.1.symm.trans ho.1
  have HO1_1 := Lib.hid ho
  clear ho
  have HB1 := Lib.hid hb
  have HZ1 := Lib.hid hb.size
  have HBW1 := Lib.hid (hb)
  clear hb
  go_wp2_with fail
  go_at_call 30
  refine (specRow_any _ _ _ _ zs0 n1 (Nat.le_trans hg0 (by decide)) HO1_1.out.sees).mono ?_
  rintro e w2 ⟨b2, l2, c2, rfl, ho, hb⟩
  have hl2 : l2 ≤ 1073741824 := by have h1 := ho.1; have h2 := rowA_len zs0 n1; omega
  have HO2_2 := Lib.hid ho
  clear ho
  have HB2 := Lib.hid hb
  have HZ2 := Lib.hid hb.size
  have HBW2 := Lib.hid (below_up HBW1.out hb (Nat.le_refl _))
  clear hb
  have HWL := Lib.hid (HO2_2.out.1)
  go_wp2_with fail
  go_at_call 24
  refine (toI_any _ _ _ _ _ (Nat.le_trans hg0 (by decide)) (HA0.out.below HBW2.out)).mono ?_
  rintro e w3 ⟨b3, l3, c3, rfl, ho, hb⟩
  obtain rfl : len0 = l3 := HA0.out.1.symm.trans ho.1
  have HO3_3 := Lib.hid ho
  clear ho
  have HB3 := Lib.hid hb
  have HZ3 := Lib.hid hb.size
  have HBW3 := Lib.hid (below_up HBW2.out hb (Nat.le_refl _))
  clear hb
  go_wp2_with fail
  go_at_call 18
  refine (rowP_any _ _ _ _ zs0 n1 (Nat.le_trans hg0 (by decide)) HO3_3.out.sees).mono ?_
  rintro e w4 ⟨b4, l4, c4, rfl, ho, hb⟩
  obtain rfl : l2 = l4 := HWL.out.symm.trans ho.1
  have HO4_4 := Lib.hid ho
  clear ho
  have HB4 := Lib.hid hb
  have HZ4 := Lib.hid hb.size
  have HBW4 := Lib.hid (below_up HBW3.out hb (Nat.le_refl _))
  clear hb
  have HO2_3 := Lib.hid (HO2_2.out.below HB3.out)
  have HO2_4 := Lib.hid (HO2_3.out.below HB4.out)
  go_wp2_with fail
  go_at_call 25
  refine (eqI_yes _ _ _ _ _ _ _ hl2 HO4_4.out.sees HO2_4.out.sees).mono ?_
  rintro e w5 ⟨rfl, hb⟩
  have HB5 := Lib.hid hb
  have HZ5 := Lib.hid hb.size
  have HBW5 := Lib.hid (below_up HBW4.out hb (Nat.le_refl _))
  clear hb
  go_wp2_with fail
  go_at_call 24
  refine (toI_any _ _ _ _ _ (Nat.le_trans hg0 (by decide)) (HA0.out.below HBW5.out)).mono ?_
  rintro e w6 ⟨b5, l5, c5, rfl, ho, hb⟩
  obtain rfl : len0 = l5 := HA0.out.1.symm.trans ho.1
  have HO5_6 := Lib.hid ho
  clear ho
  have HB6 := Lib.hid hb
  have HZ6 := Lib.hid hb.size
  have HBW6 := Lib.hid (below_up HBW5.out hb (Nat.le_refl _))
  clear hb
  have HO3_4 := Lib.hid (HO3_3.out.below HB4.out)
  have HO3_5 := Lib.hid (HO3_4.out.below HB5.out)
  have HO3_6 := Lib.hid (HO3_5.out.below HB6.out)
  go_wp2_with fail
  go_at_call 25
  refine (eqI_yes _ _ _ _ _ _ _ (Nat.le_trans hg0 (by decide)) HO3_6.out.sees HO5_6.out.sees).mono ?_
  rintro e w7 ⟨rfl, hb⟩
  have HB7 := Lib.hid hb
  have HZ7 := Lib.hid hb.size
  have HBW7 := Lib.hid (below_up HBW6.out hb (Nat.le_refl _))
  clear hb
  have HO3_7 := Lib.hid (HO3_6.out.below HB7.out)
  go_wp2_with fail
  go_at_call 28
  refine (markI_any _ _ _ _ _ _ _ (1) (Nat.le_trans hg0 (by decide)) (by omega) (by omega) HO3_7.out).mono ?_
  rintro e w8 ⟨rfl, ho, hm⟩
  have HM8 := Lib.hid hm
  have HZ8 := Lib.hid hm.size
  have HBW8 := Lib.hid (below_moved HBW7.out hm (Nat.le_refl _) (Nat.le_trans HZ1.out HZ2.out))
  have HO3_8 := Lib.hid ho
  clear ho hm
  have HO4_5 := Lib.hid (HO4_4.out.below HB5.out)
  have HO4_6 := Lib.hid (HO4_5.out.below HB6.out)
  have HO4_7 := Lib.hid (HO4_6.out.below HB7.out)
  have HO4_8 := Lib.hid (HO4_7.out.moved HM8.out (.inr (Nat.le_refl _)))
  have HO2_5 := Lib.hid (HO2_4.out.below HB5.out)
  have HO2_6 := Lib.hid (HO2_5.out.below HB6.out)
  have HO2_7 := Lib.hid (HO2_6.out.below HB7.out)
  have HO2_8 := Lib.hid (HO2_7.out.moved HM8.out (.inl (Nat.le_refl _)))
  go_wp2_with fail
  go_at_call 25
  refine (eqI_yes _ _ _ _ _ _ _ hl2 HO4_8.out.sees HO2_8.out.sees).mono ?_
  rintro e w9 ⟨rfl, hb⟩
  have HB9 := Lib.hid hb
  have HZ9 := Lib.hid hb.size
  have HBW9 := Lib.hid (below_up HBW8.out hb (Nat.le_refl _))
  clear hb
  have HO4_9 := Lib.hid (HO4_8.out.below HB9.out)
  go_wp2_with fail
  go_at_call 28
  refine (markI_any _ _ _ _ _ _ _ 1 hl2 (by omega) (by omega) HO4_9.out).mono ?_
  rintro e w10 ⟨rfl, ho, hm⟩
  have HM10 := Lib.hid hm
  have HZ10 := Lib.hid hm.size
  have HBW10 := Lib.hid (below_moved HBW9.out hm (Nat.le_refl _) (Nat.le_trans (Nat.le_trans HZ1.out HZ2.out) HZ3.out))
  have HO4_10 := Lib.hid ho
  clear ho hm
  go_wp2_with fail
  go_at_call 29
  refine (heldI_any _ _ _ _ 1 hl2 (by omega) (by omega) HO4_10.out.sees).mono ?_
  rintro e w11 ⟨rfl, hb⟩
  have HB11 := Lib.hid hb
  have HZ11 := Lib.hid hb.size
  have HBW11 := Lib.hid (below_up HBW10.out hb (Nat.le_refl _))
  clear hb
  go_wp2_with fail
  go_at_call 24
  refine (toI_any _ _ _ _ _ (Nat.le_trans hg0 (by decide)) (HA0.out.below HBW11.out)).mono ?_
  rintro e w12 ⟨b6, l6, c6, rfl, ho, hb⟩
  obtain rfl : len0 = l6 := HA0.out.1.symm.trans ho.1
  have HO6_12 := Lib.hid ho
  clear ho
  have HB12 := Lib.hid hb
  have HZ12 := Lib.hid hb.size
  have HBW12 := Lib.hid (below_up HBW11.out hb (Nat.le_refl _))
  clear hb
  go_wp2_with fail
  go_at_call 18
  refine (rowP_any _ _ _ _ zs0 n1 (Nat.le_trans hg0 (by decide)) HO6_12.out.sees).mono ?_
  rintro e w13 ⟨b7, l7, c7, rfl, ho, hb⟩
  obtain rfl : l2 = l7 := HWL.out.symm.trans ho.1
  have HO7_13 := Lib.hid ho
  clear ho
  have HB13 := Lib.hid hb
  have HZ13 := Lib.hid hb.size
  have HBW13 := Lib.hid (below_up HBW12.out hb (Nat.le_refl _))
  clear hb
  have HO2_9 := Lib.hid (HO2_8.out.below HB9.out)
  have HO2_10 := Lib.hid (HO2_9.out.moved HM10.out (.inl HZ3.out))
  have HO2_11 := Lib.hid (HO2_10.out.below HB11.out)
  have HO2_12 := Lib.hid (HO2_11.out.below HB12.out)
  have HO2_13 := Lib.hid (HO2_12.out.below HB13.out)
  go_wp2_with fail
  go_at_call 25
  refine (eqI_yes _ _ _ _ _ _ _ hl2 HO7_13.out.sees HO2_13.out.sees).mono ?_
  rintro e w14 ⟨rfl, hb⟩
  have HB14 := Lib.hid hb
  have HZ14 := Lib.hid hb.size
  have HBW14 := Lib.hid (below_up HBW13.out hb (Nat.le_refl _))
  clear hb
  have HO4_11 := Lib.hid (HO4_10.out.below HB11.out)
  have HO4_12 := Lib.hid (HO4_11.out.below HB12.out)
  have HO4_13 := Lib.hid (HO4_12.out.below HB13.out)
  have HO4_14 := Lib.hid (HO4_13.out.below HB14.out)
  go_wp2_with fail
  go_at_call 29
  refine (heldI_any _ _ _ _ 1 hl2 (by omega) (by omega) HO4_14.out.sees).mono ?_
  rintro e w15 ⟨rfl, hb⟩
  have HB15 := Lib.hid hb
  have HZ15 := Lib.hid hb.size
  have HBW15 := Lib.hid (below_up HBW14.out hb (Nat.le_refl _))
  clear hb
  go_wp2_with fail
  go_ret
  exact ⟨rfl, HBW15.out⟩
end Go.Proofs.Ytakhlbagjomgbaa
