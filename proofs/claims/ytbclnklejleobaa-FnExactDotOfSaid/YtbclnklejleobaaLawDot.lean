/- The walk of the law on DotOf. -/
import Derived.Test.YtbclnklejleobaaDot
namespace Go.Proofs.Ytbclnklejleobaa
open Go.RowKit
set_option maxHeartbeats 4000000 in
set_option maxRecDepth 20000 in
theorem lawDotOf_walk (a0 : Option Addr) (len0 cap0 : Nat) (z0 : List Int) (a1 : Option Addr) (len1 cap1 : Nat) (z1 : List Int) (W : World) (q0 : IsRow .i64 W a0 len0 cap0 z0) (q1 : IsRow .i64 W a1 len1 cap1 z1) : Calls Try.prog 9 #[.slice a0 len0 cap0, .slice a1 len1 cap1] W fun e W' => e = .returned (.bool true) ∧ Below W.heap.size W W' := by
  obtain ⟨zs0, hs0⟩ : ∃ zs, Sees .i64 W a0 len0 zs := ⟨_, row_sees q0⟩
  have HA0 := Lib.hid hs0
  clear hs0 q0
  obtain ⟨zs1, hs1⟩ : ∃ zs, Sees .i64 W a1 len1 zs := ⟨_, row_sees q1⟩
  have HA1 := Lib.hid hs1
  clear hs1 q1
  by_cases hg0 : len0 ≤ 1048576
  case neg =>
    go_enter Try.func9, Try.ntmps9
    go_wp2_with fail
    go_ret
    exact ⟨rfl, Below.refl _ _⟩
  by_cases hg1 : len1 ≤ 1048576
  case neg =>
    go_enter Try.func9, Try.ntmps9
    go_wp2_with fail
    go_ret
    exact ⟨rfl, Below.refl _ _⟩
  go_enter Try.func9, Try.ntmps9
  go_wp2_with fail
  go_at_call 30
  refine (toI_any _ _ _ _ _ (Nat.le_trans hg0 (by decide)) HA0.out).mono ?_
  rintro e w1 ⟨b1, l1, c1, rfl, ho, hb⟩
  obtain rfl : len0 = l1 := HA0.out.1.symm.trans ho.1
  have HO1_1 := Lib.hid ho
  clear ho
  have HB1 := Lib.hid hb
  have HZ1 := Lib.hid hb.size
  have HBW1 := Lib.hid (hb)
  clear hb
  go_wp2_with fail
  go_at_call 30
  refine (toI_any _ _ _ _ _ (Nat.le_trans hg1 (by decide)) (HA1.out.below HBW1.out)).mono ?_
  rintro e w2 ⟨b2, l2, c2, rfl, ho, hb⟩
  obtain rfl : len1 = l2 := HA1.out.1.symm.trans ho.1
  have HO2_2 := Lib.hid ho
  clear ho
  have HB2 := Lib.hid hb
  have HZ2 := Lib.hid hb.size
  have HBW2 := Lib.hid (below_up HBW1.out hb (Nat.le_refl _))
  clear hb
  have HO1_2 := Lib.hid (HO1_1.out.below HB2.out)
  go_wp2_with fail
  go_at_call 32
  refine (specDot_any _ _ _ _ _ _ _ zs0 zs1 (Nat.le_trans hg0 (by decide)) (Nat.le_trans hg1 (by decide)) HO1_2.out.sees HO2_2.out.sees).mono ?_
  rintro e w3 ⟨rfl, hb⟩
  have HB3 := Lib.hid hb
  have HZ3 := Lib.hid hb.size
  have HBW3 := Lib.hid (below_up HBW2.out hb (Nat.le_refl _))
  clear hb
  go_wp2_with fail
  go_at_call 30
  refine (toI_any _ _ _ _ _ (Nat.le_trans hg0 (by decide)) (HA0.out.below HBW3.out)).mono ?_
  rintro e w4 ⟨b3, l3, c3, rfl, ho, hb⟩
  obtain rfl : len0 = l3 := HA0.out.1.symm.trans ho.1
  have HO3_4 := Lib.hid ho
  clear ho
  have HB4 := Lib.hid hb
  have HZ4 := Lib.hid hb.size
  have HBW4 := Lib.hid (below_up HBW3.out hb (Nat.le_refl _))
  clear hb
  go_wp2_with fail
  go_at_call 30
  refine (toI_any _ _ _ _ _ (Nat.le_trans hg1 (by decide)) (HA1.out.below HBW4.out)).mono ?_
  rintro e w5 ⟨b4, l4, c4, rfl, ho, hb⟩
  obtain rfl : len1 = l4 := HA1.out.1.symm.trans ho.1
  have HO4_5 := Lib.hid ho
  clear ho
  have HB5 := Lib.hid hb
  have HZ5 := Lib.hid hb.size
  have HBW5 := Lib.hid (below_up HBW4.out hb (Nat.le_refl _))
  clear hb
  have HO3_5 := Lib.hid (HO3_4.out.below HB5.out)
  go_wp2_with fail
  go_at_call 21
  refine (dot_any _ _ _ _ _ _ _ zs0 zs1 (Nat.le_trans hg0 (by decide)) (Nat.le_trans hg1 (by decide)) HO3_5.out.sees HO4_5.out.sees).mono ?_
  rintro e w6 ⟨rfl, hb⟩
  have HB6 := Lib.hid hb
  have HZ6 := Lib.hid hb.size
  have HBW6 := Lib.hid (below_up HBW5.out hb (Nat.le_refl _))
  clear hb
  go_wp2_with fail
  go_at_call 30
  refine (toI_any _ _ _ _ _ (Nat.le_trans hg0 (by decide)) (HA0.out.below HBW6.out)).mono ?_
  rintro e w7 ⟨b5, l5, c5, rfl, ho, hb⟩
  obtain rfl : len0 = l5 := HA0.out.1.symm.trans ho.1
  have HO5_7 := Lib.hid ho
  clear ho
  have HB7 := Lib.hid hb
  have HZ7 := Lib.hid hb.size
  have HBW7 := Lib.hid (below_up HBW6.out hb (Nat.le_refl _))
  clear hb
  have HO3_6 := Lib.hid (HO3_5.out.below HB6.out)
  have HO3_7 := Lib.hid (HO3_6.out.below HB7.out)
  go_wp2_with fail
  go_at_call 31
  refine (eqI_yes _ _ _ _ _ _ _ (Nat.le_trans hg0 (by decide)) HO3_7.out.sees HO5_7.out.sees).mono ?_
  rintro e w8 ⟨rfl, hb⟩
  have HB8 := Lib.hid hb
  have HZ8 := Lib.hid hb.size
  have HBW8 := Lib.hid (below_up HBW7.out hb (Nat.le_refl _))
  clear hb
  go_wp2_with fail
  go_at_call 30
  refine (toI_any _ _ _ _ _ (Nat.le_trans hg1 (by decide)) (HA1.out.below HBW8.out)).mono ?_
  rintro e w9 ⟨b6, l6, c6, rfl, ho, hb⟩
  obtain rfl : len1 = l6 := HA1.out.1.symm.trans ho.1
  have HO6_9 := Lib.hid ho
  clear ho
  have HB9 := Lib.hid hb
  have HZ9 := Lib.hid hb.size
  have HBW9 := Lib.hid (below_up HBW8.out hb (Nat.le_refl _))
  clear hb
  have HO4_6 := Lib.hid (HO4_5.out.below HB6.out)
  have HO4_7 := Lib.hid (HO4_6.out.below HB7.out)
  have HO4_8 := Lib.hid (HO4_7.out.below HB8.out)
  have HO4_9 := Lib.hid (HO4_8.out.below HB9.out)
  go_wp2_with fail
  go_at_call 31
  refine (eqI_yes _ _ _ _ _ _ _ (Nat.le_trans hg1 (by decide)) HO4_9.out.sees HO6_9.out.sees).mono ?_
  rintro e w10 ⟨rfl, hb⟩
  have HB10 := Lib.hid hb
  have HZ10 := Lib.hid hb.size
  have HBW10 := Lib.hid (below_up HBW9.out hb (Nat.le_refl _))
  clear hb
  go_wp2_with fail
  go_ret
  exact ⟨rfl, HBW10.out⟩
end Go.Proofs.Ytbclnklejleobaa
