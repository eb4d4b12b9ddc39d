/- The walk of the law on MayBeOne. -/
import Derived.Test.YtgomfmigcolloaaAlP
namespace Go.Proofs.Ytgomfmigcolloaa
open Go.RowKit
set_option maxHeartbeats 4000000 in
set_option maxRecDepth 20000 in
theorem lawMayBeOne_walk (a0 : Option Addr) (len0 cap0 : Nat) (z0 : List (Int × Int × Int)) (a1 : Option Addr) (len1 cap1 : Nat) (z1 : List Int) (W : World) (q0 : IsReps W a0 len0 z0) (q1 : IsRow .i64 W a1 len1 cap1 z1) : Calls Try.prog 5 #[.slice a0 len0 cap0, .slice a1 len1 cap1] W fun e W' => e = .returned (.bool true) ∧ Below W.heap.size W W' := by
  obtain ⟨zs0, hs0⟩ : ∃ zs, SeesY W a0 len0 zs := ⟨_, q0.1⟩
  have hc0 := q0.2
  have HA0 := Lib.hid hs0
  clear hs0 q0
  obtain ⟨zs1, hs1⟩ : ∃ zs, Sees .i64 W a1 len1 zs := ⟨_, row_sees q1⟩
  have HA1 := Lib.hid hs1
  clear hs1 q1
  by_cases hg1 : len1 ≤ 1048576
  case neg =>
    go_enter Try.func5, Try.ntmps5
    go_wp2_with fail
    go_ret
    exact ⟨rfl, Below.refl _ _⟩
  by_cases hg0 : (len0 : Int) ≤ 1048576
  case neg =>
    go_enter Try.func5, Try.ntmps5
    go_wp2_with fail
    go_at_call 18
    refine (szY_any _ _ _ _ 1048576 (-1) hc0 (by omega) (by omega) (by rw [if_pos (by omega)])).mono ?_
    rintro e w2 ⟨rfl, rfl⟩
    go_wp2_with fail
    go_ret
    exact ⟨rfl, Below.refl _ _⟩
  have hw0 : ¬ 1048576 - (len0 : Int) < 0 := by omega
  have hl0 : len0 ≤ 1048576 := by omega
  go_enter Try.func5, Try.ntmps5
  go_wp2_with fail
  go_at_call 18
  refine (szY_any _ _ _ _ 1048576 (1048576 - len0) hc0 (by omega) (by omega) (by rw [if_neg (by omega)])).mono ?_
  rintro e w1 ⟨rfl, hw⟩
  have hb : Below W.heap.size W w1 := hw ▸ Below.refl _ _
  clear hw
  have HB1 := Lib.hid hb
  have HZ1 := Lib.hid hb.size
  have HBW1 := Lib.hid (hb)
  clear hb
  go_wp2_with fail
  go_at_call 19
  refine (toY_any _ _ _ _ _ (Nat.le_trans hl0 (by decide)) (HA0.out.below HBW1.out)).mono ?_
  rintro e w2 ⟨b1, l1, c1, rfl, ho, hb⟩
  obtain rfl : len0 = l1 := HA0.out.1.symm.trans ho.1
  have HO1_2 := Lib.hid ho
  clear ho
  have HB2 := Lib.hid hb
  have HZ2 := Lib.hid hb.size
  have HBW2 := Lib.hid (below_up HBW1.out hb (Nat.le_refl _))
  clear hb
  go_wp2_with fail
  go_at_call 22
  refine (toI_any _ _ _ _ _ (Nat.le_trans hg1 (by decide)) (HA1.out.below HBW2.out)).mono ?_
  rintro e w3 ⟨b2, l2, c2, rfl, ho, hb⟩
  obtain rfl : len1 = l2 := HA1.out.1.symm.trans ho.1
  have HO2_3 := Lib.hid ho
  clear ho
  have HB3 := Lib.hid hb
  have HZ3 := Lib.hid hb.size
  have HBW3 := Lib.hid (below_up HBW2.out hb (Nat.le_refl _))
  clear hb
  have HO1_3 := Lib.hid (HO1_2.out.below HB3.out)
  go_wp2_with fail
  go_at_call 21
  refine (specMay_any _ _ _ _ zs0 _ _ _ zs1 (Nat.le_trans hl0 (by decide)) HO1_3.out.sees (Nat.le_trans hg1 (by decide)) HO2_3.out.sees).mono ?_
  rintro e w4 ⟨rfl, hb⟩
  have HB4 := Lib.hid hb
  have HZ4 := Lib.hid hb.size
  have HBW4 := Lib.hid (below_up HBW3.out hb (Nat.le_refl _))
  clear hb
  go_wp2_with fail
  go_at_call 19
  refine (toY_any _ _ _ _ _ (Nat.le_trans hl0 (by decide)) (HA0.out.below HBW4.out)).mono ?_
  rintro e w5 ⟨b3, l3, c3, rfl, ho, hb⟩
  obtain rfl : len0 = l3 := HA0.out.1.symm.trans ho.1
  have HO3_5 := Lib.hid ho
  clear ho
  have HB5 := Lib.hid hb
  have HZ5 := Lib.hid hb.size
  have HBW5 := Lib.hid (below_up HBW4.out hb (Nat.le_refl _))
  clear hb
  go_wp2_with fail
  go_at_call 22
  refine (toI_any _ _ _ _ _ (Nat.le_trans hg1 (by decide)) (HA1.out.below HBW5.out)).mono ?_
  rintro e w6 ⟨b4, l4, c4, rfl, ho, hb⟩
  obtain rfl : len1 = l4 := HA1.out.1.symm.trans ho.1
  have HO4_6 := Lib.hid ho
  clear ho
  have HB6 := Lib.hid hb
  have HZ6 := Lib.hid hb.size
  have HBW6 := Lib.hid (below_up HBW5.out hb (Nat.le_refl _))
  clear hb
  have HO3_6 := Lib.hid (HO3_5.out.below HB6.out)
  go_wp2_with fail
  go_at_call 15
  refine (mayP_any _ _ _ _ zs0 _ _ _ zs1 (Nat.le_trans hl0 (by decide)) HO3_6.out.sees (Nat.le_trans hg1 (by decide)) HO4_6.out.sees).mono ?_
  rintro e w7 ⟨rfl, hb⟩
  have HB7 := Lib.hid hb
  have HZ7 := Lib.hid hb.size
  have HBW7 := Lib.hid (below_up HBW6.out hb (Nat.le_refl _))
  clear hb
  go_wp2_with fail
  go_at_call 19
  refine (toY_any _ _ _ _ _ (Nat.le_trans hl0 (by decide)) (HA0.out.below HBW7.out)).mono ?_
  rintro e w8 ⟨b5, l5, c5, rfl, ho, hb⟩
  obtain rfl : len0 = l5 := HA0.out.1.symm.trans ho.1
  have HO5_8 := Lib.hid ho
  clear ho
  have HB8 := Lib.hid hb
  have HZ8 := Lib.hid hb.size
  have HBW8 := Lib.hid (below_up HBW7.out hb (Nat.le_refl _))
  clear hb
  have HO3_7 := Lib.hid (HO3_6.out.below HB7.out)
  have HO3_8 := Lib.hid (HO3_7.out.below HB8.out)
  go_wp2_with fail
  go_at_call 20
  refine (eqY_yes _ _ _ _ _ _ _ (Nat.le_trans hl0 (by decide)) HO3_8.out.sees HO5_8.out.sees).mono ?_
  rintro e w9 ⟨rfl, hb⟩
  have HB9 := Lib.hid hb
  have HZ9 := Lib.hid hb.size
  have HBW9 := Lib.hid (below_up HBW8.out hb (Nat.le_refl _))
  clear hb
  go_wp2_with fail
  go_at_call 22
  refine (toI_any _ _ _ _ _ (Nat.le_trans hg1 (by decide)) (HA1.out.below HBW9.out)).mono ?_
  rintro e w10 ⟨b6, l6, c6, rfl, ho, hb⟩
  obtain rfl : len1 = l6 := HA1.out.1.symm.trans ho.1
  have HO6_10 := Lib.hid ho
  clear ho
  have HB10 := Lib.hid hb
  have HZ10 := Lib.hid hb.size
  have HBW10 := Lib.hid (below_up HBW9.out hb (Nat.le_refl _))
  clear hb
  have HO4_7 := Lib.hid (HO4_6.out.below HB7.out)
  have HO4_8 := Lib.hid (HO4_7.out.below HB8.out)
  have HO4_9 := Lib.hid (HO4_8.out.below HB9.out)
  have HO4_10 := Lib.hid (HO4_9.out.below HB10.out)
  go_wp2_with fail
  go_at_call 23
  refine (eqI_yes _ _ _ _ _ _ _ (Nat.le_trans hg1 (by decide)) HO4_10.out.sees HO6_10.out.sees).mono ?_
  rintro e w11 ⟨rfl, hb⟩
  have HB11 := Lib.hid hb
  have HZ11 := Lib.hid hb.size
  have HBW11 := Lib.hid (below_up HBW10.out hb (Nat.le_refl _))
  clear hb
  go_wp2_with fail
  go_ret
  exact ⟨rfl, HBW11.out⟩
end Go.Proofs.Ytgomfmigcolloaa
