/- The walk of the law on ValueOf. -/
import Derived.Test.YtgcgdgbogamlnaaValP
namespace Go.Proofs.Ytgcgdgbogamlnaa
open Go.RowKit
set_option maxHeartbeats 4000000 in
set_option maxRecDepth 20000 in
theorem lawValueOf_walk (a0 : Option Addr) (len0 cap0 : Nat) (z0 : List (List Int)) (a1 : Option Addr) (len1 cap1 : Nat) (z1 : List Int) (a2 : Option Addr) (len2 cap2 : Nat) (z2 : List Int) (W : World) (q0 : IsRows W a0 len0 z0) (q1 : IsRow .i64 W a1 len1 cap1 z1) (q2 : IsRow .i64 W a2 len2 cap2 z2) : Calls Try.prog 6 #[.slice a0 len0 cap0, .slice a1 len1 cap1, .slice a2 len2 cap2] W fun e W' => e = .returned (.bool true) ∧ Below W.heap.size W W' := by
  obtain ⟨zs0, hs0⟩ : ∃ zs, SeesM W a0 len0 zs := ⟨_, q0.1⟩
  have hc0 := q0.2
  have HA0 := Lib.hid hs0
  clear hs0 q0
  obtain ⟨zs1, hs1⟩ : ∃ zs, Sees .i64 W a1 len1 zs := ⟨_, row_sees q1⟩
  have HA1 := Lib.hid hs1
  clear hs1 q1
  obtain ⟨zs2, hs2⟩ : ∃ zs, Sees .i64 W a2 len2 zs := ⟨_, row_sees q2⟩
  have HA2 := Lib.hid hs2
  clear hs2 q2
  obtain ⟨r, hr⟩ : ∃ r, r = valR zs0 zs1 zs2 := ⟨_, rfl⟩
  have HR := Lib.hid hr
  obtain ⟨x, hx⟩ : ∃ x, x = dN r := ⟨_, rfl⟩
  have HX := Lib.hid hx
  obtain ⟨y, hy⟩ : ∃ y, y = dD r := ⟨_, rfl⟩
  have HY := Lib.hid hy
  obtain ⟨o, ho⟩ : ∃ o, o = r.isSome := ⟨_, rfl⟩
  have HO := Lib.hid ho
  clear hr hx hy ho
  obtain ⟨v0, hv0⟩ : ∃ v, v = szV zs0 := ⟨_, rfl⟩
  have HV0 := Lib.hid hv0
  clear hv0
  by_cases hg1 : len1 ≤ 1048576
  case neg =>
    go_enter Try.func6, Try.ntmps6
    go_wp2_with fail
    go_ret
    exact ⟨rfl, Below.refl _ _⟩
  by_cases hg2 : len2 ≤ 1048576
  case neg =>
    go_enter Try.func6, Try.ntmps6
    go_wp2_with fail
    go_ret
    exact ⟨rfl, Below.refl _ _⟩
  by_cases hg0 : SmallM zs0
  case neg =>
    have hv0 : v0 = -1 := HV0.out.trans (szV_big hg0)
    subst hv0
    go_enter Try.func6, Try.ntmps6
    go_wp2_with fail
    go_at_call 20
    refine (szM_any _ _ _ _ _ (-1) hc0 HA0.out HV0.out).mono ?_
    rintro e w1 ⟨rfl, hb⟩
    have HB1 := Lib.hid hb
    clear hb
    go_wp2_with fail
    go_ret
    exact ⟨rfl, HB1.out⟩
  have HG0 := Lib.hid hg0
  have hv0 : ¬ v0 < 0 := by have h1 := HV0.out; rw [szV_small hg0] at h1; unfold SmallM at hg0; omega
  have ht0 : tot zs0 len0 ≤ 1048576 := by have h1 := HA0.out.1; unfold SmallM at hg0; rw [h1] at hg0; omega
  have hl0 : len0 ≤ 1048576 := by have h1 := HA0.out.1; unfold SmallM at hg0; omega
  clear hg0
  go_enter Try.func6, Try.ntmps6
  go_wp2_with fail
  go_at_call 20
  refine (szM_any _ _ _ _ _ v0 hc0 HA0.out HV0.out).mono ?_
  rintro e w1 ⟨rfl, hb⟩
  have HB1 := Lib.hid hb
  have HZ1 := Lib.hid hb.size
  have HBW1 := Lib.hid (hb)
  clear hb
  go_wp2_with fail
  go_at_call 22
  refine (toM_any _ _ _ _ _ HG0.out (HA0.out.below HBW1.out)).mono ?_
  rintro e w2 ⟨b1, l1, c1, rfl, ho, hb⟩
  obtain rfl : len0 = l1 := HA0.out.1.symm.trans ho.1
  have HO1_2 := Lib.hid ho
  clear ho
  have HB2 := Lib.hid hb
  have HZ2 := Lib.hid hb.size
  have HBW2 := Lib.hid (below_up HBW1.out hb (Nat.le_refl _))
  clear hb
  go_wp2_with fail
  go_at_call 23
  refine (toI_any _ _ _ _ _ (Nat.le_trans hg1 (by decide)) (HA1.out.below HBW2.out)).mono ?_
  rintro e w3 ⟨b2, l2, c2, rfl, ho, hb⟩
  obtain rfl : len1 = l2 := HA1.out.1.symm.trans ho.1
  have HO2_3 := Lib.hid ho
  clear ho
  have HB3 := Lib.hid hb
  have HZ3 := Lib.hid hb.size
  have HBW3 := Lib.hid (below_up HBW2.out hb (Nat.le_refl _))
  clear hb
  go_wp2_with fail
  go_at_call 23
  refine (toI_any _ _ _ _ _ (Nat.le_trans hg2 (by decide)) (HA2.out.below HBW3.out)).mono ?_
  rintro e w4 ⟨b3, l3, c3, rfl, ho, hb⟩
  obtain rfl : len2 = l3 := HA2.out.1.symm.trans ho.1
  have HO3_4 := Lib.hid ho
  clear ho
  have HB4 := Lib.hid hb
  have HZ4 := Lib.hid hb.size
  have HBW4 := Lib.hid (below_up HBW3.out hb (Nat.le_refl _))
  clear hb
  have HO1_3 := Lib.hid (HO1_2.out.below HB3.out)
  have HO1_4 := Lib.hid (HO1_3.out.below HB4.out)
  have HO2_4 := Lib.hid (HO2_3.out.below HB4.out)
  go_wp2_with fail
  go_at_call 28
  refine (specVal_any _ _ _ _ zs0 _ _ _ zs1 _ _ _ zs2 HG0.out HO1_4.out.sees (Nat.le_trans hg1 (by decide)) HO2_4.out.sees (Nat.le_trans hg2 (by decide)) HO3_4.out.cap HO3_4.out.capMax HO3_4.out.sees r HR.out).mono ?_
  rintro e w5 ⟨he, hb⟩
  rw [← HX.out, ← HY.out, ← HO.out] at he
  subst he
  have HB5 := Lib.hid hb
  have HZ5 := Lib.hid hb.size
  have HBW5 := Lib.hid (below_up HBW4.out hb (Nat.le_refl _))
  clear hb
  go_wp2_with fail
  obtain ⟨w6, hV⟩ : ∃ V, V = w5.alloc (.cells #[.int .i64 x, .int .i64 y] 34) := ⟨_, rfl⟩
  have hb : Below w5.heap.size w5 w6 := by rw [hV]; exact (Below.refl _ _).alloc (Nat.le_refl _) _
  have HO4_6 := Lib.hid (show PairAt w6 w5.heap.size x y by rw [hV]; exact pair_new _ _ _ _)
  rw [← hV]
  clear hV
  have HB6 := Lib.hid hb
  have HZ6 := Lib.hid hb.size
  have HBW6 := Lib.hid (below_up HBW5.out hb (Nat.le_refl _))
  clear hb
  go_at_call 22
  refine (toM_any _ _ _ _ _ HG0.out (HA0.out.below HBW6.out)).mono ?_
  rintro e w7 ⟨b5, l5, c5, rfl, ho, hb⟩
  obtain rfl : len0 = l5 := HA0.out.1.symm.trans ho.1
  have HO5_7 := Lib.hid ho
  clear ho
  have HB7 := Lib.hid hb
  have HZ7 := Lib.hid hb.size
  have HBW7 := Lib.hid (below_up HBW6.out hb (Nat.le_refl _))
  clear hb
  go_wp2_with fail
  go_at_call 23
  refine (toI_any _ _ _ _ _ (Nat.le_trans hg1 (by decide)) (HA1.out.below HBW7.out)).mono ?_
  rintro e w8 ⟨b6, l6, c6, rfl, ho, hb⟩
  obtain rfl : len1 = l6 := HA1.out.1.symm.trans ho.1
  have HO6_8 := Lib.hid ho
  clear ho
  have HB8 := Lib.hid hb
  have HZ8 := Lib.hid hb.size
  have HBW8 := Lib.hid (below_up HBW7.out hb (Nat.le_refl _))
  clear hb
  go_wp2_with fail
  go_at_call 23
  refine (toI_any _ _ _ _ _ (Nat.le_trans hg2 (by decide)) (HA2.out.below HBW8.out)).mono ?_
  rintro e w9 ⟨b7, l7, c7, rfl, ho, hb⟩
  obtain rfl : len2 = l7 := HA2.out.1.symm.trans ho.1
  have HO7_9 := Lib.hid ho
  clear ho
  have HB9 := Lib.hid hb
  have HZ9 := Lib.hid hb.size
  have HBW9 := Lib.hid (below_up HBW8.out hb (Nat.le_refl _))
  clear hb
  have HO5_8 := Lib.hid (HO5_7.out.below HB8.out)
  have HO5_9 := Lib.hid (HO5_8.out.below HB9.out)
  have HO6_9 := Lib.hid (HO6_8.out.below HB9.out)
  go_wp2_with fail
  go_at_call 16
  refine (valP_any _ _ _ _ zs0 _ _ _ zs1 _ _ _ zs2 HG0.out HO5_9.out.sees (Nat.le_trans hg1 (by decide)) HO6_9.out.cap HO6_9.out.capMax HO6_9.out.sees (Nat.le_trans hg2 (by decide)) HO7_9.out.cap HO7_9.out.capMax HO7_9.out.sees r HR.out).mono ?_
  rintro e w10 ⟨he, hb⟩
  rw [← HX.out, ← HY.out, ← HO.out] at he
  subst he
  have HB10 := Lib.hid hb
  have HZ10 := Lib.hid hb.size
  have HBW10 := Lib.hid (below_up HBW9.out hb (Nat.le_refl _))
  clear hb
  have HO4_7 := Lib.hid (HO4_6.out.below HB7.out)
  have HO4_8 := Lib.hid (HO4_7.out.below HB8.out)
  have HO4_9 := Lib.hid (HO4_8.out.below HB9.out)
  have HO4_10 := Lib.hid (HO4_9.out.below HB10.out)
  have wc0 := (HO4_10.out.alloc (.cells #[.int .i64 x, .int .i64 y] 34)).c0
  have wc1 := (HO4_10.out.alloc (.cells #[.int .i64 x, .int .i64 y] 34)).c1
  go_wp2_with fail
  obtain ⟨w11, hV⟩ : ∃ V, V = w10.alloc (.cells #[.int .i64 x, .int .i64 y] 34) := ⟨_, rfl⟩
  have hb : Below w10.heap.size w10 w11 := by rw [hV]; exact (Below.refl _ _).alloc (Nat.le_refl _) _
  have HO8_11 := Lib.hid (show PairAt w11 w10.heap.size x y by rw [hV]; exact pair_new _ _ _ _)
  rw [← hV]
  clear hV
  have HB11 := Lib.hid hb
  have HZ11 := Lib.hid hb.size
  have HBW11 := Lib.hid (below_up HBW10.out hb (Nat.le_refl _))
  clear hb
  go_at_call 29
  refine (eqRat_yes x y _).mono ?_
  rintro e w12 ⟨rfl, hb⟩
  have HB12 := Lib.hid hb
  have HZ12 := Lib.hid hb.size
  have HBW12 := Lib.hid (below_up HBW11.out hb (Nat.le_refl _))
  clear hb
  clear wc0 wc1
  go_wp2_with fail
  go_at_call 22
  refine (toM_any _ _ _ _ _ HG0.out (HA0.out.below HBW12.out)).mono ?_
  rintro e w13 ⟨b9, l9, c9, rfl, ho, hb⟩
  obtain rfl : len0 = l9 := HA0.out.1.symm.trans ho.1
  have HO9_13 := Lib.hid ho
  clear ho
  have HB13 := Lib.hid hb
  have HZ13 := Lib.hid hb.size
  have HBW13 := Lib.hid (below_up HBW12.out hb (Nat.le_refl _))
  clear hb
  have HO5_10 := Lib.hid (HO5_9.out.below HB10.out)
  have HO5_11 := Lib.hid (HO5_10.out.below HB11.out)
  have HO5_12 := Lib.hid (HO5_11.out.below HB12.out)
  have HO5_13 := Lib.hid (HO5_12.out.below HB13.out)
  go_wp2_with fail
  go_at_call 25
  refine (eqM_yes _ _ _ _ _ _ _ HG0.out HO5_13.out.sees HO9_13.out.sees).mono ?_
  rintro e w14 ⟨rfl, hb⟩
  have HB14 := Lib.hid hb
  have HZ14 := Lib.hid hb.size
  have HBW14 := Lib.hid (below_up HBW13.out hb (Nat.le_refl _))
  clear hb
  go_wp2_with fail
  go_at_call 23
  refine (toI_any _ _ _ _ _ (Nat.le_trans hg1 (by decide)) (HA1.out.below HBW14.out)).mono ?_
  rintro e w15 ⟨b10, l10, c10, rfl, ho, hb⟩
  obtain rfl : len1 = l10 := HA1.out.1.symm.trans ho.1
  have HO10_15 := Lib.hid ho
  clear ho
  have HB15 := Lib.hid hb
  have HZ15 := Lib.hid hb.size
  have HBW15 := Lib.hid (below_up HBW14.out hb (Nat.le_refl _))
  clear hb
  have HO6_10 := Lib.hid (HO6_9.out.below HB10.out)
  have HO6_11 := Lib.hid (HO6_10.out.below HB11.out)
  have HO6_12 := Lib.hid (HO6_11.out.below HB12.out)
  have HO6_13 := Lib.hid (HO6_12.out.below HB13.out)
  have HO6_14 := Lib.hid (HO6_13.out.below HB14.out)
  have HO6_15 := Lib.hid (HO6_14.out.below HB15.out)
  go_wp2_with fail
  go_at_call 26
  refine (eqI_yes _ _ _ _ _ _ _ (Nat.le_trans hg1 (by decide)) HO6_15.out.sees HO10_15.out.sees).mono ?_
  rintro e w16 ⟨rfl, hb⟩
  have HB16 := Lib.hid hb
  have HZ16 := Lib.hid hb.size
  have HBW16 := Lib.hid (below_up HBW15.out hb (Nat.le_refl _))
  clear hb
  go_wp2_with fail
  go_at_call 23
  refine (toI_any _ _ _ _ _ (Nat.le_trans hg2 (by decide)) (HA2.out.below HBW16.out)).mono ?_
  rintro e w17 ⟨b11, l11, c11, rfl, ho, hb⟩
  obtain rfl : len2 = l11 := HA2.out.1.symm.trans ho.1
  have HO11_17 := Lib.hid ho
  clear ho
  have HB17 := Lib.hid hb
  have HZ17 := Lib.hid hb.size
  have HBW17 := Lib.hid (below_up HBW16.out hb (Nat.le_refl _))
  clear hb
  have HO7_10 := Lib.hid (HO7_9.out.below HB10.out)
  have HO7_11 := Lib.hid (HO7_10.out.below HB11.out)
  have HO7_12 := Lib.hid (HO7_11.out.below HB12.out)
  have HO7_13 := Lib.hid (HO7_12.out.below HB13.out)
  have HO7_14 := Lib.hid (HO7_13.out.below HB14.out)
  have HO7_15 := Lib.hid (HO7_14.out.below HB15.out)
  have HO7_16 := Lib.hid (HO7_15.out.below HB16.out)
  have HO7_17 := Lib.hid (HO7_16.out.below HB17.out)
  go_wp2_with fail
  go_at_call 26
  refine (eqI_yes _ _ _ _ _ _ _ (Nat.le_trans hg2 (by decide)) HO7_17.out.sees HO11_17.out.sees).mono ?_
  rintro e w18 ⟨rfl, hb⟩
  have HB18 := Lib.hid hb
  have HZ18 := Lib.hid hb.size
  have HBW18 := Lib.hid (below_up HBW17.out hb (Nat.le_refl _))
  clear hb
  go_wp2_with fail
  go_ret
  exact ⟨rfl, HBW18.out⟩
end Go.Proofs.Ytgcgdgbogamlnaa
