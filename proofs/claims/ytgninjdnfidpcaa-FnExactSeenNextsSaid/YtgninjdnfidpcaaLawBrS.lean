/- The walk of the law on SeenNexts. -/
import Derived.Test.YtgninjdnfidpcaaBrP
namespace Go.Proofs.Ytgninjdnfidpcaa
open Go.RowKit
set_option maxHeartbeats 4000000 in
set_option maxRecDepth 20000 in
theorem lawSeenNexts_walk (nn0 : Int) (a0 : Option Addr) (len0 cap0 : Nat) (z0 : List Int) (a1 : Option Addr) (len1 cap1 : Nat) (z1 : List Int) (W : World) (q0 : IsBr W nn0 a0 len0 z0) (q1 : IsRow .i64 W a1 len1 cap1 z1) : Calls Try.prog 6 #[.agg #[.int .i64 nn0, .slice a0 len0 cap0], .slice a1 len1 cap1] W fun e W' => e = .returned (.bool true) ∧ Below W.heap.size W W' := by
  obtain ⟨V, hV⟩ : ∃ V, V = W.alloc (.cells #[.int .i64 nn0, .slice a0 len0 cap0] 36) := ⟨_, rfl⟩
  have HBV : Hid (Below W.heap.size W V) := Lib.hid (by rw [hV]; exact below_newB _ _)
  have HNA := Lib.hid (show BrAt V W.heap.size nn0 a0 len0 cap0 by rw [hV]; exact br_new _ _ _ _ _ _)
  obtain ⟨zs0, hs0⟩ : ∃ zs, Sees .i64 W a0 len0 zs := ⟨_, q0.1.1⟩
  have hc0 := q0.2; have hnw := q0.1.2
  have HA0 := Lib.hid (hs0.below HBV.out)
  clear hs0 q0
  obtain ⟨zs1, hs1⟩ : ∃ zs, Sees .i64 W a1 len1 zs := ⟨_, row_sees q1⟩
  have HA1 := Lib.hid (hs1.below HBV.out)
  clear hs1 q1
  by_cases hg1 : len1 ≤ 1048576
  case neg =>
    go_enter Try.func6, Try.ntmps6
    go_wp2_with fail
    go_ret
    exact ⟨rfl, below_newB _ _⟩
  by_cases hg0 : (len0 : Int) ≤ 1048576
  case neg =>
    go_enter Try.func6, Try.ntmps6
    go_wp2_with fail
    go_at_call 20
    refine (szBr_any _ _ _ _ _ 1048576 (-1) hc0 (by omega) (by omega) (by rw [if_pos (by omega)])).mono ?_
    rintro e w2 ⟨rfl, hb⟩
    have HB1 := Lib.hid hb
    clear hb
    go_wp2_with fail
    go_ret
    exact ⟨rfl, below_up (below_newB _ _) HB1.out (Nat.le_refl _)⟩
  have hw0 : ¬ 1048576 - (len0 : Int) < 0 := by omega
  have hl0 : len0 ≤ 1048576 := by omega
  go_enter Try.func6, Try.ntmps6
  go_wp2_with fail
  rw [← hV]
  clear hV
  go_at_call 20
  refine (szBr_any _ _ _ _ _ 1048576 (1048576 - len0) hc0 (by omega) (by omega) (by rw [if_neg (by omega)])).mono ?_
  rintro e w1 ⟨rfl, hb⟩
  have HB1 := Lib.hid hb
  have HZ1 := Lib.hid hb.size
  have HBW1 := Lib.hid (hb)
  clear hb
  have zc0 := (HNA.out.below HBW1.out).c0
  have zc1 := (HNA.out.below HBW1.out).c1
  go_wp2_with fail
  go_at_call 22
  refine (toBr_any _ _ _ _ _ _ (Nat.le_trans hl0 (by decide)) (HA0.out.below HBW1.out)).mono ?_
  rintro e w2 ⟨b1, l1, c1, rfl, ho, hb⟩
  obtain rfl : len0 = l1 := HA0.out.1.symm.trans ho.1
  have HO1_2 := Lib.hid ho
  clear ho
  have HB2 := Lib.hid hb
  have HZ2 := Lib.hid hb.size
  have HBW2 := Lib.hid (below_up HBW1.out hb (Nat.le_refl _))
  clear hb
  clear zc0 zc1
  have zc0 := (HNA.out.below HBW2.out).c0
  have zc1 := (HNA.out.below HBW2.out).c1
  go_wp2_with fail
  go_at_call 27
  refine (toI_any _ _ _ _ _ (Nat.le_trans hg1 (by decide)) (HA1.out.below HBW2.out)).mono ?_
  rintro e w3 ⟨b2, l2, c2, rfl, ho, hb⟩
  obtain rfl : len1 = l2 := HA1.out.1.symm.trans ho.1
  have HO2_3 := Lib.hid ho
  clear ho
  have HB3 := Lib.hid hb
  have HZ3 := Lib.hid hb.size
  have HBW3 := Lib.hid (below_up HBW2.out hb (Nat.le_refl _))
  clear hb
  clear zc0 zc1
  have zc0 := (HNA.out.below HBW3.out).c0
  have zc1 := (HNA.out.below HBW3.out).c1
  have HO1_3 := Lib.hid (HO1_2.out.below HB3.out)
  go_wp2_with fail
  go_at_call 26
  refine (specSeenN_any _ nn0 _ _ _ zs0 _ _ _ zs1 (Nat.le_trans hl0 (by decide)) HO1_3.out.cap HO1_3.out.sees hnw hg1 HO2_3.out.sees).mono ?_
  rintro e w4 ⟨b3, l3, c3, rfl, ho, hb⟩
  have hl3 : l3 ≤ 1073741824 := by have h1 := ho.1; have h2 := seenK12_len nn0 zs0 zs1 zs1.length; unfold seenN at h1; have h3 := HA1.out.1; omega
  have HO3_4 := Lib.hid ho
  clear ho
  have HB4 := Lib.hid hb
  have HZ4 := Lib.hid hb.size
  have HBW4 := Lib.hid (below_up HBW3.out hb (Nat.le_refl _))
  clear hb
  clear zc0 zc1
  have zc0 := (HNA.out.below HBW4.out).c0
  have zc1 := (HNA.out.below HBW4.out).c1
  have HWL := Lib.hid (HO3_4.out.1)
  go_wp2_with fail
  go_at_call 22
  refine (toBr_any _ _ _ _ _ _ (Nat.le_trans hl0 (by decide)) (HA0.out.below HBW4.out)).mono ?_
  rintro e w5 ⟨b4, l4, c4, rfl, ho, hb⟩
  obtain rfl : len0 = l4 := HA0.out.1.symm.trans ho.1
  have HO4_5 := Lib.hid ho
  clear ho
  have HB5 := Lib.hid hb
  have HZ5 := Lib.hid hb.size
  have HBW5 := Lib.hid (below_up HBW4.out hb (Nat.le_refl _))
  clear hb
  clear zc0 zc1
  have zc0 := (HNA.out.below HBW5.out).c0
  have zc1 := (HNA.out.below HBW5.out).c1
  go_wp2_with fail
  obtain ⟨w6, hU⟩ : ∃ U, U = w5.alloc (.cells #[.int .i64 nn0, .slice b4 len0 c4] 26) := ⟨_, rfl⟩
  have hb : Below w5.heap.size w5 w6 := by rw [hU]; exact below_newB _ _
  have HX0_6 := Lib.hid (show BrAt w6 w5.heap.size nn0 b4 len0 c4 by rw [hU]; exact br_new _ _ _ _ _ _)
  have HXS := Lib.hid (show w6.heap.size = w5.heap.size + 1 by rw [hU]; simp)
  rw [← hU]
  clear hU
  have HB6 := Lib.hid hb
  have HZ6 := Lib.hid hb.size
  have HBW6 := Lib.hid (below_up HBW5.out hb (Nat.le_refl _))
  clear hb
  clear zc0 zc1
  have zc0 := (HNA.out.below HBW6.out).c0
  have zc1 := (HNA.out.below HBW6.out).c1
  have zy0 := HX0_6.out.c0
  have zy1 := HX0_6.out.c1
  go_at_call 27
  refine (toI_any _ _ _ _ _ (Nat.le_trans hg1 (by decide)) (HA1.out.below HBW6.out)).mono ?_
  rintro e w7 ⟨b5, l5, c5, rfl, ho, hb⟩
  obtain rfl : len1 = l5 := HA1.out.1.symm.trans ho.1
  have HO5_7 := Lib.hid ho
  clear ho
  have HB7 := Lib.hid hb
  have HZ7 := Lib.hid hb.size
  have HBW7 := Lib.hid (below_up HBW6.out hb (Nat.le_refl _))
  clear hb
  clear zc0 zc1 zy0 zy1
  have zc0 := (HNA.out.below HBW7.out).c0
  have zc1 := (HNA.out.below HBW7.out).c1
  have HX0_7 := Lib.hid (HX0_6.out.below HB7.out)
  have zy0 := HX0_7.out.c0
  have zy1 := HX0_7.out.c1
  have HO4_6 := Lib.hid (HO4_5.out.below HB6.out)
  have HO4_7 := Lib.hid (HO4_6.out.below HB7.out)
  go_wp2_with fail
  go_at_call 14
  refine (seenNP_any _ nn0 _ _ _ zs0 _ _ _ zs1 (Nat.le_trans hl0 (by decide)) HO4_7.out.cap HO4_7.out.sees hnw hg1 HO5_7.out.sees).mono ?_
  rintro e w8 ⟨b6, l6, c6, rfl, ho, hb⟩
  obtain rfl : l3 = l6 := HWL.out.symm.trans ho.1
  have HO6_8 := Lib.hid ho
  clear ho
  have HB8 := Lib.hid hb
  have HZ8 := Lib.hid hb.size
  have HBW8 := Lib.hid (below_up HBW7.out hb (Nat.le_refl _))
  clear hb
  clear zc0 zc1 zy0 zy1
  have zc0 := (HNA.out.below HBW8.out).c0
  have zc1 := (HNA.out.below HBW8.out).c1
  have HX0_8 := Lib.hid (HX0_7.out.below HB8.out)
  have zy0 := HX0_8.out.c0
  have zy1 := HX0_8.out.c1
  have HO3_5 := Lib.hid (HO3_4.out.below HB5.out)
  have HO3_6 := Lib.hid (HO3_5.out.below HB6.out)
  have HO3_7 := Lib.hid (HO3_6.out.below HB7.out)
  have HO3_8 := Lib.hid (HO3_7.out.below HB8.out)
  go_wp2_with fail
  go_at_call 28
  refine (eqI_yes _ _ _ _ _ _ _ hl3 HO6_8.out.sees HO3_8.out.sees).mono ?_
  rintro e w9 ⟨rfl, hb⟩
  have HB9 := Lib.hid hb
  have HZ9 := Lib.hid hb.size
  have HBW9 := Lib.hid (below_up HBW8.out hb (Nat.le_refl _))
  clear hb
  clear zc0 zc1 zy0 zy1
  have zc0 := (HNA.out.below HBW9.out).c0
  have zc1 := (HNA.out.below HBW9.out).c1
  have HX0_9 := Lib.hid (HX0_8.out.below HB9.out)
  have zy0 := HX0_9.out.c0
  have zy1 := HX0_9.out.c1
  go_wp2_with fail
  go_region_held3 (fun w' => w'.cell? ⟨w5.heap.size, 0, none⟩ = some (.int .i64 nn0) ∧ w'.cell? ⟨w5.heap.size, 1, none⟩ = some (.slice b4 len0 c4) ∧ w'.cell? ⟨W.heap.size, 0, none⟩ = some (.int .i64 nn0) ∧ w'.cell? ⟨W.heap.size, 1, none⟩ = some (.slice a0 len0 cap0)) (go_keep) (first
    | (go_at_call 22; refine (toBr_any _ nn0 _ _ _ zs0 (Nat.le_trans hl0 (by decide)) (HA0.out.below (HBW9.out.drew))).mono ?_; rintro e w10 ⟨b7, l7, c7, rfl, ho, hb⟩; have hb := below_dropB hb; obtain rfl : len0 = l7 := HA0.out.1.symm.trans ho.1; have ho : Own .i64 3 w10 w9.heap.size w10.heap.size b7 len0 c7 zs0 := ho; have HO7_10 := Lib.hid ho; clear ho; have HB10 := Lib.hid hb; have HZ10 := Lib.hid hb.size; have HBW10 := Lib.hid (below_up HBW9.out hb (Nat.le_refl _)); clear hb; clear zc0 zc1 zy0 zy1; have zc0 := (HNA.out.below HBW10.out).c0; have zc1 := (HNA.out.below HBW10.out).c1; have HX0_10 := Lib.hid (HX0_9.out.below HB10.out); have zy0 := HX0_10.out.c0; have zy1 := HX0_10.out.c1; have HO4_8 := Lib.hid (HO4_7.out.below HB8.out); have HO4_9 := Lib.hid (HO4_8.out.below HB9.out); have HO4_10 := Lib.hid (HO4_9.out.below HB10.out))
    | (go_at_call 24; refine (eqBr_yes _ _ _ _ _ _ _ _ (Nat.le_trans hl0 (by decide)) HO4_10.out.sees HO7_10.out.sees).mono ?_; rintro e w11 ⟨rfl, hb⟩; have HB11 := Lib.hid hb; have HZ11 := Lib.hid hb.size; have HBW11 := Lib.hid (below_up HBW10.out hb (Nat.le_refl _)); clear hb; clear zc0 zc1 zy0 zy1; have zc0 := (HNA.out.below HBW11.out).c0; have zc1 := (HNA.out.below HBW11.out).c1; have HX0_11 := Lib.hid (HX0_10.out.below HB11.out); have zy0 := HX0_11.out.c0; have zy1 := HX0_11.out.c1))
  go_wp2_with fail
  go_at_call 27
  refine (toI_any _ _ _ _ _ (Nat.le_trans hg1 (by decide)) (HA1.out.below HBW11.out)).mono ?_
  rintro e w12 ⟨b8, l8, c8, rfl, ho, hb⟩
  obtain rfl : len1 = l8 := HA1.out.1.symm.trans ho.1
  have HO8_12 := Lib.hid ho
  clear ho
  have HB12 := Lib.hid hb
  have HZ12 := Lib.hid hb.size
  have HBW12 := Lib.hid (below_up HBW11.out hb (Nat.le_refl _))
  clear hb
  clear zc0 zc1 zy0 zy1
  have zc0 := (HNA.out.below HBW12.out).c0
  have zc1 := (HNA.out.below HBW12.out).c1
  have HX0_12 := Lib.hid (HX0_11.out.below HB12.out)
  have zy0 := HX0_12.out.c0
  have zy1 := HX0_12.out.c1
  have HO5_8 := Lib.hid (HO5_7.out.below HB8.out)
  have HO5_9 := Lib.hid (HO5_8.out.below HB9.out)
  have HO5_10 := Lib.hid (HO5_9.out.below HB10.out)
  have HO5_11 := Lib.hid (HO5_10.out.below HB11.out)
  have HO5_12 := Lib.hid (HO5_11.out.below HB12.out)
  go_wp2_with fail
  go_at_call 28
  refine (eqI_yes _ _ _ _ _ _ _ (Nat.le_trans hg1 (by decide)) HO5_12.out.sees HO8_12.out.sees).mono ?_
  rintro e w13 ⟨rfl, hb⟩
  have HB13 := Lib.hid hb
  have HZ13 := Lib.hid hb.size
  have HBW13 := Lib.hid (below_up HBW12.out hb (Nat.le_refl _))
  clear hb
  clear zc0 zc1 zy0 zy1
  have zc0 := (HNA.out.below HBW13.out).c0
  have zc1 := (HNA.out.below HBW13.out).c1
  have HX0_13 := Lib.hid (HX0_12.out.below HB13.out)
  have zy0 := HX0_13.out.c0
  have zy1 := HX0_13.out.c1
  have HO4_11 := Lib.hid (HO4_10.out.below HB11.out)
  have HO4_12 := Lib.hid (HO4_11.out.below HB12.out)
  have HO4_13 := Lib.hid (HO4_12.out.below HB13.out)
  go_wp2_with fail
  go_at_call 29
  refine (markBr_any _ _ _ _ _ _ _ _ (1) (Nat.le_trans hl0 (by decide)) (by omega) (by omega) HO4_13.out).mono ?_
  rintro e w14 ⟨rfl, ho, hm⟩
  have HM14 := Lib.hid hm
  have HZ14 := Lib.hid hm.size
  have HBW14 := Lib.hid (below_moved HBW13.out hm (Nat.le_refl _) (Nat.le_trans (Nat.le_trans (Nat.le_trans HZ1.out HZ2.out) HZ3.out) HZ4.out))
  have HO4_14 := Lib.hid ho
  clear ho hm
  clear zc0 zc1 zy0 zy1
  have zc0 := (HNA.out.below HBW14.out).c0
  have zc1 := (HNA.out.below HBW14.out).c1
  have HX0_14 := Lib.hid (HX0_13.out.moved HM14.out (.inr (Nat.le_refl _)))
  have zy0 := HX0_14.out.c0
  have zy1 := HX0_14.out.c1
  have HO5_13 := Lib.hid (HO5_12.out.below HB13.out)
  have HO5_14 := Lib.hid (HO5_13.out.moved HM14.out (.inr HZ6.out))
  go_wp2_with fail
  go_at_call 30
  refine (markI_any _ _ _ _ _ _ _ (1 + len0) (Nat.le_trans hg1 (by decide)) (by omega) (by omega) HO5_14.out).mono ?_
  rintro e w15 ⟨rfl, ho, hm⟩
  have HM15 := Lib.hid hm
  have HZ15 := Lib.hid hm.size
  have HBW15 := Lib.hid (below_moved HBW14.out hm (Nat.le_refl _) (Nat.le_trans (Nat.le_trans (Nat.le_trans (Nat.le_trans (Nat.le_trans HZ1.out HZ2.out) HZ3.out) HZ4.out) HZ5.out) HZ6.out))
  have HO5_15 := Lib.hid ho
  clear ho hm
  clear zc0 zc1 zy0 zy1
  have zc0 := (HNA.out.below HBW15.out).c0
  have zc1 := (HNA.out.below HBW15.out).c1
  have HX0_15 := Lib.hid (HX0_14.out.moved HM15.out (.inl (by have h1 := HXS.out; have h2 : w6.heap.size ≤ w6.heap.size := (Nat.le_refl _); omega)))
  have zy0 := HX0_15.out.c0
  have zy1 := HX0_15.out.c1
  have HO6_9 := Lib.hid (HO6_8.out.below HB9.out)
  have HO6_10 := Lib.hid (HO6_9.out.below HB10.out)
  have HO6_11 := Lib.hid (HO6_10.out.below HB11.out)
  have HO6_12 := Lib.hid (HO6_11.out.below HB12.out)
  have HO6_13 := Lib.hid (HO6_12.out.below HB13.out)
  have HO6_14 := Lib.hid (HO6_13.out.moved HM14.out (.inr (Nat.le_trans HZ6.out HZ7.out)))
  have HO6_15 := Lib.hid (HO6_14.out.moved HM15.out (.inr (Nat.le_refl _)))
  have HO3_9 := Lib.hid (HO3_8.out.below HB9.out)
  have HO3_10 := Lib.hid (HO3_9.out.below HB10.out)
  have HO3_11 := Lib.hid (HO3_10.out.below HB11.out)
  have HO3_12 := Lib.hid (HO3_11.out.below HB12.out)
  have HO3_13 := Lib.hid (HO3_12.out.below HB13.out)
  have HO3_14 := Lib.hid (HO3_13.out.moved HM14.out (.inl (Nat.le_refl _)))
  have HO3_15 := Lib.hid (HO3_14.out.moved HM15.out (.inl (Nat.le_trans HZ5.out HZ6.out)))
  go_wp2_with fail
  go_at_call 28
  refine (eqI_yes _ _ _ _ _ _ _ hl3 HO6_15.out.sees HO3_15.out.sees).mono ?_
  rintro e w16 ⟨rfl, hb⟩
  have HB16 := Lib.hid hb
  have HZ16 := Lib.hid hb.size
  have HBW16 := Lib.hid (below_up HBW15.out hb (Nat.le_refl _))
  clear hb
  clear zc0 zc1 zy0 zy1
  have zc0 := (HNA.out.below HBW16.out).c0
  have zc1 := (HNA.out.below HBW16.out).c1
  have HX0_16 := Lib.hid (HX0_15.out.below HB16.out)
  have zy0 := HX0_16.out.c0
  have zy1 := HX0_16.out.c1
  have HO6_16 := Lib.hid (HO6_15.out.below HB16.out)
  go_wp2_with fail
  go_at_call 30
  refine (markI_any _ _ _ _ _ _ _ 1 hl3 (by omega) (by omega) HO6_16.out).mono ?_
  rintro e w17 ⟨rfl, ho, hm⟩
  have HM17 := Lib.hid hm
  have HZ17 := Lib.hid hm.size
  have HBW17 := Lib.hid (below_moved HBW16.out hm (Nat.le_refl _) (Nat.le_trans (Nat.le_trans (Nat.le_trans (Nat.le_trans (Nat.le_trans (Nat.le_trans HZ1.out HZ2.out) HZ3.out) HZ4.out) HZ5.out) HZ6.out) HZ7.out))
  have HO6_17 := Lib.hid ho
  clear ho hm
  clear zc0 zc1 zy0 zy1
  have zc0 := (HNA.out.below HBW17.out).c0
  have zc1 := (HNA.out.below HBW17.out).c1
  have HX0_17 := Lib.hid (HX0_16.out.moved HM17.out (.inl (by have h1 := HXS.out; have h2 : w6.heap.size ≤ w7.heap.size := HZ7.out; omega)))
  have zy0 := HX0_17.out.c0
  have zy1 := HX0_17.out.c1
  go_wp2_with fail
  go_at_call 31
  refine (heldI_any _ _ _ _ 1 hl3 (by omega) (by omega) HO6_17.out.sees).mono ?_
  rintro e w18 ⟨rfl, hb⟩
  have HB18 := Lib.hid hb
  have HZ18 := Lib.hid hb.size
  have HBW18 := Lib.hid (below_up HBW17.out hb (Nat.le_refl _))
  clear hb
  clear zc0 zc1 zy0 zy1
  have zc0 := (HNA.out.below HBW18.out).c0
  have zc1 := (HNA.out.below HBW18.out).c1
  have HX0_18 := Lib.hid (HX0_17.out.below HB18.out)
  have zy0 := HX0_18.out.c0
  have zy1 := HX0_18.out.c1
  go_wp2_with fail
  go_at_call 22
  refine (toBr_any _ _ _ _ _ _ (Nat.le_trans hl0 (by decide)) (HA0.out.below HBW18.out)).mono ?_
  rintro e w19 ⟨b9, l9, c9, rfl, ho, hb⟩
  obtain rfl : len0 = l9 := HA0.out.1.symm.trans ho.1
  have HO9_19 := Lib.hid ho
  clear ho
  have HB19 := Lib.hid hb
  have HZ19 := Lib.hid hb.size
  have HBW19 := Lib.hid (below_up HBW18.out hb (Nat.le_refl _))
  clear hb
  clear zc0 zc1 zy0 zy1
  have zc0 := (HNA.out.below HBW19.out).c0
  have zc1 := (HNA.out.below HBW19.out).c1
  have HX0_19 := Lib.hid (HX0_18.out.below HB19.out)
  have zy0 := HX0_19.out.c0
  have zy1 := HX0_19.out.c1
  go_wp2_with fail
  go_at_call 27
  refine (toI_any _ _ _ _ _ (Nat.le_trans hg1 (by decide)) (HA1.out.below HBW19.out)).mono ?_
  rintro e w20 ⟨b10, l10, c10, rfl, ho, hb⟩
  obtain rfl : len1 = l10 := HA1.out.1.symm.trans ho.1
  have HO10_20 := Lib.hid ho
  clear ho
  have HB20 := Lib.hid hb
  have HZ20 := Lib.hid hb.size
  have HBW20 := Lib.hid (below_up HBW19.out hb (Nat.le_refl _))
  clear hb
  clear zc0 zc1 zy0 zy1
  have zc0 := (HNA.out.below HBW20.out).c0
  have zc1 := (HNA.out.below HBW20.out).c1
  have HX0_20 := Lib.hid (HX0_19.out.below HB20.out)
  have zy0 := HX0_20.out.c0
  have zy1 := HX0_20.out.c1
  have HO9_20 := Lib.hid (HO9_19.out.below HB20.out)
  go_wp2_with fail
  go_at_call 14
  refine (seenNP_any _ nn0 _ _ _ zs0 _ _ _ zs1 (Nat.le_trans hl0 (by decide)) HO9_20.out.cap HO9_20.out.sees hnw hg1 HO10_20.out.sees).mono ?_
  rintro e w21 ⟨b11, l11, c11, rfl, ho, hb⟩
  obtain rfl : l3 = l11 := HWL.out.symm.trans ho.1
  have HO11_21 := Lib.hid ho
  clear ho
  have HB21 := Lib.hid hb
  have HZ21 := Lib.hid hb.size
  have HBW21 := Lib.hid (below_up HBW20.out hb (Nat.le_refl _))
  clear hb
  clear zc0 zc1 zy0 zy1
  have zc0 := (HNA.out.below HBW21.out).c0
  have zc1 := (HNA.out.below HBW21.out).c1
  have HX0_21 := Lib.hid (HX0_20.out.below HB21.out)
  have zy0 := HX0_21.out.c0
  have zy1 := HX0_21.out.c1
  have HO3_16 := Lib.hid (HO3_15.out.below HB16.out)
  have HO3_17 := Lib.hid (HO3_16.out.moved HM17.out (.inl (Nat.le_trans (Nat.le_trans HZ5.out HZ6.out) HZ7.out)))
  have HO3_18 := Lib.hid (HO3_17.out.below HB18.out)
  have HO3_19 := Lib.hid (HO3_18.out.below HB19.out)
  have HO3_20 := Lib.hid (HO3_19.out.below HB20.out)
  have HO3_21 := Lib.hid (HO3_20.out.below HB21.out)
  go_wp2_with fail
  go_at_call 28
  refine (eqI_yes _ _ _ _ _ _ _ hl3 HO11_21.out.sees HO3_21.out.sees).mono ?_
  rintro e w22 ⟨rfl, hb⟩
  have HB22 := Lib.hid hb
  have HZ22 := Lib.hid hb.size
  have HBW22 := Lib.hid (below_up HBW21.out hb (Nat.le_refl _))
  clear hb
  clear zc0 zc1 zy0 zy1
  have zc0 := (HNA.out.below HBW22.out).c0
  have zc1 := (HNA.out.below HBW22.out).c1
  have HX0_22 := Lib.hid (HX0_21.out.below HB22.out)
  have zy0 := HX0_22.out.c0
  have zy1 := HX0_22.out.c1
  have HO6_18 := Lib.hid (HO6_17.out.below HB18.out)
  have HO6_19 := Lib.hid (HO6_18.out.below HB19.out)
  have HO6_20 := Lib.hid (HO6_19.out.below HB20.out)
  have HO6_21 := Lib.hid (HO6_20.out.below HB21.out)
  have HO6_22 := Lib.hid (HO6_21.out.below HB22.out)
  go_wp2_with fail
  go_at_call 31
  refine (heldI_any _ _ _ _ 1 hl3 (by omega) (by omega) HO6_22.out.sees).mono ?_
  rintro e w23 ⟨rfl, hb⟩
  have HB23 := Lib.hid hb
  have HZ23 := Lib.hid hb.size
  have HBW23 := Lib.hid (below_up HBW22.out hb (Nat.le_refl _))
  clear hb
  clear zc0 zc1 zy0 zy1
  have zc0 := (HNA.out.below HBW23.out).c0
  have zc1 := (HNA.out.below HBW23.out).c1
  have HX0_23 := Lib.hid (HX0_22.out.below HB23.out)
  have zy0 := HX0_23.out.c0
  have zy1 := HX0_23.out.c1
  go_wp2_with fail
  go_ret
  exact ⟨rfl, HBV.out.trans (HBW23.out.mono HBV.out.size)⟩
end Go.Proofs.Ytgninjdnfidpcaa
