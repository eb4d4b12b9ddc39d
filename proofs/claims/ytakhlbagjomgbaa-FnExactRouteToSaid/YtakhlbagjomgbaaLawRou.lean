/- The walk of the law on RouteTo. -/
import Derived.Test.YtakhlbagjomgbaaNetG
namespace Go.Proofs.Ytakhlbagjomgbaa
open Go.RowKit
set_option maxHeartbeats 4000000 in
set_option maxRecDepth 20000 in
theorem lawRouteTo_walk (nn0 : Int) (a0 : Option Addr) (len0 cap0 : Nat) (z0 : List (Int × Int)) (n1 : Int) (n2 : Int) (W : World) (q0 : IsLinks W a0 len0 z0) (q1 : (Lit.int .i64 n1).wf = true) (q2 : (Lit.int .i64 n2).wf = true) : Calls Try.prog 7 #[.agg #[.int .i64 nn0, .slice a0 len0 cap0], .int .i64 n1, .int .i64 n2] W fun e W' => e = .returned (.bool true) ∧ Below W.heap.size W W' := by
  obtain ⟨V, hV⟩ : ∃ V, V = W.alloc (.cells #[.int .i64 nn0, .slice a0 len0 cap0] 38) := ⟨_, rfl⟩
  have HBV : Hid (Below W.heap.size W V) := Lib.hid (by rw [hV]; exact below_new _ _)
  have HNA := Lib.hid (show NetAt V W.heap.size nn0 a0 len0 cap0 by rw [hV]; exact net_new _ _ _ _ _ _)
  obtain ⟨zs0, hs0⟩ : ∃ zs, SeesL W a0 len0 zs := ⟨_, q0.1⟩
  have hc0 := q0.2
  have HA0 := Lib.hid (hs0.below HBV.out)
  clear hs0 q0
  obtain ⟨hn1, hm1⟩ := bounds_i64 q1
  clear q1
  obtain ⟨hn2, hm2⟩ := bounds_i64 q2
  clear q2
  by_cases hg0 : (len0 : Int) ≤ 1048576
  case neg =>
    go_enter Try.func7, Try.ntmps7
    go_wp2_with fail
    go_at_call 19
    refine (szNet_any _ _ _ _ _ 1048576 (-1) hc0 (by omega) (by omega) (by rw [if_pos (by omega)])).mono ?_
    rintro e w2 ⟨rfl, hb⟩
    have HB1 := Lib.hid hb
    clear hb
    go_wp2_with fail
    go_ret
    exact ⟨rfl, below_up (below_new _ _) HB1.out (Nat.le_refl _)⟩
  have hw0 : ¬ 1048576 - (len0 : Int) < 0 := by omega
  have hl0 : len0 ≤ 1048576 := by omega
  go_enter Try.func7, Try.ntmps7
  go_wp2_with fail
  rw [← hV]
  clear hV
  go_at_call 19
  refine (szNet_any _ _ _ _ _ 1048576 (1048576 - len0) hc0 (by omega) (by omega) (by rw [if_neg (by omega)])).mono ?_
  rintro e w1 ⟨rfl, hb⟩
  have HB1 := Lib.hid hb
  have HZ1 := Lib.hid hb.size
  have HBW1 := Lib.hid (hb)
  clear hb
  have zc0 := (HNA.out.below HBW1.out).c0
  have zc1 := (HNA.out.below HBW1.out).c1
  go_wp2_with fail
  go_at_call 20
  refine (toNet_any _ _ _ _ _ _ (Nat.le_trans hl0 (by decide)) (HA0.out.below HBW1.out)).mono ?_
  rintro e w2 ⟨b1, l1, c1, rfl, ho, hb⟩
  obtain rfl : len0 = l1 := HA0.out.1.symm.trans ho.1
  have HO1_2 := Lib.hid ho
  clear ho
  have HB2 := Lib.hid hb
  have HZ2 := Lib.hid hb.size
  have HBW2 := Lib.hid (below_up HBW1.out hb (Nat.le_refl _))
  clear hb
  clear zc0 zc1
  have zc0 := (HNA.out.below HBW2.out).c0
  have zc1 := (HNA.out.below HBW2.out).c1
  go_wp2_with fail
  go_at_call 26
  refine (specRoute_any _ nn0 _ _ _ zs0 n1 n2 (Nat.le_trans hl0 (by decide)) HO1_2.out.sees).mono ?_
  rintro e w3 ⟨b2, l2, c2, rfl, ho, hb⟩
  have hl2 : l2 ≤ 1073741824 := by have h1 := ho.1; have h2 := route_len nn0 zs0 n1 n2; omega
  have HO2_3 := Lib.hid ho
  clear ho
  have HB3 := Lib.hid hb
  have HZ3 := Lib.hid hb.size
  have HBW3 := Lib.hid (below_up HBW2.out hb (Nat.le_refl _))
  clear hb
  clear zc0 zc1
  have zc0 := (HNA.out.below HBW3.out).c0
  have zc1 := (HNA.out.below HBW3.out).c1
  have HWL := Lib.hid (HO2_3.out.1)
  go_wp2_with fail
  go_at_call 20
  refine (toNet_any _ _ _ _ _ _ (Nat.le_trans hl0 (by decide)) (HA0.out.below HBW3.out)).mono ?_
  rintro e w4 ⟨b3, l3, c3, rfl, ho, hb⟩
  obtain rfl : len0 = l3 := HA0.out.1.symm.trans ho.1
  have HO3_4 := Lib.hid ho
  clear ho
  have HB4 := Lib.hid hb
  have HZ4 := Lib.hid hb.size
  have HBW4 := Lib.hid (below_up HBW3.out hb (Nat.le_refl _))
  clear hb
  clear zc0 zc1
  have zc0 := (HNA.out.below HBW4.out).c0
  have zc1 := (HNA.out.below HBW4.out).c1
  go_wp2_with fail
  obtain ⟨w5, hU⟩ : ∃ U, U = w4.alloc (.cells #[.int .i64 nn0, .slice b3 len0 c3] 26) := ⟨_, rfl⟩
  have hb : Below w4.heap.size w4 w5 := by rw [hU]; exact below_new _ _
  have HX0_5 := Lib.hid (show NetAt w5 w4.heap.size nn0 b3 len0 c3 by rw [hU]; exact net_new _ _ _ _ _ _)
  have HXS := Lib.hid (show w5.heap.size = w4.heap.size + 1 by rw [hU]; simp)
  rw [← hU]
  clear hU
  have HB5 := Lib.hid hb
  have HZ5 := Lib.hid hb.size
  have HBW5 := Lib.hid (below_up HBW4.out hb (Nat.le_refl _))
  clear hb
  clear zc0 zc1
  have zc0 := (HNA.out.below HBW5.out).c0
  have zc1 := (HNA.out.below HBW5.out).c1
  have zy0 := HX0_5.out.c0
  have zy1 := HX0_5.out.c1
  have HO3_5 := Lib.hid (HO3_4.out.below HB5.out)
  go_at_call 12
  refine (routeP_any _ nn0 _ _ _ zs0 n1 n2 (Nat.le_trans hl0 (by decide)) HO3_5.out.sees).mono ?_
  rintro e w6 ⟨b4, l4, c4, rfl, ho, hb⟩
  obtain rfl : l2 = l4 := HWL.out.symm.trans ho.1
  have HO4_6 := Lib.hid ho
  clear ho
  have HB6 := Lib.hid hb
  have HZ6 := Lib.hid hb.size
  have HBW6 := Lib.hid (below_up HBW5.out hb (Nat.le_refl _))
  clear hb
  clear zc0 zc1 zy0 zy1
  have zc0 := (HNA.out.below HBW6.out).c0
  have zc1 := (HNA.out.below HBW6.out).c1
  have HX0_6 := Lib.hid (HX0_5.out.below HB6.out)
  have zy0 := HX0_6.out.c0
  have zy1 := HX0_6.out.c1
  have HO2_4 := Lib.hid (HO2_3.out.below HB4.out)
  have HO2_5 := Lib.hid (HO2_4.out.below HB5.out)
  have HO2_6 := Lib.hid (HO2_5.out.below HB6.out)
  go_wp2_with fail
  go_at_call 25
  refine (eqI_yes _ _ _ _ _ _ _ hl2 HO4_6.out.sees HO2_6.out.sees).mono ?_
  rintro e w7 ⟨rfl, hb⟩
  have HB7 := Lib.hid hb
  have HZ7 := Lib.hid hb.size
  have HBW7 := Lib.hid (below_up HBW6.out hb (Nat.le_refl _))
  clear hb
  clear zc0 zc1 zy0 zy1
  have zc0 := (HNA.out.below HBW7.out).c0
  have zc1 := (HNA.out.below HBW7.out).c1
  have HX0_7 := Lib.hid (HX0_6.out.below HB7.out)
  have zy0 := HX0_7.out.c0
  have zy1 := HX0_7.out.c1
  go_wp2_with fail
  go_region_held3 (fun w' => w'.cell? ⟨w4.heap.size, 0, none⟩ = some (.int .i64 nn0) ∧ w'.cell? ⟨w4.heap.size, 1, none⟩ = some (.slice b3 len0 c3) ∧ w'.cell? ⟨W.heap.size, 0, none⟩ = some (.int .i64 nn0) ∧ w'.cell? ⟨W.heap.size, 1, none⟩ = some (.slice a0 len0 cap0)) (go_keep) (first
    | (go_at_call 20; refine (toNet_any _ nn0 _ _ _ zs0 (Nat.le_trans hl0 (by decide)) (HA0.out.below (HBW7.out.drew))).mono ?_; rintro e w8 ⟨b5, l5, c5, rfl, ho, hb⟩; have hb := below_drop hb; obtain rfl : len0 = l5 := HA0.out.1.symm.trans ho.1; have ho : OwnL w8 w7.heap.size w8.heap.size b5 len0 c5 zs0 := ho; have HO5_8 := Lib.hid ho; clear ho; have HB8 := Lib.hid hb; have HZ8 := Lib.hid hb.size; have HBW8 := Lib.hid (below_up HBW7.out hb (Nat.le_refl _)); clear hb; clear zc0 zc1 zy0 zy1; have zc0 := (HNA.out.below HBW8.out).c0; have zc1 := (HNA.out.below HBW8.out).c1; have HX0_8 := Lib.hid (HX0_7.out.below HB8.out); have zy0 := HX0_8.out.c0; have zy1 := HX0_8.out.c1; have HO3_6 := Lib.hid (HO3_5.out.below HB6.out); have HO3_7 := Lib.hid (HO3_6.out.below HB7.out); have HO3_8 := Lib.hid (HO3_7.out.below HB8.out))
    | (go_at_call 21; refine (eqNet_yes _ _ _ _ _ _ _ _ (Nat.le_trans hl0 (by decide)) HO3_8.out.sees HO5_8.out.sees).mono ?_; rintro e w9 ⟨rfl, hb⟩; have HB9 := Lib.hid hb; have HZ9 := Lib.hid hb.size; have HBW9 := Lib.hid (below_up HBW8.out hb (Nat.le_refl _)); clear hb; clear zc0 zc1 zy0 zy1; have zc0 := (HNA.out.below HBW9.out).c0; have zc1 := (HNA.out.below HBW9.out).c1; have HX0_9 := Lib.hid (HX0_8.out.below HB9.out); have zy0 := HX0_9.out.c0; have zy1 := HX0_9.out.c1))
  have HO3_9 := Lib.hid (HO3_8.out.below HB9.out)
  go_wp2_with fail
  go_at_call 27
  refine (markNet_any _ _ _ _ _ _ _ _ (1) (Nat.le_trans hl0 (by decide)) (by omega) (by omega) HO3_9.out).mono ?_
  rintro e w10 ⟨rfl, ho, hm⟩
  have HM10 := Lib.hid hm
  have HZ10 := Lib.hid hm.size
  have HBW10 := Lib.hid (below_moved HBW9.out hm (Nat.le_refl _) (Nat.le_trans (Nat.le_trans HZ1.out HZ2.out) HZ3.out))
  have HO3_10 := Lib.hid ho
  clear ho hm
  clear zc0 zc1 zy0 zy1
  have zc0 := (HNA.out.below HBW10.out).c0
  have zc1 := (HNA.out.below HBW10.out).c1
  have HX0_10 := Lib.hid (HX0_9.out.moved HM10.out (.inr (Nat.le_refl _)))
  have zy0 := HX0_10.out.c0
  have zy1 := HX0_10.out.c1
  have HO4_7 := Lib.hid (HO4_6.out.below HB7.out)
  have HO4_8 := Lib.hid (HO4_7.out.below HB8.out)
  have HO4_9 := Lib.hid (HO4_8.out.below HB9.out)
  have HO4_10 := Lib.hid (HO4_9.out.moved HM10.out (.inr HZ5.out))
  have HO2_7 := Lib.hid (HO2_6.out.below HB7.out)
  have HO2_8 := Lib.hid (HO2_7.out.below HB8.out)
  have HO2_9 := Lib.hid (HO2_8.out.below HB9.out)
  have HO2_10 := Lib.hid (HO2_9.out.moved HM10.out (.inl (Nat.le_refl _)))
  go_wp2_with fail
  go_at_call 25
  refine (eqI_yes _ _ _ _ _ _ _ hl2 HO4_10.out.sees HO2_10.out.sees).mono ?_
  rintro e w11 ⟨rfl, hb⟩
  have HB11 := Lib.hid hb
  have HZ11 := Lib.hid hb.size
  have HBW11 := Lib.hid (below_up HBW10.out hb (Nat.le_refl _))
  clear hb
  clear zc0 zc1 zy0 zy1
  have zc0 := (HNA.out.below HBW11.out).c0
  have zc1 := (HNA.out.below HBW11.out).c1
  have HX0_11 := Lib.hid (HX0_10.out.below HB11.out)
  have zy0 := HX0_11.out.c0
  have zy1 := HX0_11.out.c1
  have HO4_11 := Lib.hid (HO4_10.out.below HB11.out)
  go_wp2_with fail
  go_at_call 28
  refine (markI_any _ _ _ _ _ _ _ 1 hl2 (by omega) (by omega) HO4_11.out).mono ?_
  rintro e w12 ⟨rfl, ho, hm⟩
  have HM12 := Lib.hid hm
  have HZ12 := Lib.hid hm.size
  have HBW12 := Lib.hid (below_moved HBW11.out hm (Nat.le_refl _) (Nat.le_trans (Nat.le_trans (Nat.le_trans (Nat.le_trans HZ1.out HZ2.out) HZ3.out) HZ4.out) HZ5.out))
  have HO4_12 := Lib.hid ho
  clear ho hm
  clear zc0 zc1 zy0 zy1
  have zc0 := (HNA.out.below HBW12.out).c0
  have zc1 := (HNA.out.below HBW12.out).c1
  have HX0_12 := Lib.hid (HX0_11.out.moved HM12.out (.inl (by have h1 := HXS.out; have h2 : w5.heap.size ≤ w5.heap.size := (Nat.le_refl _); omega)))
  have zy0 := HX0_12.out.c0
  have zy1 := HX0_12.out.c1
  go_wp2_with fail
  go_at_call 29
  refine (heldI_any _ _ _ _ 1 hl2 (by omega) (by omega) HO4_12.out.sees).mono ?_
  rintro e w13 ⟨rfl, hb⟩
  have HB13 := Lib.hid hb
  have HZ13 := Lib.hid hb.size
  have HBW13 := Lib.hid (below_up HBW12.out hb (Nat.le_refl _))
  clear hb
  clear zc0 zc1 zy0 zy1
  have zc0 := (HNA.out.below HBW13.out).c0
  have zc1 := (HNA.out.below HBW13.out).c1
  have HX0_13 := Lib.hid (HX0_12.out.below HB13.out)
  have zy0 := HX0_13.out.c0
  have zy1 := HX0_13.out.c1
  go_wp2_with fail
  go_at_call 20
  refine (toNet_any _ _ _ _ _ _ (Nat.le_trans hl0 (by decide)) (HA0.out.below HBW13.out)).mono ?_
  rintro e w14 ⟨b6, l6, c6, rfl, ho, hb⟩
  obtain rfl : len0 = l6 := HA0.out.1.symm.trans ho.1
  have HO6_14 := Lib.hid ho
  clear ho
  have HB14 := Lib.hid hb
  have HZ14 := Lib.hid hb.size
  have HBW14 := Lib.hid (below_up HBW13.out hb (Nat.le_refl _))
  clear hb
  clear zc0 zc1 zy0 zy1
  have zc0 := (HNA.out.below HBW14.out).c0
  have zc1 := (HNA.out.below HBW14.out).c1
  have HX0_14 := Lib.hid (HX0_13.out.below HB14.out)
  have zy0 := HX0_14.out.c0
  have zy1 := HX0_14.out.c1
  go_wp2_with fail
  go_at_call 12
  refine (routeP_any _ nn0 _ _ _ zs0 n1 n2 (Nat.le_trans hl0 (by decide)) HO6_14.out.sees).mono ?_
  rintro e w15 ⟨b7, l7, c7, rfl, ho, hb⟩
  obtain rfl : l2 = l7 := HWL.out.symm.trans ho.1
  have HO7_15 := Lib.hid ho
  clear ho
  have HB15 := Lib.hid hb
  have HZ15 := Lib.hid hb.size
  have HBW15 := Lib.hid (below_up HBW14.out hb (Nat.le_refl _))
  clear hb
  clear zc0 zc1 zy0 zy1
  have zc0 := (HNA.out.below HBW15.out).c0
  have zc1 := (HNA.out.below HBW15.out).c1
  have HX0_15 := Lib.hid (HX0_14.out.below HB15.out)
  have zy0 := HX0_15.out.c0
  have zy1 := HX0_15.out.c1
  have HO2_11 := Lib.hid (HO2_10.out.below HB11.out)
  have HO2_12 := Lib.hid (HO2_11.out.moved HM12.out (.inl (Nat.le_trans HZ4.out HZ5.out)))
  have HO2_13 := Lib.hid (HO2_12.out.below HB13.out)
  have HO2_14 := Lib.hid (HO2_13.out.below HB14.out)
  have HO2_15 := Lib.hid (HO2_14.out.below HB15.out)
  go_wp2_with fail
  go_at_call 25
  refine (eqI_yes _ _ _ _ _ _ _ hl2 HO7_15.out.sees HO2_15.out.sees).mono ?_
  rintro e w16 ⟨rfl, hb⟩
  have HB16 := Lib.hid hb
  have HZ16 := Lib.hid hb.size
  have HBW16 := Lib.hid (below_up HBW15.out hb (Nat.le_refl _))
  clear hb
  clear zc0 zc1 zy0 zy1
  have zc0 := (HNA.out.below HBW16.out).c0
  have zc1 := (HNA.out.below HBW16.out).c1
  have HX0_16 := Lib.hid (HX0_15.out.below HB16.out)
  have zy0 := HX0_16.out.c0
  have zy1 := HX0_16.out.c1
  have HO4_13 := Lib.hid (HO4_12.out.below HB13.out)
  have HO4_14 := Lib.hid (HO4_13.out.below HB14.out)
  have HO4_15 := Lib.hid (HO4_14.out.below HB15.out)
  have HO4_16 := Lib.hid (HO4_15.out.below HB16.out)
  go_wp2_with fail
  go_at_call 29
  refine (heldI_any _ _ _ _ 1 hl2 (by omega) (by omega) HO4_16.out.sees).mono ?_
  rintro e w17 ⟨rfl, hb⟩
  have HB17 := Lib.hid hb
  have HZ17 := Lib.hid hb.size
  have HBW17 := Lib.hid (below_up HBW16.out hb (Nat.le_refl _))
  clear hb
  clear zc0 zc1 zy0 zy1
  have zc0 := (HNA.out.below HBW17.out).c0
  have zc1 := (HNA.out.below HBW17.out).c1
  have HX0_17 := Lib.hid (HX0_16.out.below HB17.out)
  have zy0 := HX0_17.out.c0
  have zy1 := HX0_17.out.c1
  go_wp2_with fail
  go_ret
  exact ⟨rfl, HBV.out.trans (HBW17.out.mono HBV.out.size)⟩
end Go.Proofs.Ytakhlbagjomgbaa
