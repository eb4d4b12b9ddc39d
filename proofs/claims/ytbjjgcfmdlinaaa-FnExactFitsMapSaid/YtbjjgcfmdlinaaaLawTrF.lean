/- The walk of the law on FitsMap. -/
import Derived.Test.YtbjjgcfmdlinaaaTrP5
import Derived.Test.YtbjjgcfmdlinaaaTrN
import Derived.Test.YtbjjgcfmdlinaaaNetL
import Derived.Test.YtbjjgcfmdlinaaaTrL
namespace Go.Proofs.Ytbjjgcfmdlinaaa
open Go.RowKit
set_option maxHeartbeats 4000000 in
set_option maxRecDepth 20000 in
theorem lawFitsMap_walk (nn0 : Int) (a0 : Option Addr) (len0 cap0 : Nat) (z0 : List (Int × Int)) (a1 : Option Addr) (len1 cap1 : Nat) (z1 : List (List Int)) (W : World) (q0 : IsLinks W a0 len0 z0) (q1 : IsRows W a1 len1 z1) : Calls Try.prog 7 #[.agg #[.int .i64 nn0, .slice a0 len0 cap0], .slice a1 len1 cap1] W fun e W' => e = .returned (.bool true) ∧ Below W.heap.size W W' := by
  obtain ⟨V, hV⟩ : ∃ V, V = W.alloc (.cells #[.int .i64 nn0, .slice a0 len0 cap0] 52) := ⟨_, rfl⟩
  have HBV : Hid (Below W.heap.size W V) := Lib.hid (by rw [hV]; exact below_new _ _)
  have HNA := Lib.hid (show NetAt V W.heap.size nn0 a0 len0 cap0 by rw [hV]; exact net_new _ _ _ _ _ _)
  obtain ⟨zs0, hs0⟩ : ∃ zs, SeesL W a0 len0 zs := ⟨_, q0.1⟩
  have hc0 := q0.2
  have HA0 := Lib.hid (hs0.below HBV.out)
  clear hs0 q0
  obtain ⟨zs1, hs1⟩ : ∃ zs, SeesM W a1 len1 zs := ⟨_, q1.1⟩
  have hc1 := q1.2
  have HA1 := Lib.hid (hs1.below HBV.out)
  clear hs1 q1
  by_cases hg0 : (len0 : Int) ≤ 1048576
  case neg =>
    go_enter Try.func7, Try.ntmps7
    go_wp2_with fail
    go_at_call 28
    refine (szNet_any _ _ _ _ _ 1048576 (-1) hc0 (by omega) (by omega) (by rw [if_pos (by omega)])).mono ?_
    rintro e w2 ⟨rfl, hb⟩
    have HB1 := Lib.hid hb
    clear hb
    go_wp2_with fail
    go_ret
    exact ⟨rfl, below_up (below_new _ _) HB1.out (Nat.le_refl _)⟩
  have hw0 : ¬ 1048576 - (len0 : Int) < 0 := by omega
  have hl0 : len0 ≤ 1048576 := by omega
  by_cases hg1 : (1048576 - (len0 : Int)) < (zs1.length : Int) + (tot zs1 zs1.length : Int)
  case pos =>
    go_enter Try.func7, Try.ntmps7
    go_wp2_with fail
    rw [← hV]
    clear hV
    go_at_call 28
    refine (szNet_any _ _ _ _ _ 1048576 (1048576 - len0) hc0 (by omega) (by omega) (by rw [if_neg (by omega)])).mono ?_
    rintro e w1 ⟨rfl, hb⟩
    have HB1 := Lib.hid hb
    clear hb
    go_wp2_with fail
    go_at_call 19
    refine (szT_any _ _ _ _ zs1 (1048576 - (len0 : Int)) (-1) hc1 (HA1.out.below HB1.out) (by omega) (by omega) (by rw [if_pos hg1])).mono ?_
    rintro e w2 ⟨rfl, hb⟩
    have HB2 := Lib.hid hb
    clear hb
    go_wp2_with fail
    go_ret
    exact ⟨rfl, below_up (below_up HBV.out HB1.out (Nat.le_refl _)) HB2.out (Nat.le_refl _)⟩
  obtain ⟨v1, hv1⟩ : ∃ v, v = (1048576 - (len0 : Int)) - (zs1.length : Int) - (tot zs1 zs1.length : Int) := ⟨_, rfl⟩
  have HV1 : Hid (v1 = if (1048576 - (len0 : Int)) < (zs1.length : Int) + (tot zs1 zs1.length : Int) then -1 else (1048576 - (len0 : Int)) - (zs1.length : Int) - (tot zs1 zs1.length : Int)) := Lib.hid (by rw [if_neg hg1]; exact hv1)
  have HG1 : Hid (SmallM zs1) := Lib.hid (by unfold SmallM; omega)
  have hl1 : len1 ≤ 1048576 := by have h1 := HA1.out.1; omega
  have ht1 : tot zs1 len1 ≤ 1048576 := by have h1 := HA1.out.1; rw [h1] at hg1; omega
  have hx1 : ¬ v1 < 0 := by omega
  clear hv1 hg1
  go_enter Try.func7, Try.ntmps7
  go_wp2_with fail
  rw [← hV]
  clear hV
  go_at_call 28
  refine (szNet_any _ _ _ _ _ 1048576 (1048576 - len0) hc0 (by omega) (by omega) (by rw [if_neg (by omega)])).mono ?_
  rintro e w1 ⟨rfl, hb⟩
  have HB1 := Lib.hid hb
  have HZ1 := Lib.hid hb.size
  have HBW1 := Lib.hid (hb)
  clear hb
  have zc0 := (HNA.out.below HBW1.out).c0
  have zc1 := (HNA.out.below HBW1.out).c1
  go_wp2_with fail
  go_at_call 19
  refine (szT_any _ _ _ _ zs1 (1048576 - (len0 : Int)) v1 hc1 (HA1.out.below HBW1.out) (by omega) (by omega) HV1.out).mono ?_
  rintro e w2 ⟨rfl, hb⟩
  have HB2 := Lib.hid hb
  have HZ2 := Lib.hid hb.size
  have HBW2 := Lib.hid (below_up HBW1.out hb (Nat.le_refl _))
  clear hb
  clear zc0 zc1
  have zc0 := (HNA.out.below HBW2.out).c0
  have zc1 := (HNA.out.below HBW2.out).c1
  go_wp2_with fail
  go_at_call 30
  refine (toNet_any _ _ _ _ _ _ (Nat.le_trans hl0 (by decide)) (HA0.out.below HBW2.out)).mono ?_
  rintro e w3 ⟨b1, l1, c1, rfl, ho, hb⟩
  obtain rfl : len0 = l1 := HA0.out.1.symm.trans ho.1
  have HO1_3 := Lib.hid ho
  clear ho
  have HB3 := Lib.hid hb
  have HZ3 := Lib.hid hb.size
  have HBW3 := Lib.hid (below_up HBW2.out hb (Nat.le_refl _))
  clear hb
  clear zc0 zc1
  have zc0 := (HNA.out.below HBW3.out).c0
  have zc1 := (HNA.out.below HBW3.out).c1
  go_wp2_with fail
  go_at_call 20
  refine (toT_any _ _ _ _ _ HG1.out (HA1.out.below HBW3.out)).mono ?_
  rintro e w4 ⟨b2, l2, c2, rfl, ho, hb⟩
  obtain rfl : len1 = l2 := HA1.out.1.symm.trans ho.1
  have HO2_4 := Lib.hid ho
  clear ho
  have HB4 := Lib.hid hb
  have HZ4 := Lib.hid hb.size
  have HBW4 := Lib.hid (below_up HBW3.out hb (Nat.le_refl _))
  clear hb
  clear zc0 zc1
  have zc0 := (HNA.out.below HBW4.out).c0
  have zc1 := (HNA.out.below HBW4.out).c1
  have HO1_4 := Lib.hid (HO1_3.out.below HB4.out)
  go_wp2_with fail
  go_at_call 29
  refine (specFits_any _ nn0 _ _ _ zs0 _ _ _ zs1 (Nat.le_trans hl0 (by decide)) HO1_4.out.sees (Nat.le_trans hl1 (by decide)) HO2_4.out.sees).mono ?_
  rintro e w5 ⟨rfl, hb⟩
  have HB5 := Lib.hid hb
  have HZ5 := Lib.hid hb.size
  have HBW5 := Lib.hid (below_up HBW4.out hb (Nat.le_refl _))
  clear hb
  clear zc0 zc1
  have zc0 := (HNA.out.below HBW5.out).c0
  have zc1 := (HNA.out.below HBW5.out).c1
  go_wp2_with fail
  go_at_call 30
  refine (toNet_any _ _ _ _ _ _ (Nat.le_trans hl0 (by decide)) (HA0.out.below HBW5.out)).mono ?_
  rintro e w6 ⟨b3, l3, c3, rfl, ho, hb⟩
  obtain rfl : len0 = l3 := HA0.out.1.symm.trans ho.1
  have HO3_6 := Lib.hid ho
  clear ho
  have HB6 := Lib.hid hb
  have HZ6 := Lib.hid hb.size
  have HBW6 := Lib.hid (below_up HBW5.out hb (Nat.le_refl _))
  clear hb
  clear zc0 zc1
  have zc0 := (HNA.out.below HBW6.out).c0
  have zc1 := (HNA.out.below HBW6.out).c1
  go_wp2_with fail
  obtain ⟨w7, hU⟩ : ∃ U, U = w6.alloc (.cells #[.int .i64 nn0, .slice b3 len0 c3] 26) := ⟨_, rfl⟩
  have hb : Below w6.heap.size w6 w7 := by rw [hU]; exact below_new _ _
  have HX0_7 := Lib.hid (show NetAt w7 w6.heap.size nn0 b3 len0 c3 by rw [hU]; exact net_new _ _ _ _ _ _)
  have HXS := Lib.hid (show w7.heap.size = w6.heap.size + 1 by rw [hU]; simp)
  rw [← hU]
  clear hU
  have HB7 := Lib.hid hb
  have HZ7 := Lib.hid hb.size
  have HBW7 := Lib.hid (below_up HBW6.out hb (Nat.le_refl _))
  clear hb
  clear zc0 zc1
  have zc0 := (HNA.out.below HBW7.out).c0
  have zc1 := (HNA.out.below HBW7.out).c1
  have zy0 := HX0_7.out.c0
  have zy1 := HX0_7.out.c1
  go_at_call 20
  refine (toT_any _ _ _ _ _ HG1.out (HA1.out.below HBW7.out)).mono ?_
  rintro e w8 ⟨b4, l4, c4, rfl, ho, hb⟩
  obtain rfl : len1 = l4 := HA1.out.1.symm.trans ho.1
  have HO4_8 := Lib.hid ho
  clear ho
  have HB8 := Lib.hid hb
  have HZ8 := Lib.hid hb.size
  have HBW8 := Lib.hid (below_up HBW7.out hb (Nat.le_refl _))
  clear hb
  clear zc0 zc1 zy0 zy1
  have zc0 := (HNA.out.below HBW8.out).c0
  have zc1 := (HNA.out.below HBW8.out).c1
  have HX0_8 := Lib.hid (HX0_7.out.below HB8.out)
  have zy0 := HX0_8.out.c0
  have zy1 := HX0_8.out.c1
  have HO3_7 := Lib.hid (HO3_6.out.below HB7.out)
  have HO3_8 := Lib.hid (HO3_7.out.below HB8.out)
  go_wp2_with fail
  go_at_call 14
  refine (fitsP_any _ nn0 _ _ _ zs0 _ _ _ zs1 (Nat.le_trans hl0 (by decide)) HO3_8.out.sees HG1.out HO4_8.out.sees).mono ?_
  rintro e w9 ⟨rfl, hb⟩
  have HB9 := Lib.hid hb
  have HZ9 := Lib.hid hb.size
  have HBW9 := Lib.hid (below_up HBW8.out hb (Nat.le_refl _))
  clear hb
  clear zc0 zc1 zy0 zy1
  have zc0 := (HNA.out.below HBW9.out).c0
  have zc1 := (HNA.out.below HBW9.out).c1
  have HX0_9 := Lib.hid (HX0_8.out.below HB9.out)
  have zy0 := HX0_9.out.c0
  have zy1 := HX0_9.out.c1
  go_wp2_with fail
  go_region_held3 (fun w' => w'.cell? ⟨w6.heap.size, 0, none⟩ = some (.int .i64 nn0) ∧ w'.cell? ⟨w6.heap.size, 1, none⟩ = some (.slice b3 len0 c3) ∧ w'.cell? ⟨W.heap.size, 0, none⟩ = some (.int .i64 nn0) ∧ w'.cell? ⟨W.heap.size, 1, none⟩ = some (.slice a0 len0 cap0)) (go_keep) (first
    | (go_at_call 30; refine (toNet_any _ nn0 _ _ _ zs0 (Nat.le_trans hl0 (by decide)) (HA0.out.below (HBW9.out.drew))).mono ?_; rintro e w10 ⟨b5, l5, c5, rfl, ho, hb⟩; have hb := below_drop hb; obtain rfl : len0 = l5 := HA0.out.1.symm.trans ho.1; have ho : OwnL w10 w9.heap.size w10.heap.size b5 len0 c5 zs0 := ho; have HO5_10 := Lib.hid ho; clear ho; have HB10 := Lib.hid hb; have HZ10 := Lib.hid hb.size; have HBW10 := Lib.hid (below_up HBW9.out hb (Nat.le_refl _)); clear hb; clear zc0 zc1 zy0 zy1; have zc0 := (HNA.out.below HBW10.out).c0; have zc1 := (HNA.out.below HBW10.out).c1; have HX0_10 := Lib.hid (HX0_9.out.below HB10.out); have zy0 := HX0_10.out.c0; have zy1 := HX0_10.out.c1; have HO3_9 := Lib.hid (HO3_8.out.below HB9.out); have HO3_10 := Lib.hid (HO3_9.out.below HB10.out))
    | (go_at_call 31; refine (eqNet_yes _ _ _ _ _ _ _ _ (Nat.le_trans hl0 (by decide)) HO3_10.out.sees HO5_10.out.sees).mono ?_; rintro e w11 ⟨rfl, hb⟩; have HB11 := Lib.hid hb; have HZ11 := Lib.hid hb.size; have HBW11 := Lib.hid (below_up HBW10.out hb (Nat.le_refl _)); clear hb; clear zc0 zc1 zy0 zy1; have zc0 := (HNA.out.below HBW11.out).c0; have zc1 := (HNA.out.below HBW11.out).c1; have HX0_11 := Lib.hid (HX0_10.out.below HB11.out); have zy0 := HX0_11.out.c0; have zy1 := HX0_11.out.c1))
  go_wp2_with fail
  go_at_call 20
  refine (toT_any _ _ _ _ _ HG1.out (HA1.out.below HBW11.out)).mono ?_
  rintro e w12 ⟨b6, l6, c6, rfl, ho, hb⟩
  obtain rfl : len1 = l6 := HA1.out.1.symm.trans ho.1
  have HO6_12 := Lib.hid ho
  clear ho
  have HB12 := Lib.hid hb
  have HZ12 := Lib.hid hb.size
  have HBW12 := Lib.hid (below_up HBW11.out hb (Nat.le_refl _))
  clear hb
  clear zc0 zc1 zy0 zy1
  have zc0 := (HNA.out.below HBW12.out).c0
  have zc1 := (HNA.out.below HBW12.out).c1
  have HX0_12 := Lib.hid (HX0_11.out.below HB12.out)
  have zy0 := HX0_12.out.c0
  have zy1 := HX0_12.out.c1
  have HO4_9 := Lib.hid (HO4_8.out.below HB9.out)
  have HO4_10 := Lib.hid (HO4_9.out.below HB10.out)
  have HO4_11 := Lib.hid (HO4_10.out.below HB11.out)
  have HO4_12 := Lib.hid (HO4_11.out.below HB12.out)
  go_wp2_with fail
  go_at_call 21
  refine (eqT_yes _ _ _ _ _ _ _ HG1.out HO4_12.out.sees HO6_12.out.sees).mono ?_
  rintro e w13 ⟨rfl, hb⟩
  have HB13 := Lib.hid hb
  have HZ13 := Lib.hid hb.size
  have HBW13 := Lib.hid (below_up HBW12.out hb (Nat.le_refl _))
  clear hb
  clear zc0 zc1 zy0 zy1
  have zc0 := (HNA.out.below HBW13.out).c0
  have zc1 := (HNA.out.below HBW13.out).c1
  have HX0_13 := Lib.hid (HX0_12.out.below HB13.out)
  have zy0 := HX0_13.out.c0
  have zy1 := HX0_13.out.c1
  go_wp2_with fail
  go_ret
  exact ⟨rfl, HBV.out.trans (HBW13.out.mono HBV.out.size)⟩
end Go.Proofs.Ytbjjgcfmdlinaaa
