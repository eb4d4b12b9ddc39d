/- The walk of the law on IsPath. -/
import Derived.Test.YtakhlbagjomgbaaNetR
import Derived.Test.YtakhlbagjomgbaaNetL
namespace Go.Proofs.Ytakhlbagjomgbaa
open Go.RowKit
set_option maxHeartbeats 4000000 in
set_option maxRecDepth 20000 in
theorem lawIsPath_walk (nn0 : Int) (a0 : Option Addr) (len0 cap0 : Nat) (z0 : List (Int × Int)) (a1 : Option Addr) (len1 cap1 : Nat) (z1 : List Int) (n2 : Int) (n3 : Int) (W : World) (q0 : IsLinks W a0 len0 z0) (q1 : IsRow .i64 W a1 len1 cap1 z1) (q2 : (Lit.int .i64 n2).wf = true) (q3 : (Lit.int .i64 n3).wf = true) : Calls Try.prog 6 #[.agg #[.int .i64 nn0, .slice a0 len0 cap0], .slice a1 len1 cap1, .int .i64 n2, .int .i64 n3] W fun e W' => e = .returned (.bool true) ∧ Below W.heap.size W W' := by
  obtain ⟨V, hV⟩ : ∃ V, V = W.alloc (.cells #[.int .i64 nn0, .slice a0 len0 cap0] 38) := ⟨_, rfl⟩
  have HBV : Hid (Below W.heap.size W V) := Lib.hid (by rw [hV]; exact below_new _ _)
  have HNA := Lib.hid (show NetAt V W.heap.size nn0 a0 len0 cap0 by rw [hV]; exact net_new _ _ _ _ _ _)
  obtain ⟨zs0, hs0⟩ : ∃ zs, SeesL W a0 len0 zs := ⟨_, q0.1⟩
  have hc0 := q0.2
  have HA0 := Lib.hid (hs0.below HBV.out)
  clear hs0 q0
  obtain ⟨zs1, hs1⟩ : ∃ zs, Sees .i64 W a1 len1 zs := ⟨_, row_sees q1⟩
  have HA1 := Lib.hid (hs1.below HBV.out)
  clear hs1 q1
  obtain ⟨hn2, hm2⟩ := bounds_i64 q2
  clear q2
  obtain ⟨hn3, hm3⟩ := bounds_i64 q3
  clear q3
  by_cases hg1 : len1 ≤ 1048576
  case neg =>
    go_enter Try.func6, Try.ntmps6
    go_wp2_with fail
    go_ret
    exact ⟨rfl, below_new _ _⟩
  by_cases hg0 : (len0 : Int) ≤ 1048576
  case neg =>
    go_enter Try.func6, Try.ntmps6
    go_wp2_with fail
    go_at_call 19
    refine (szNet_any _ _ _ _ _ 1048576 (-1) hc0 (by omega) (by omega) (by rw [if_pos (by omega)])).mono ?_
    rintro e w2 ⟨rfl, hb⟩
    have HB1 := Lib.hid hb
    clear hb
    go_wp2_with fail
    go_ret
    exact ⟨rfl, below_up (below_new _ _) HB1.out (Nat.le_refl _)⟩
  have hw0 : ¬ 1048576 - (len0 : Int) < 0 := by omega
  have hl0 : len0 ≤ 1048576 := by omega
  go_enter Try.func6, Try.ntmps6
  go_wp2_with fail
  rw [← hV]
  clear hV
  go_at_call 19
  refine (szNet_any _ _ _ _ _ 1048576 (1048576 - len0) hc0 (by omega) (by omega) (by rw [if_neg (by omega)])).mono ?_
  rintro e w1 ⟨rfl, hb⟩
  have HB1 := Lib.hid hb
  have HZ1 := Lib.hid hb.size
  have HBW1 := Lib.hid (hb)
  clear hb
  have zc0 := (HNA.out.below HBW1.out).c0
  have zc1 := (HNA.out.below HBW1.out).c1
  go_wp2_with fail
  go_at_call 20
  refine (toNet_any _ _ _ _ _ _ (Nat.le_trans hl0 (by decide)) (HA0.out.below HBW1.out)).mono ?_
  rintro e w2 ⟨b1, l1, c1, rfl, ho, hb⟩
  obtain rfl : len0 = l1 := HA0.out.1.symm.trans ho.1
  have HO1_2 := Lib.hid ho
  clear ho
  have HB2 := Lib.hid hb
  have HZ2 := Lib.hid hb.size
  have HBW2 := Lib.hid (below_up HBW1.out hb (Nat.le_refl _))
  clear hb
  clear zc0 zc1
  have zc0 := (HNA.out.below HBW2.out).c0
  have zc1 := (HNA.out.below HBW2.out).c1
  go_wp2_with fail
  go_at_call 24
  refine (toI_any _ _ _ _ _ (Nat.le_trans hg1 (by decide)) (HA1.out.below HBW2.out)).mono ?_
  rintro e w3 ⟨b2, l2, c2, rfl, ho, hb⟩
  obtain rfl : len1 = l2 := HA1.out.1.symm.trans ho.1
  have HO2_3 := Lib.hid ho
  clear ho
  have HB3 := Lib.hid hb
  have HZ3 := Lib.hid hb.size
  have HBW3 := Lib.hid (below_up HBW2.out hb (Nat.le_refl _))
  clear hb
  clear zc0 zc1
  have zc0 := (HNA.out.below HBW3.out).c0
  have zc1 := (HNA.out.below HBW3.out).c1
  have HO1_3 := Lib.hid (HO1_2.out.below HB3.out)
  go_wp2_with fail
  go_at_call 23
  refine (specPath_any _ nn0 _ _ _ zs0 _ _ _ zs1 n2 n3 (Nat.le_trans hl0 (by decide)) HO1_3.out.sees (Nat.le_trans hg1 (by decide)) HO2_3.out.cap HO2_3.out.sees).mono ?_
  rintro e w4 ⟨rfl, hb⟩
  have HB4 := Lib.hid hb
  have HZ4 := Lib.hid hb.size
  have HBW4 := Lib.hid (below_up HBW3.out hb (Nat.le_refl _))
  clear hb
  clear zc0 zc1
  have zc0 := (HNA.out.below HBW4.out).c0
  have zc1 := (HNA.out.below HBW4.out).c1
  go_wp2_with fail
  go_at_call 20
  refine (toNet_any _ _ _ _ _ _ (Nat.le_trans hl0 (by decide)) (HA0.out.below HBW4.out)).mono ?_
  rintro e w5 ⟨b3, l3, c3, rfl, ho, hb⟩
  obtain rfl : len0 = l3 := HA0.out.1.symm.trans ho.1
  have HO3_5 := Lib.hid ho
  clear ho
  have HB5 := Lib.hid hb
  have HZ5 := Lib.hid hb.size
  have HBW5 := Lib.hid (below_up HBW4.out hb (Nat.le_refl _))
  clear hb
  clear zc0 zc1
  have zc0 := (HNA.out.below HBW5.out).c0
  have zc1 := (HNA.out.below HBW5.out).c1
  go_wp2_with fail
  obtain ⟨w6, hU⟩ : ∃ U, U = w5.alloc (.cells #[.int .i64 nn0, .slice b3 len0 c3] 26) := ⟨_, rfl⟩
  have hb : Below w5.heap.size w5 w6 := by rw [hU]; exact below_new _ _
  have HX0_6 := Lib.hid (show NetAt w6 w5.heap.size nn0 b3 len0 c3 by rw [hU]; exact net_new _ _ _ _ _ _)
  have HXS := Lib.hid (show w6.heap.size = w5.heap.size + 1 by rw [hU]; simp)
  rw [← hU]
  clear hU
  have HB6 := Lib.hid hb
  have HZ6 := Lib.hid hb.size
  have HBW6 := Lib.hid (below_up HBW5.out hb (Nat.le_refl _))
  clear hb
  clear zc0 zc1
  have zc0 := (HNA.out.below HBW6.out).c0
  have zc1 := (HNA.out.below HBW6.out).c1
  have zy0 := HX0_6.out.c0
  have zy1 := HX0_6.out.c1
  go_at_call 24
  refine (toI_any _ _ _ _ _ (Nat.le_trans hg1 (by decide)) (HA1.out.below HBW6.out)).mono ?_
  rintro e w7 ⟨b4, l4, c4, rfl, ho, hb⟩
  obtain rfl : len1 = l4 := HA1.out.1.symm.trans ho.1
  have HO4_7 := Lib.hid ho
  clear ho
  have HB7 := Lib.hid hb
  have HZ7 := Lib.hid hb.size
  have HBW7 := Lib.hid (below_up HBW6.out hb (Nat.le_refl _))
  clear hb
  clear zc0 zc1 zy0 zy1
  have zc0 := (HNA.out.below HBW7.out).c0
  have zc1 := (HNA.out.below HBW7.out).c1
  have HX0_7 := Lib.hid (HX0_6.out.below HB7.out)
  have zy0 := HX0_7.out.c0
  have zy1 := HX0_7.out.c1
  have HO3_6 := Lib.hid (HO3_5.out.below HB6.out)
  have HO3_7 := Lib.hid (HO3_6.out.below HB7.out)
  go_wp2_with fail
  go_at_call 15
  refine (pathP_any _ nn0 _ _ _ zs0 _ _ _ zs1 n2 n3 (Nat.le_trans hl0 (by decide)) HO3_7.out.sees (Nat.le_trans hg1 (by decide)) HO4_7.out.sees).mono ?_
  rintro e w8 ⟨rfl, hb⟩
  have HB8 := Lib.hid hb
  have HZ8 := Lib.hid hb.size
  have HBW8 := Lib.hid (below_up HBW7.out hb (Nat.le_refl _))
  clear hb
  clear zc0 zc1 zy0 zy1
  have zc0 := (HNA.out.below HBW8.out).c0
  have zc1 := (HNA.out.below HBW8.out).c1
  have HX0_8 := Lib.hid (HX0_7.out.below HB8.out)
  have zy0 := HX0_8.out.c0
  have zy1 := HX0_8.out.c1
  go_wp2_with fail
  go_region_held3 (fun w' => w'.cell? ⟨w5.heap.size, 0, none⟩ = some (.int .i64 nn0) ∧ w'.cell? ⟨w5.heap.size, 1, none⟩ = some (.slice b3 len0 c3) ∧ w'.cell? ⟨W.heap.size, 0, none⟩ = some (.int .i64 nn0) ∧ w'.cell? ⟨W.heap.size, 1, none⟩ = some (.slice a0 len0 cap0)) (go_keep) (first
    | (go_at_call 20; refine (toNet_any _ nn0 _ _ _ zs0 (Nat.le_trans hl0 (by decide)) (HA0.out.below (HBW8.out.drew))).mono ?_; rintro e w9 ⟨b5, l5, c5, rfl, ho, hb⟩; have hb := below_drop hb; obtain rfl : len0 = l5 := HA0.out.1.symm.trans ho.1; have ho : OwnL w9 w8.heap.size w9.heap.size b5 len0 c5 zs0 := ho; have HO5_9 := Lib.hid ho; clear ho; have HB9 := Lib.hid hb; have HZ9 := Lib.hid hb.size; have HBW9 := Lib.hid (below_up HBW8.out hb (Nat.le_refl _)); clear hb; clear zc0 zc1 zy0 zy1; have zc0 := (HNA.out.below HBW9.out).c0; have zc1 := (HNA.out.below HBW9.out).c1; have HX0_9 := Lib.hid (HX0_8.out.below HB9.out); have zy0 := HX0_9.out.c0; have zy1 := HX0_9.out.c1; have HO3_8 := Lib.hid (HO3_7.out.below HB8.out); have HO3_9 := Lib.hid (HO3_8.out.below HB9.out))
    | (go_at_call 21; refine (eqNet_yes _ _ _ _ _ _ _ _ (Nat.le_trans hl0 (by decide)) HO3_9.out.sees HO5_9.out.sees).mono ?_; rintro e w10 ⟨rfl, hb⟩; have HB10 := Lib.hid hb; have HZ10 := Lib.hid hb.size; have HBW10 := Lib.hid (below_up HBW9.out hb (Nat.le_refl _)); clear hb; clear zc0 zc1 zy0 zy1; have zc0 := (HNA.out.below HBW10.out).c0; have zc1 := (HNA.out.below HBW10.out).c1; have HX0_10 := Lib.hid (HX0_9.out.below HB10.out); have zy0 := HX0_10.out.c0; have zy1 := HX0_10.out.c1))
  go_wp2_with fail
  go_at_call 24
  refine (toI_any _ _ _ _ _ (Nat.le_trans hg1 (by decide)) (HA1.out.below HBW10.out)).mono ?_
  rintro e w11 ⟨b6, l6, c6, rfl, ho, hb⟩
  obtain rfl : len1 = l6 := HA1.out.1.symm.trans ho.1
  have HO6_11 := Lib.hid ho
  clear ho
  have HB11 := Lib.hid hb
  have HZ11 := Lib.hid hb.size
  have HBW11 := Lib.hid (below_up HBW10.out hb (Nat.le_refl _))
  clear hb
  clear zc0 zc1 zy0 zy1
  have zc0 := (HNA.out.below HBW11.out).c0
  have zc1 := (HNA.out.below HBW11.out).c1
  have HX0_11 := Lib.hid (HX0_10.out.below HB11.out)
  have zy0 := HX0_11.out.c0
  have zy1 := HX0_11.out.c1
  have HO4_8 := Lib.hid (HO4_7.out.below HB8.out)
  have HO4_9 := Lib.hid (HO4_8.out.below HB9.out)
  have HO4_10 := Lib.hid (HO4_9.out.below HB10.out)
  have HO4_11 := Lib.hid (HO4_10.out.below HB11.out)
  go_wp2_with fail
  go_at_call 25
  refine (eqI_yes _ _ _ _ _ _ _ (Nat.le_trans hg1 (by decide)) HO4_11.out.sees HO6_11.out.sees).mono ?_
  rintro e w12 ⟨rfl, hb⟩
  have HB12 := Lib.hid hb
  have HZ12 := Lib.hid hb.size
  have HBW12 := Lib.hid (below_up HBW11.out hb (Nat.le_refl _))
  clear hb
  clear zc0 zc1 zy0 zy1
  have zc0 := (HNA.out.below HBW12.out).c0
  have zc1 := (HNA.out.below HBW12.out).c1
  have HX0_12 := Lib.hid (HX0_11.out.below HB12.out)
  have zy0 := HX0_12.out.c0
  have zy1 := HX0_12.out.c1
  go_wp2_with fail
  go_ret
  exact ⟨rfl, HBV.out.trans (HBW12.out.mono HBV.out.size)⟩
end Go.Proofs.Ytakhlbagjomgbaa
