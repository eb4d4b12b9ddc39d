/- The walk of the law on NextFor. -/
import Derived.Test.YtgninjdnfidpcaaBrP
namespace Go.Proofs.Ytgninjdnfidpcaa
open Go.RowKit
set_option maxHeartbeats 4000000 in
set_option maxRecDepth 20000 in
theorem lawNextFor_walk (nn0 : Int) (a0 : Option Addr) (len0 cap0 : Nat) (z0 : List Int) (n1 : Int) (W : World) (q0 : IsBr W nn0 a0 len0 z0) (q1 : (Lit.int .i64 n1).wf = true) : Calls Try.prog 5 #[.agg #[.int .i64 nn0, .slice a0 len0 cap0], .int .i64 n1] W fun e W' => e = .returned (.bool true) ∧ Below W.heap.size W W' := by
  obtain ⟨V, hV⟩ : ∃ V, V = W.alloc (.cells #[.int .i64 nn0, .slice a0 len0 cap0] 36) := ⟨_, rfl⟩
  have HBV : Hid (Below W.heap.size W V) := Lib.hid (by rw [hV]; exact below_newB _ _)
  have HNA := Lib.hid (show BrAt V W.heap.size nn0 a0 len0 cap0 by rw [hV]; exact br_new _ _ _ _ _ _)
  obtain ⟨zs0, hs0⟩ : ∃ zs, Sees .i64 W a0 len0 zs := ⟨_, q0.1.1⟩
  have hc0 := q0.2; have hnw := q0.1.2
  have HA0 := Lib.hid (hs0.below HBV.out)
  clear hs0 q0
  obtain ⟨hn1, hm1⟩ := bounds_i64 q1
  clear q1
  by_cases hg0 : (len0 : Int) ≤ 1048576
  case neg =>
    go_enter Try.func5, Try.ntmps5
    go_wp2_with fail
    go_at_call 20
    refine (szBr_any _ _ _ _ _ 1048576 (-1) hc0 (by omega) (by omega) (by rw [if_pos (by omega)])).mono ?_
    rintro e w2 ⟨rfl, hb⟩
    have HB1 := Lib.hid hb
    clear hb
    go_wp2_with fail
    go_ret
    exact ⟨rfl, below_up (below_newB _ _) HB1.out (Nat.le_refl _)⟩
  have hw0 : ¬ 1048576 - (len0 : Int) < 0 := by omega
  have hl0 : len0 ≤ 1048576 := by omega
  go_enter Try.func5, Try.ntmps5
  go_wp2_with fail
  rw [← hV]
  clear hV
  go_at_call 20
  refine (szBr_any _ _ _ _ _ 1048576 (1048576 - len0) hc0 (by omega) (by omega) (by rw [if_neg (by omega)])).mono ?_
  rintro e w1 ⟨rfl, hb⟩
  have HB1 := Lib.hid hb
  have HZ1 := Lib.hid hb.size
  have HBW1 := Lib.hid (hb)
  clear hb
  have zc0 := (HNA.out.below HBW1.out).c0
  have zc1 := (HNA.out.below HBW1.out).c1
  go_wp2_with fail
  go_at_call 22
  refine (toBr_any _ _ _ _ _ _ (Nat.le_trans hl0 (by decide)) (HA0.out.below HBW1.out)).mono ?_
  rintro e w2 ⟨b1, l1, c1, rfl, ho, hb⟩
  obtain rfl : len0 = l1 := HA0.out.1.symm.trans ho.1
  have HO1_2 := Lib.hid ho
  clear ho
  have HB2 := Lib.hid hb
  have HZ2 := Lib.hid hb.size
  have HBW2 := Lib.hid (below_up HBW1.out hb (Nat.le_refl _))
  clear hb
  clear zc0 zc1
  have zc0 := (HNA.out.below HBW2.out).c0
  have zc1 := (HNA.out.below HBW2.out).c1
  go_wp2_with fail
  go_at_call 25
  refine (specNext_any _ nn0 _ _ _ zs0 n1 (Nat.le_trans hl0 (by decide)) HO1_2.out.cap HO1_2.out.sees hnw (WalkArith.wf_i64 ⟨hn1, hm1⟩)).mono ?_
  rintro e w3 ⟨rfl, hb⟩
  have HB3 := Lib.hid hb
  have HZ3 := Lib.hid hb.size
  have HBW3 := Lib.hid (below_up HBW2.out hb (Nat.le_refl _))
  clear hb
  clear zc0 zc1
  have zc0 := (HNA.out.below HBW3.out).c0
  have zc1 := (HNA.out.below HBW3.out).c1
  go_wp2_with fail
  go_at_call 22
  refine (toBr_any _ _ _ _ _ _ (Nat.le_trans hl0 (by decide)) (HA0.out.below HBW3.out)).mono ?_
  rintro e w4 ⟨b2, l2, c2, rfl, ho, hb⟩
  obtain rfl : len0 = l2 := HA0.out.1.symm.trans ho.1
  have HO2_4 := Lib.hid ho
  clear ho
  have HB4 := Lib.hid hb
  have HZ4 := Lib.hid hb.size
  have HBW4 := Lib.hid (below_up HBW3.out hb (Nat.le_refl _))
  clear hb
  clear zc0 zc1
  have zc0 := (HNA.out.below HBW4.out).c0
  have zc1 := (HNA.out.below HBW4.out).c1
  go_wp2_with fail
  obtain ⟨w5, hU⟩ : ∃ U, U = w4.alloc (.cells #[.int .i64 nn0, .slice b2 len0 c2] 26) := ⟨_, rfl⟩
  have hb : Below w4.heap.size w4 w5 := by rw [hU]; exact below_newB _ _
  have HX0_5 := Lib.hid (show BrAt w5 w4.heap.size nn0 b2 len0 c2 by rw [hU]; exact br_new _ _ _ _ _ _)
  have HXS := Lib.hid (show w5.heap.size = w4.heap.size + 1 by rw [hU]; simp)
  rw [← hU]
  clear hU
  have HB5 := Lib.hid hb
  have HZ5 := Lib.hid hb.size
  have HBW5 := Lib.hid (below_up HBW4.out hb (Nat.le_refl _))
  clear hb
  clear zc0 zc1
  have zc0 := (HNA.out.below HBW5.out).c0
  have zc1 := (HNA.out.below HBW5.out).c1
  have zy0 := HX0_5.out.c0
  have zy1 := HX0_5.out.c1
  have HO2_5 := Lib.hid (HO2_4.out.below HB5.out)
  go_at_call 16
  refine (nextP_any _ nn0 _ _ _ zs0 n1 (Nat.le_trans hl0 (by decide)) HO2_5.out.cap HO2_5.out.sees hnw (WalkArith.wf_i64 ⟨hn1, hm1⟩)).mono ?_
  rintro e w6 ⟨rfl, hb⟩
  have HB6 := Lib.hid hb
  have HZ6 := Lib.hid hb.size
  have HBW6 := Lib.hid (below_up HBW5.out hb (Nat.le_refl _))
  clear hb
  clear zc0 zc1 zy0 zy1
  have zc0 := (HNA.out.below HBW6.out).c0
  have zc1 := (HNA.out.below HBW6.out).c1
  have HX0_6 := Lib.hid (HX0_5.out.below HB6.out)
  have zy0 := HX0_6.out.c0
  have zy1 := HX0_6.out.c1
  go_wp2_with fail
  go_region_held3 (fun w' => w'.cell? ⟨w4.heap.size, 0, none⟩ = some (.int .i64 nn0) ∧ w'.cell? ⟨w4.heap.size, 1, none⟩ = some (.slice b2 len0 c2) ∧ w'.cell? ⟨W.heap.size, 0, none⟩ = some (.int .i64 nn0) ∧ w'.cell? ⟨W.heap.size, 1, none⟩ = some (.slice a0 len0 cap0)) (go_keep) (first
    | (go_at_call 22; refine (toBr_any _ nn0 _ _ _ zs0 (Nat.le_trans hl0 (by decide)) (HA0.out.below (HBW6.out.drew))).mono ?_; rintro e w7 ⟨b3, l3, c3, rfl, ho, hb⟩; have hb := below_dropB hb; obtain rfl : len0 = l3 := HA0.out.1.symm.trans ho.1; have ho : Own .i64 3 w7 w6.heap.size w7.heap.size b3 len0 c3 zs0 := ho; have HO3_7 := Lib.hid ho; clear ho; have HB7 := Lib.hid hb; have HZ7 := Lib.hid hb.size; have HBW7 := Lib.hid (below_up HBW6.out hb (Nat.le_refl _)); clear hb; clear zc0 zc1 zy0 zy1; have zc0 := (HNA.out.below HBW7.out).c0; have zc1 := (HNA.out.below HBW7.out).c1; have HX0_7 := Lib.hid (HX0_6.out.below HB7.out); have zy0 := HX0_7.out.c0; have zy1 := HX0_7.out.c1; have HO2_6 := Lib.hid (HO2_5.out.below HB6.out); have HO2_7 := Lib.hid (HO2_6.out.below HB7.out))
    | (go_at_call 24; refine (eqBr_yes _ _ _ _ _ _ _ _ (Nat.le_trans hl0 (by decide)) HO2_7.out.sees HO3_7.out.sees).mono ?_; rintro e w8 ⟨rfl, hb⟩; have HB8 := Lib.hid hb; have HZ8 := Lib.hid hb.size; have HBW8 := Lib.hid (below_up HBW7.out hb (Nat.le_refl _)); clear hb; clear zc0 zc1 zy0 zy1; have zc0 := (HNA.out.below HBW8.out).c0; have zc1 := (HNA.out.below HBW8.out).c1; have HX0_8 := Lib.hid (HX0_7.out.below HB8.out); have zy0 := HX0_8.out.c0; have zy1 := HX0_8.out.c1))
  go_wp2_with fail
  go_ret
  exact ⟨rfl, HBV.out.trans (HBW8.out.mono HBV.out.size)⟩
end Go.Proofs.Ytgninjdnfidpcaa
