/- The walk of the law on ProbeFor. -/
import Derived.Test.YtldeplmiggbonaaPrbP
import Derived.Test.YtldeplmiggbonaaNetL
namespace Go.Proofs.Ytldeplmiggbonaa
open Go.RowKit
set_option maxHeartbeats 4000000 in
set_option maxRecDepth 20000 in
theorem lawProbeFor_walk (nn0 : Int) (a0 : Option Addr) (len0 cap0 : Nat) (z0 : List (Int × Int)) (n1 : Int) (n2 : Int) (W : World) (q0 : IsLinks W a0 len0 z0) (q1 : (Lit.int .i64 n1).wf = true) (q2 : (Lit.int .i64 n2).wf = true) : Calls Try.prog 3 #[.agg #[.int .i64 nn0, .slice a0 len0 cap0], .int .i64 n1, .int .i64 n2] W fun e W' => e = .returned (.bool true) ∧ Below W.heap.size W W' := by
  obtain ⟨V, hV⟩ : ∃ V, V = W.alloc (.cells #[.int .i64 nn0, .slice a0 len0 cap0] 24) := ⟨_, rfl⟩
  have HBV : Hid (Below W.heap.size W V) := Lib.hid (by rw [hV]; exact below_new _ _)
  have HNA := Lib.hid (show NetAt V W.heap.size nn0 a0 len0 cap0 by rw [hV]; exact net_new _ _ _ _ _ _)
  obtain ⟨zs0, hs0⟩ : ∃ zs, SeesL W a0 len0 zs := ⟨_, q0.1⟩
  have hc0 := q0.2
  have HA0 := Lib.hid (hs0.below HBV.out)
  clear hs0 q0
  obtain ⟨hn1, hm1⟩ := bounds_i64 q1
  clear q1
  obtain ⟨hn2, hm2⟩ := bounds_i64 q2
  clear q2
  obtain ⟨px, py, pzs, pt, hpq⟩ : ∃ px py pzs pt, probeV nn0 zs0 n1 n2 = ((px, py, pzs), pt) := ⟨_, _, _, _, rfl⟩
  obtain ⟨pl, hpz⟩ : ∃ pl, pzs.length = pl := ⟨_, rfl⟩
  have hpl : pl ≤ 1073741824 := by have h1 := probe_len nn0 zs0 n1 n2; rw [hpq] at h1; simp only at h1; omega
  have HPQ := Lib.hid hpq
  have HPZ := Lib.hid hpz
  clear hpq hpz
  by_cases hg0 : (len0 : Int) ≤ 1048576
  case neg =>
    go_enter Try.func3, Try.ntmps3
    go_wp2_with fail
    go_at_call 8
    refine (szNet_any _ _ _ _ _ 1048576 (-1) hc0 (by omega) (by omega) (by rw [if_pos (by omega)])).mono ?_
    rintro e w2 ⟨rfl, hb⟩
    have HB1 := Lib.hid hb
    clear hb
    go_wp2_with fail
    go_ret
    exact ⟨rfl, below_up (below_new _ _) HB1.out (Nat.le_refl _)⟩
  have hw0 : ¬ 1048576 - (len0 : Int) < 0 := by omega
  have hl0 : len0 ≤ 1048576 := by omega
  go_enter Try.func3, Try.ntmps3
  go_wp2_with fail
  rw [← hV]
  clear hV
  go_at_call 8
  refine (szNet_any _ _ _ _ _ 1048576 (1048576 - len0) hc0 (by omega) (by omega) (by rw [if_neg (by omega)])).mono ?_
  rintro e w1 ⟨rfl, hb⟩
  have HB1 := Lib.hid hb
  have HZ1 := Lib.hid hb.size
  have HBW1 := Lib.hid (hb)
  clear hb
  have zc0 := (HNA.out.below HBW1.out).c0
  have zc1 := (HNA.out.below HBW1.out).c1
  go_wp2_with fail
  go_at_call 10
  refine (toNet_any _ _ _ _ _ _ (Nat.le_trans hl0 (by decide)) (HA0.out.below HBW1.out)).mono ?_
  rintro e w2 ⟨b1, l1, c1, rfl, ho, hb⟩
  obtain rfl : len0 = l1 := HA0.out.1.symm.trans ho.1
  have HO1_2 := Lib.hid ho
  clear ho
  have HB2 := Lib.hid hb
  have HZ2 := Lib.hid hb.size
  have HBW2 := Lib.hid (below_up HBW1.out hb (Nat.le_refl _))
  clear hb
  clear zc0 zc1
  have zc0 := (HNA.out.below HBW2.out).c0
  have zc1 := (HNA.out.below HBW2.out).c1
  go_wp2_with fail
  go_at_call 9
  refine (specProbeX _ nn0 _ _ _ zs0 n1 n2 px py pl pzs pt hl0 HO1_2.out.sees HPQ.out HPZ.out).mono ?_
  rintro e w3 ⟨b2, c2, rfl, ho, hb⟩
  have HO2_3 := Lib.hid ho
  clear ho
  have HB3 := Lib.hid hb
  have HZ3 := Lib.hid hb.size
  have HBW3 := Lib.hid (below_up HBW2.out hb (Nat.le_refl _))
  clear hb
  clear zc0 zc1
  have zc0 := (HNA.out.below HBW3.out).c0
  have zc1 := (HNA.out.below HBW3.out).c1
  obtain ⟨w4, hU⟩ : ∃ U, U = w3.alloc (.cells #[.int .i64 px, .int .i64 py, .slice b2 pl c2] 28) := ⟨_, rfl⟩
  have hb : Below w3.heap.size w3 w4 := by rw [hU]; exact below_new _ _
  have HXpw_4 := Lib.hid (show PrbAt w4 w3.heap.size px py b2 pl c2 by rw [hU]; exact prb_new _ _ _ _ _ _ _)
  have HXSpw := Lib.hid (show w4.heap.size = w3.heap.size + 1 by rw [hU]; simp)
  have HB4 := Lib.hid hb
  have HZ4 := Lib.hid hb.size
  have HBW4 := Lib.hid (below_up HBW3.out hb (Nat.le_refl _))
  clear hb
  clear zc0 zc1
  have zc0 := (HNA.out.below HBW4.out).c0
  have zc1 := (HNA.out.below HBW4.out).c1
  have pwc0 := HXpw_4.out.c0
  have pwc1 := HXpw_4.out.c1
  have pwc2 := HXpw_4.out.c2
  have uzc0 := zc0
  have uzc1 := zc1
  have upwc0 := pwc0
  have upwc1 := pwc1
  have upwc2 := pwc2
  rw [hU] at uzc0 uzc1 upwc0 upwc1 upwc2
  go_wp2_with fail
  rw [← hU]
  clear hU uzc0 uzc1 upwc0 upwc1 upwc2
  go_at_call 10
  refine (toNet_any _ _ _ _ _ _ (Nat.le_trans hl0 (by decide)) (HA0.out.below HBW4.out)).mono ?_
  rintro e w5 ⟨b3, l3, c3, rfl, ho, hb⟩
  obtain rfl : len0 = l3 := HA0.out.1.symm.trans ho.1
  have HO3_5 := Lib.hid ho
  clear ho
  have HB5 := Lib.hid hb
  have HZ5 := Lib.hid hb.size
  have HBW5 := Lib.hid (below_up HBW4.out hb (Nat.le_refl _))
  clear hb
  clear zc0 zc1 pwc0 pwc1 pwc2
  have zc0 := (HNA.out.below HBW5.out).c0
  have zc1 := (HNA.out.below HBW5.out).c1
  have HXpw_5 := Lib.hid (HXpw_4.out.below HB5.out)
  have pwc0 := HXpw_5.out.c0
  have pwc1 := HXpw_5.out.c1
  have pwc2 := HXpw_5.out.c2
  go_wp2_with fail
  obtain ⟨w6, hU⟩ : ∃ U, U = w5.alloc (.cells #[.int .i64 nn0, .slice b3 len0 c3] 33) := ⟨_, rfl⟩
  have hb : Below w5.heap.size w5 w6 := by rw [hU]; exact below_new _ _
  have HX0_6 := Lib.hid (show NetAt w6 w5.heap.size nn0 b3 len0 c3 by rw [hU]; exact net_new _ _ _ _ _ _)
  have HXS := Lib.hid (show w6.heap.size = w5.heap.size + 1 by rw [hU]; simp)
  rw [← hU]
  clear hU
  have HB6 := Lib.hid hb
  have HZ6 := Lib.hid hb.size
  have HBW6 := Lib.hid (below_up HBW5.out hb (Nat.le_refl _))
  clear hb
  clear zc0 zc1 pwc0 pwc1 pwc2
  have zc0 := (HNA.out.below HBW6.out).c0
  have zc1 := (HNA.out.below HBW6.out).c1
  have zy0 := HX0_6.out.c0
  have zy1 := HX0_6.out.c1
  have HXpw_6 := Lib.hid (HXpw_5.out.below HB6.out)
  have pwc0 := HXpw_6.out.c0
  have pwc1 := HXpw_6.out.c1
  have pwc2 := HXpw_6.out.c2
  have HO3_6 := Lib.hid (HO3_5.out.below HB6.out)
  go_at_call 11
  refine (probePX _ nn0 _ _ _ zs0 n1 n2 px py pl pzs pt hl0 HO3_6.out.sees HPQ.out HPZ.out).mono ?_
  rintro e w7 ⟨b4, c4, rfl, ho, hb⟩
  have HO4_7 := Lib.hid ho
  clear ho
  have HB7 := Lib.hid hb
  have HZ7 := Lib.hid hb.size
  have HBW7 := Lib.hid (below_up HBW6.out hb (Nat.le_refl _))
  clear hb
  clear zc0 zc1 zy0 zy1 pwc0 pwc1 pwc2
  have zc0 := (HNA.out.below HBW7.out).c0
  have zc1 := (HNA.out.below HBW7.out).c1
  have HX0_7 := Lib.hid (HX0_6.out.below HB7.out)
  have zy0 := HX0_7.out.c0
  have zy1 := HX0_7.out.c1
  have HXpw_7 := Lib.hid (HXpw_6.out.below HB7.out)
  have pwc0 := HXpw_7.out.c0
  have pwc1 := HXpw_7.out.c1
  have pwc2 := HXpw_7.out.c2
  obtain ⟨w8, hU⟩ : ∃ U, U = w7.alloc (.cells #[.int .i64 px, .int .i64 py, .slice b4 pl c4] 28) := ⟨_, rfl⟩
  have hb : Below w7.heap.size w7 w8 := by rw [hU]; exact below_new _ _
  have HXpg_8 := Lib.hid (show PrbAt w8 w7.heap.size px py b4 pl c4 by rw [hU]; exact prb_new _ _ _ _ _ _ _)
  have HXSpg := Lib.hid (show w8.heap.size = w7.heap.size + 1 by rw [hU]; simp)
  have HB8 := Lib.hid hb
  have HZ8 := Lib.hid hb.size
  have HBW8 := Lib.hid (below_up HBW7.out hb (Nat.le_refl _))
  clear hb
  clear zc0 zc1 zy0 zy1 pwc0 pwc1 pwc2
  have zc0 := (HNA.out.below HBW8.out).c0
  have zc1 := (HNA.out.below HBW8.out).c1
  have HX0_8 := Lib.hid (HX0_7.out.below HB8.out)
  have zy0 := HX0_8.out.c0
  have zy1 := HX0_8.out.c1
  have HXpw_8 := Lib.hid (HXpw_7.out.below HB8.out)
  have pwc0 := HXpw_8.out.c0
  have pwc1 := HXpw_8.out.c1
  have pwc2 := HXpw_8.out.c2
  have pgc0 := HXpg_8.out.c0
  have pgc1 := HXpg_8.out.c1
  have pgc2 := HXpg_8.out.c2
  have uzc0 := zc0
  have uzc1 := zc1
  have uzy0 := zy0
  have uzy1 := zy1
  have upwc0 := pwc0
  have upwc1 := pwc1
  have upwc2 := pwc2
  have upgc0 := pgc0
  have upgc1 := pgc1
  have upgc2 := pgc2
  rw [hU] at uzc0 uzc1 uzy0 uzy1 upwc0 upwc1 upwc2 upgc0 upgc1 upgc2
  go_wp2_with fail
  rw [← hU]
  clear hU uzc0 uzc1 uzy0 uzy1 upwc0 upwc1 upwc2 upgc0 upgc1 upgc2
  have HO4_8 := Lib.hid (HO4_7.out.below HB8.out)
  have HO2_4 := Lib.hid (HO2_3.out.below HB4.out)
  have HO2_5 := Lib.hid (HO2_4.out.below HB5.out)
  have HO2_6 := Lib.hid (HO2_5.out.below HB6.out)
  have HO2_7 := Lib.hid (HO2_6.out.below HB7.out)
  have HO2_8 := Lib.hid (HO2_7.out.below HB8.out)
  go_at_call 12
  refine (eqPrb_yes _ px py _ _ pl _ _ pzs hpl HO4_8.out.sees HO2_8.out.sees).mono ?_
  rintro e w9 ⟨rfl, hb⟩
  have HB9 := Lib.hid hb
  have HZ9 := Lib.hid hb.size
  have HBW9 := Lib.hid (below_up HBW8.out hb (Nat.le_refl _))
  clear hb
  clear zc0 zc1 zy0 zy1 pwc0 pwc1 pwc2 pgc0 pgc1 pgc2
  have zc0 := (HNA.out.below HBW9.out).c0
  have zc1 := (HNA.out.below HBW9.out).c1
  have HX0_9 := Lib.hid (HX0_8.out.below HB9.out)
  have zy0 := HX0_9.out.c0
  have zy1 := HX0_9.out.c1
  have HXpw_9 := Lib.hid (HXpw_8.out.below HB9.out)
  have pwc0 := HXpw_9.out.c0
  have pwc1 := HXpw_9.out.c1
  have pwc2 := HXpw_9.out.c2
  have HXpg_9 := Lib.hid (HXpg_8.out.below HB9.out)
  have pgc0 := HXpg_9.out.c0
  have pgc1 := HXpg_9.out.c1
  have pgc2 := HXpg_9.out.c2
  go_wp2_with fail
  go_region_held3 (fun w' => w'.cell? ⟨w5.heap.size, 0, none⟩ = some (.int .i64 nn0) ∧ w'.cell? ⟨w5.heap.size, 1, none⟩ = some (.slice b3 len0 c3) ∧ w'.cell? ⟨W.heap.size, 0, none⟩ = some (.int .i64 nn0) ∧ w'.cell? ⟨W.heap.size, 1, none⟩ = some (.slice a0 len0 cap0)) (go_keep) (first
    | (go_at_call 10; refine (toNet_any _ nn0 _ _ _ zs0 (Nat.le_trans hl0 (by decide)) (HA0.out.below (HBW9.out.drew))).mono ?_; rintro e w10 ⟨b5, l5, c5, rfl, ho, hb⟩; have hb := below_drop hb; obtain rfl : len0 = l5 := HA0.out.1.symm.trans ho.1; have ho : OwnL w10 w9.heap.size w10.heap.size b5 len0 c5 zs0 := ho; have HO5_10 := Lib.hid ho; clear ho; have HB10 := Lib.hid hb; have HZ10 := Lib.hid hb.size; have HBW10 := Lib.hid (below_up HBW9.out hb (Nat.le_refl _)); clear hb; clear zc0 zc1 zy0 zy1 pwc0 pwc1 pwc2 pgc0 pgc1 pgc2; have zc0 := (HNA.out.below HBW10.out).c0; have zc1 := (HNA.out.below HBW10.out).c1; have HX0_10 := Lib.hid (HX0_9.out.below HB10.out); have zy0 := HX0_10.out.c0; have zy1 := HX0_10.out.c1; have HXpw_10 := Lib.hid (HXpw_9.out.below HB10.out); have pwc0 := HXpw_10.out.c0; have pwc1 := HXpw_10.out.c1; have pwc2 := HXpw_10.out.c2; have HXpg_10 := Lib.hid (HXpg_9.out.below HB10.out); have pgc0 := HXpg_10.out.c0; have pgc1 := HXpg_10.out.c1; have pgc2 := HXpg_10.out.c2; have HO3_7 := Lib.hid (HO3_6.out.below HB7.out); have HO3_8 := Lib.hid (HO3_7.out.below HB8.out); have HO3_9 := Lib.hid (HO3_8.out.below HB9.out); have HO3_10 := Lib.hid (HO3_9.out.below HB10.out))
    | (go_at_call 13; refine (eqNet_yes _ _ _ _ _ _ _ _ (Nat.le_trans hl0 (by decide)) HO3_10.out.sees HO5_10.out.sees).mono ?_; rintro e w11 ⟨rfl, hb⟩; have HB11 := Lib.hid hb; have HZ11 := Lib.hid hb.size; have HBW11 := Lib.hid (below_up HBW10.out hb (Nat.le_refl _)); clear hb; clear zc0 zc1 zy0 zy1 pwc0 pwc1 pwc2 pgc0 pgc1 pgc2; have zc0 := (HNA.out.below HBW11.out).c0; have zc1 := (HNA.out.below HBW11.out).c1; have HX0_11 := Lib.hid (HX0_10.out.below HB11.out); have zy0 := HX0_11.out.c0; have zy1 := HX0_11.out.c1; have HXpw_11 := Lib.hid (HXpw_10.out.below HB11.out); have pwc0 := HXpw_11.out.c0; have pwc1 := HXpw_11.out.c1; have pwc2 := HXpw_11.out.c2; have HXpg_11 := Lib.hid (HXpg_10.out.below HB11.out); have pgc0 := HXpg_11.out.c0; have pgc1 := HXpg_11.out.c1; have pgc2 := HXpg_11.out.c2))
  have HO3_11 := Lib.hid (HO3_10.out.below HB11.out)
  go_wp2_with fail
  go_at_call 14
  refine (markNet_any _ _ _ _ _ _ _ _ (1) (Nat.le_trans hl0 (by decide)) (by omega) (by omega) HO3_11.out).mono ?_
  rintro e w12 ⟨rfl, ho, hm⟩
  have HM12 := Lib.hid hm
  have HZ12 := Lib.hid hm.size
  have HBW12 := Lib.hid (below_moved HBW11.out hm (Nat.le_refl _) (Nat.le_trans (Nat.le_trans (Nat.le_trans HZ1.out HZ2.out) HZ3.out) HZ4.out))
  have HO3_12 := Lib.hid ho
  clear ho hm
  clear zc0 zc1 zy0 zy1 pwc0 pwc1 pwc2 pgc0 pgc1 pgc2
  have zc0 := (HNA.out.below HBW12.out).c0
  have zc1 := (HNA.out.below HBW12.out).c1
  have HX0_12 := Lib.hid (HX0_11.out.moved HM12.out (.inr (Nat.le_refl _)))
  have zy0 := HX0_12.out.c0
  have zy1 := HX0_12.out.c1
  have HXpw_12 := Lib.hid (HXpw_11.out.moved HM12.out (.inl (by have h1 := HXSpw.out; have h2 : w4.heap.size ≤ w4.heap.size := (Nat.le_refl _); omega)))
  have pwc0 := HXpw_12.out.c0
  have pwc1 := HXpw_12.out.c1
  have pwc2 := HXpw_12.out.c2
  have HXpg_12 := Lib.hid (HXpg_11.out.moved HM12.out (.inr (Nat.le_trans HZ6.out HZ7.out)))
  have pgc0 := HXpg_12.out.c0
  have pgc1 := HXpg_12.out.c1
  have pgc2 := HXpg_12.out.c2
  have HO4_9 := Lib.hid (HO4_8.out.below HB9.out)
  have HO4_10 := Lib.hid (HO4_9.out.below HB10.out)
  have HO4_11 := Lib.hid (HO4_10.out.below HB11.out)
  have HO4_12 := Lib.hid (HO4_11.out.moved HM12.out (.inr HZ6.out))
  have HO2_9 := Lib.hid (HO2_8.out.below HB9.out)
  have HO2_10 := Lib.hid (HO2_9.out.below HB10.out)
  have HO2_11 := Lib.hid (HO2_10.out.below HB11.out)
  have HO2_12 := Lib.hid (HO2_11.out.moved HM12.out (.inl HZ4.out))
  go_wp2_with fail
  go_at_call 12
  refine (eqPrb_yes _ px py _ _ pl _ _ pzs hpl HO4_12.out.sees HO2_12.out.sees).mono ?_
  rintro e w13 ⟨rfl, hb⟩
  have HB13 := Lib.hid hb
  have HZ13 := Lib.hid hb.size
  have HBW13 := Lib.hid (below_up HBW12.out hb (Nat.le_refl _))
  clear hb
  clear zc0 zc1 zy0 zy1 pwc0 pwc1 pwc2 pgc0 pgc1 pgc2
  have zc0 := (HNA.out.below HBW13.out).c0
  have zc1 := (HNA.out.below HBW13.out).c1
  have HX0_13 := Lib.hid (HX0_12.out.below HB13.out)
  have zy0 := HX0_13.out.c0
  have zy1 := HX0_13.out.c1
  have HXpw_13 := Lib.hid (HXpw_12.out.below HB13.out)
  have pwc0 := HXpw_13.out.c0
  have pwc1 := HXpw_13.out.c1
  have pwc2 := HXpw_13.out.c2
  have HXpg_13 := Lib.hid (HXpg_12.out.below HB13.out)
  have pgc0 := HXpg_13.out.c0
  have pgc1 := HXpg_13.out.c1
  have pgc2 := HXpg_13.out.c2
  have HO4_13 := Lib.hid (HO4_12.out.below HB13.out)
  go_wp2_with fail
  go_at_call 15
  refine (markPrb_any _ _ _ px py _ pl _ _ 1 hpl (by omega) (by omega) HO4_13.out).mono ?_
  rintro e w14 ⟨rfl, ho, hm⟩
  have HM14 := Lib.hid hm
  have HZ14 := Lib.hid hm.size
  have HBW14 := Lib.hid (below_moved HBW13.out hm (Nat.le_refl _) (Nat.le_trans (Nat.le_trans (Nat.le_trans (Nat.le_trans (Nat.le_trans HZ1.out HZ2.out) HZ3.out) HZ4.out) HZ5.out) HZ6.out))
  have HO4_14 := Lib.hid ho
  clear ho hm
  clear zc0 zc1 zy0 zy1 pwc0 pwc1 pwc2 pgc0 pgc1 pgc2
  have zc0 := (HNA.out.below HBW14.out).c0
  have zc1 := (HNA.out.below HBW14.out).c1
  have HX0_14 := Lib.hid (HX0_13.out.moved HM14.out (.inl (by have h1 := HXS.out; have h2 : w6.heap.size ≤ w6.heap.size := (Nat.le_refl _); omega)))
  have zy0 := HX0_14.out.c0
  have zy1 := HX0_14.out.c1
  have HXpw_14 := Lib.hid (HXpw_13.out.moved HM14.out (.inl (by have h1 := HXSpw.out; have h2 : w4.heap.size ≤ w6.heap.size := (Nat.le_trans HZ5.out HZ6.out); omega)))
  have pwc0 := HXpw_14.out.c0
  have pwc1 := HXpw_14.out.c1
  have pwc2 := HXpw_14.out.c2
  have HXpg_14 := Lib.hid (HXpg_13.out.moved HM14.out (.inr (Nat.le_refl _)))
  have pgc0 := HXpg_14.out.c0
  have pgc1 := HXpg_14.out.c1
  have pgc2 := HXpg_14.out.c2
  go_wp2_with fail
  go_at_call 16
  refine (heldPrb_any _ px py _ pl _ 1 hpl (by omega) (by omega) HO4_14.out.sees).mono ?_
  rintro e w15 ⟨rfl, hb⟩
  have HB15 := Lib.hid hb
  have HZ15 := Lib.hid hb.size
  have HBW15 := Lib.hid (below_up HBW14.out hb (Nat.le_refl _))
  clear hb
  clear zc0 zc1 zy0 zy1 pwc0 pwc1 pwc2 pgc0 pgc1 pgc2
  have zc0 := (HNA.out.below HBW15.out).c0
  have zc1 := (HNA.out.below HBW15.out).c1
  have HX0_15 := Lib.hid (HX0_14.out.below HB15.out)
  have zy0 := HX0_15.out.c0
  have zy1 := HX0_15.out.c1
  have HXpw_15 := Lib.hid (HXpw_14.out.below HB15.out)
  have pwc0 := HXpw_15.out.c0
  have pwc1 := HXpw_15.out.c1
  have pwc2 := HXpw_15.out.c2
  have HXpg_15 := Lib.hid (HXpg_14.out.below HB15.out)
  have pgc0 := HXpg_15.out.c0
  have pgc1 := HXpg_15.out.c1
  have pgc2 := HXpg_15.out.c2
  go_wp2_with fail
  go_at_call 10
  refine (toNet_any _ _ _ _ _ _ (Nat.le_trans hl0 (by decide)) (HA0.out.below HBW15.out)).mono ?_
  rintro e w16 ⟨b6, l6, c6, rfl, ho, hb⟩
  obtain rfl : len0 = l6 := HA0.out.1.symm.trans ho.1
  have HO6_16 := Lib.hid ho
  clear ho
  have HB16 := Lib.hid hb
  have HZ16 := Lib.hid hb.size
  have HBW16 := Lib.hid (below_up HBW15.out hb (Nat.le_refl _))
  clear hb
  clear zc0 zc1 zy0 zy1 pwc0 pwc1 pwc2 pgc0 pgc1 pgc2
  have zc0 := (HNA.out.below HBW16.out).c0
  have zc1 := (HNA.out.below HBW16.out).c1
  have HX0_16 := Lib.hid (HX0_15.out.below HB16.out)
  have zy0 := HX0_16.out.c0
  have zy1 := HX0_16.out.c1
  have HXpw_16 := Lib.hid (HXpw_15.out.below HB16.out)
  have pwc0 := HXpw_16.out.c0
  have pwc1 := HXpw_16.out.c1
  have pwc2 := HXpw_16.out.c2
  have HXpg_16 := Lib.hid (HXpg_15.out.below HB16.out)
  have pgc0 := HXpg_16.out.c0
  have pgc1 := HXpg_16.out.c1
  have pgc2 := HXpg_16.out.c2
  go_wp2_with fail
  go_at_call 11
  refine (probePX _ nn0 _ _ _ zs0 n1 n2 px py pl pzs pt hl0 HO6_16.out.sees HPQ.out HPZ.out).mono ?_
  rintro e w17 ⟨b7, c7, rfl, ho, hb⟩
  have HO7_17 := Lib.hid ho
  clear ho
  have HB17 := Lib.hid hb
  have HZ17 := Lib.hid hb.size
  have HBW17 := Lib.hid (below_up HBW16.out hb (Nat.le_refl _))
  clear hb
  clear zc0 zc1 zy0 zy1 pwc0 pwc1 pwc2 pgc0 pgc1 pgc2
  have zc0 := (HNA.out.below HBW17.out).c0
  have zc1 := (HNA.out.below HBW17.out).c1
  have HX0_17 := Lib.hid (HX0_16.out.below HB17.out)
  have zy0 := HX0_17.out.c0
  have zy1 := HX0_17.out.c1
  have HXpw_17 := Lib.hid (HXpw_16.out.below HB17.out)
  have pwc0 := HXpw_17.out.c0
  have pwc1 := HXpw_17.out.c1
  have pwc2 := HXpw_17.out.c2
  have HXpg_17 := Lib.hid (HXpg_16.out.below HB17.out)
  have pgc0 := HXpg_17.out.c0
  have pgc1 := HXpg_17.out.c1
  have pgc2 := HXpg_17.out.c2
  obtain ⟨w18, hU⟩ : ∃ U, U = w17.alloc (.cells #[.int .i64 px, .int .i64 py, .slice b7 pl c7] 28) := ⟨_, rfl⟩
  have hb : Below w17.heap.size w17 w18 := by rw [hU]; exact below_new _ _
  have HXph_18 := Lib.hid (show PrbAt w18 w17.heap.size px py b7 pl c7 by rw [hU]; exact prb_new _ _ _ _ _ _ _)
  have HXSph := Lib.hid (show w18.heap.size = w17.heap.size + 1 by rw [hU]; simp)
  have HB18 := Lib.hid hb
  have HZ18 := Lib.hid hb.size
  have HBW18 := Lib.hid (below_up HBW17.out hb (Nat.le_refl _))
  clear hb
  clear zc0 zc1 zy0 zy1 pwc0 pwc1 pwc2 pgc0 pgc1 pgc2
  have zc0 := (HNA.out.below HBW18.out).c0
  have zc1 := (HNA.out.below HBW18.out).c1
  have HX0_18 := Lib.hid (HX0_17.out.below HB18.out)
  have zy0 := HX0_18.out.c0
  have zy1 := HX0_18.out.c1
  have HXpw_18 := Lib.hid (HXpw_17.out.below HB18.out)
  have pwc0 := HXpw_18.out.c0
  have pwc1 := HXpw_18.out.c1
  have pwc2 := HXpw_18.out.c2
  have HXpg_18 := Lib.hid (HXpg_17.out.below HB18.out)
  have pgc0 := HXpg_18.out.c0
  have pgc1 := HXpg_18.out.c1
  have pgc2 := HXpg_18.out.c2
  have phc0 := HXph_18.out.c0
  have phc1 := HXph_18.out.c1
  have phc2 := HXph_18.out.c2
  have uzc0 := zc0
  have uzc1 := zc1
  have uzy0 := zy0
  have uzy1 := zy1
  have upwc0 := pwc0
  have upwc1 := pwc1
  have upwc2 := pwc2
  have upgc0 := pgc0
  have upgc1 := pgc1
  have upgc2 := pgc2
  have uphc0 := phc0
  have uphc1 := phc1
  have uphc2 := phc2
  rw [hU] at uzc0 uzc1 uzy0 uzy1 upwc0 upwc1 upwc2 upgc0 upgc1 upgc2 uphc0 uphc1 uphc2
  go_wp2_with fail
  rw [← hU]
  clear hU uzc0 uzc1 uzy0 uzy1 upwc0 upwc1 upwc2 upgc0 upgc1 upgc2 uphc0 uphc1 uphc2
  have HO7_18 := Lib.hid (HO7_17.out.below HB18.out)
  have HO2_13 := Lib.hid (HO2_12.out.below HB13.out)
  have HO2_14 := Lib.hid (HO2_13.out.moved HM14.out (.inl (Nat.le_trans (Nat.le_trans HZ4.out HZ5.out) HZ6.out)))
  have HO2_15 := Lib.hid (HO2_14.out.below HB15.out)
  have HO2_16 := Lib.hid (HO2_15.out.below HB16.out)
  have HO2_17 := Lib.hid (HO2_16.out.below HB17.out)
  have HO2_18 := Lib.hid (HO2_17.out.below HB18.out)
  go_at_call 12
  refine (eqPrb_yes _ px py _ _ pl _ _ pzs hpl HO7_18.out.sees HO2_18.out.sees).mono ?_
  rintro e w19 ⟨rfl, hb⟩
  have HB19 := Lib.hid hb
  have HZ19 := Lib.hid hb.size
  have HBW19 := Lib.hid (below_up HBW18.out hb (Nat.le_refl _))
  clear hb
  clear zc0 zc1 zy0 zy1 pwc0 pwc1 pwc2 pgc0 pgc1 pgc2 phc0 phc1 phc2
  have zc0 := (HNA.out.below HBW19.out).c0
  have zc1 := (HNA.out.below HBW19.out).c1
  have HX0_19 := Lib.hid (HX0_18.out.below HB19.out)
  have zy0 := HX0_19.out.c0
  have zy1 := HX0_19.out.c1
  have HXpw_19 := Lib.hid (HXpw_18.out.below HB19.out)
  have pwc0 := HXpw_19.out.c0
  have pwc1 := HXpw_19.out.c1
  have pwc2 := HXpw_19.out.c2
  have HXpg_19 := Lib.hid (HXpg_18.out.below HB19.out)
  have pgc0 := HXpg_19.out.c0
  have pgc1 := HXpg_19.out.c1
  have pgc2 := HXpg_19.out.c2
  have HXph_19 := Lib.hid (HXph_18.out.below HB19.out)
  have phc0 := HXph_19.out.c0
  have phc1 := HXph_19.out.c1
  have phc2 := HXph_19.out.c2
  have HO4_15 := Lib.hid (HO4_14.out.below HB15.out)
  have HO4_16 := Lib.hid (HO4_15.out.below HB16.out)
  have HO4_17 := Lib.hid (HO4_16.out.below HB17.out)
  have HO4_18 := Lib.hid (HO4_17.out.below HB18.out)
  have HO4_19 := Lib.hid (HO4_18.out.below HB19.out)
  go_wp2_with fail
  go_at_call 16
  refine (heldPrb_any _ px py _ pl _ 1 hpl (by omega) (by omega) HO4_19.out.sees).mono ?_
  rintro e w20 ⟨rfl, hb⟩
  have HB20 := Lib.hid hb
  have HZ20 := Lib.hid hb.size
  have HBW20 := Lib.hid (below_up HBW19.out hb (Nat.le_refl _))
  clear hb
  clear zc0 zc1 zy0 zy1 pwc0 pwc1 pwc2 pgc0 pgc1 pgc2 phc0 phc1 phc2
  have zc0 := (HNA.out.below HBW20.out).c0
  have zc1 := (HNA.out.below HBW20.out).c1
  have HX0_20 := Lib.hid (HX0_19.out.below HB20.out)
  have zy0 := HX0_20.out.c0
  have zy1 := HX0_20.out.c1
  have HXpw_20 := Lib.hid (HXpw_19.out.below HB20.out)
  have pwc0 := HXpw_20.out.c0
  have pwc1 := HXpw_20.out.c1
  have pwc2 := HXpw_20.out.c2
  have HXpg_20 := Lib.hid (HXpg_19.out.below HB20.out)
  have pgc0 := HXpg_20.out.c0
  have pgc1 := HXpg_20.out.c1
  have pgc2 := HXpg_20.out.c2
  have HXph_20 := Lib.hid (HXph_19.out.below HB20.out)
  have phc0 := HXph_20.out.c0
  have phc1 := HXph_20.out.c1
  have phc2 := HXph_20.out.c2
  go_wp2_with fail
  go_ret
  exact ⟨rfl, HBV.out.trans (HBW20.out.mono HBV.out.size)⟩
end Go.Proofs.Ytldeplmiggbonaa
