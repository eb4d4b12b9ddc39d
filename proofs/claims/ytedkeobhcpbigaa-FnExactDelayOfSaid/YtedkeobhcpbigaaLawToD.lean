/- The walk of the law on DelayOf. -/
import Derived.Test.YtedkeobhcpbigaaToP
namespace Go.Proofs.Ytedkeobhcpbigaa
open Go.RowKit
set_option maxHeartbeats 4000000 in
set_option maxRecDepth 20000 in
theorem lawDelayOf_walk (a0 : Option Addr) (len0 cap0 : Nat) (z0 : List (List Int)) (a1 : Option Addr) (len1 cap1 : Nat) (z1 : List Int) (n2 : Int) (n3 : Int) (W : World) (q0 : IsRows W a0 len0 z0) (q1 : IsRow .i64 W a1 len1 cap1 z1) (q2 : (Lit.int .i64 n2).wf = true) (q3 : (Lit.int .i64 n3).wf = true) : Calls Try.prog 6 #[.slice a0 len0 cap0, .slice a1 len1 cap1, .int .i64 n2, .int .i64 n3] W fun e W' => e = .returned (.bool true) ∧ Below W.heap.size W W' := by
  obtain ⟨zs0, hs0⟩ : ∃ zs, SeesM W a0 len0 zs := ⟨_, q0.1⟩
  have hc0 := q0.2
  have HA0 := Lib.hid hs0
  clear hs0 q0
  obtain ⟨zs1, hs1⟩ : ∃ zs, Sees .i64 W a1 len1 zs := ⟨_, row_sees q1⟩
  have HA1 := Lib.hid hs1
  clear hs1 q1
  obtain ⟨hn2, hm2⟩ := bounds_i64 q2
  clear q2
  obtain ⟨hn3, hm3⟩ := bounds_i64 q3
  clear q3
  obtain ⟨r, hr⟩ : ∃ r, r = delV zs0 zs1 n2 n3 := ⟨_, rfl⟩
  have HR := Lib.hid hr
  obtain ⟨x, hx⟩ : ∃ x, x = dN r := ⟨_, rfl⟩
  have HX := Lib.hid hx
  obtain ⟨y, hy⟩ : ∃ y, y = dD r := ⟨_, rfl⟩
  have HY := Lib.hid hy
  obtain ⟨o, ho⟩ : ∃ o, o = r.isSome := ⟨_, rfl⟩
  have HO := Lib.hid ho
  clear hr hx hy ho
  obtain ⟨v0, hv0⟩ : ∃ v, v = szV zs0 := ⟨_, rfl⟩
  have HV0 := Lib.hid hv0
  clear hv0
  by_cases hg1 : len1 ≤ 1048576
  case neg =>
    go_enter Try.func6, Try.ntmps6
    go_wp2_with fail
    go_ret
    exact ⟨rfl, Below.refl _ _⟩
  by_cases hg0 : SmallM zs0
  case neg =>
    have hv0 : v0 = -1 := HV0.out.trans (szV_big hg0)
    subst hv0
    go_enter Try.func6, Try.ntmps6
    go_wp2_with fail
    go_at_call 27
    refine (szM_any _ _ _ _ _ (-1) hc0 HA0.out HV0.out).mono ?_
    rintro e w1 ⟨rfl, hb⟩
    have HB1 := Lib.hid hb
    clear hb
    go_wp2_with fail
    go_ret
    exact ⟨rfl, HB1.out⟩
  have HG0 := Lib.hid hg0
  have hv0 : ¬ v0 < 0 := by have h1 := HV0.out; rw [szV_small hg0] at h1; unfold SmallM at hg0; omega
  have ht0 : tot zs0 len0 ≤ 1048576 := by have h1 := HA0.out.1; unfold SmallM at hg0; rw [h1] at hg0; omega
  have hl0 : len0 ≤ 1048576 := by have h1 := HA0.out.1; unfold SmallM at hg0; omega
  clear hg0
  go_enter Try.func6, Try.ntmps6
  go_wp2_with fail
  go_at_call 27
  refine (szM_any _ _ _ _ _ v0 hc0 HA0.out HV0.out).mono ?_
  rintro e w1 ⟨rfl, hb⟩
  have HB1 := Lib.hid hb
  have HZ1 := Lib.hid hb.size
  have HBW1 := Lib.hid (hb)
  clear hb
  go_wp2_with fail
  go_at_call 29
  refine (toM_any _ _ _ _ _ HG0.out (HA0.out.below HBW1.out)).mono ?_
  rintro e w2 ⟨b1, l1, c1, rfl, ho, hb⟩
  obtain rfl : len0 = l1 := HA0.out.1.symm.trans ho.1
  have HO1_2 := Lib.hid ho
  clear ho
  have HB2 := Lib.hid hb
  have HZ2 := Lib.hid hb.size
  have HBW2 := Lib.hid (below_up HBW1.out hb (Nat.le_refl _))
  clear hb
  go_wp2_with fail
  go_at_call 33
  refine (toI_any _ _ _ _ _ (Nat.le_trans hg1 (by decide)) (HA1.out.below HBW2.out)).mono ?_
  rintro e w3 ⟨b2, l2, c2, rfl, ho, hb⟩
  obtain rfl : len1 = l2 := HA1.out.1.symm.trans ho.1
  have HO2_3 := Lib.hid ho
  clear ho
  have HB3 := Lib.hid hb
  have HZ3 := Lib.hid hb.size
  have HBW3 := Lib.hid (below_up HBW2.out hb (Nat.le_refl _))
  clear hb
  have HO1_3 := Lib.hid (HO1_2.out.below HB3.out)
  go_wp2_with fail
  go_at_call 32
  refine (specDel_any _ _ _ _ zs0 _ _ _ zs1 n2 n3 hn2 hm2 HG0.out HO1_3.out.sees (Nat.le_trans hg1 (by decide)) HO2_3.out.sees r HR.out).mono ?_
  rintro e w4 ⟨he, hb⟩
  rw [← HX.out, ← HY.out, ← HO.out] at he
  subst he
  have HB4 := Lib.hid hb
  have HZ4 := Lib.hid hb.size
  have HBW4 := Lib.hid (below_up HBW3.out hb (Nat.le_refl _))
  clear hb
  go_wp2_with fail
  obtain ⟨w5, hV⟩ : ∃ V, V = w4.alloc (.cells #[.int .i64 x, .int .i64 y] 30) := ⟨_, rfl⟩
  have hb : Below w4.heap.size w4 w5 := by rw [hV]; exact (Below.refl _ _).alloc (Nat.le_refl _) _
  have HO3_5 := Lib.hid (show PairAt w5 w4.heap.size x y by rw [hV]; exact pair_new _ _ _ _)
  rw [← hV]
  clear hV
  have HB5 := Lib.hid hb
  have HZ5 := Lib.hid hb.size
  have HBW5 := Lib.hid (below_up HBW4.out hb (Nat.le_refl _))
  clear hb
  go_at_call 29
  refine (toM_any _ _ _ _ _ HG0.out (HA0.out.below HBW5.out)).mono ?_
  rintro e w6 ⟨b4, l4, c4, rfl, ho, hb⟩
  obtain rfl : len0 = l4 := HA0.out.1.symm.trans ho.1
  have HO4_6 := Lib.hid ho
  clear ho
  have HB6 := Lib.hid hb
  have HZ6 := Lib.hid hb.size
  have HBW6 := Lib.hid (below_up HBW5.out hb (Nat.le_refl _))
  clear hb
  go_wp2_with fail
  go_at_call 33
  refine (toI_any _ _ _ _ _ (Nat.le_trans hg1 (by decide)) (HA1.out.below HBW6.out)).mono ?_
  rintro e w7 ⟨b5, l5, c5, rfl, ho, hb⟩
  obtain rfl : len1 = l5 := HA1.out.1.symm.trans ho.1
  have HO5_7 := Lib.hid ho
  clear ho
  have HB7 := Lib.hid hb
  have HZ7 := Lib.hid hb.size
  have HBW7 := Lib.hid (below_up HBW6.out hb (Nat.le_refl _))
  clear hb
  have HO4_7 := Lib.hid (HO4_6.out.below HB7.out)
  go_wp2_with fail
  go_at_call 13
  refine (delP_any _ _ _ _ zs0 _ _ _ zs1 n2 n3 hn2 hm2 hn3 hm3 HG0.out HO4_7.out.sees (Nat.le_trans hg1 (by decide)) HO5_7.out.cap HO5_7.out.capMax HO5_7.out.sees r HR.out).mono ?_
  rintro e w8 ⟨he, hb⟩
  rw [← HX.out, ← HY.out, ← HO.out] at he
  subst he
  have HB8 := Lib.hid hb
  have HZ8 := Lib.hid hb.size
  have HBW8 := Lib.hid (below_up HBW7.out hb (Nat.le_refl _))
  clear hb
  have HO3_6 := Lib.hid (HO3_5.out.below HB6.out)
  have HO3_7 := Lib.hid (HO3_6.out.below HB7.out)
  have HO3_8 := Lib.hid (HO3_7.out.below HB8.out)
  have wc0 := (HO3_8.out.alloc (.cells #[.int .i64 x, .int .i64 y] 30)).c0
  have wc1 := (HO3_8.out.alloc (.cells #[.int .i64 x, .int .i64 y] 30)).c1
  go_wp2_with fail
  obtain ⟨w9, hV⟩ : ∃ V, V = w8.alloc (.cells #[.int .i64 x, .int .i64 y] 30) := ⟨_, rfl⟩
  have hb : Below w8.heap.size w8 w9 := by rw [hV]; exact (Below.refl _ _).alloc (Nat.le_refl _) _
  have HO6_9 := Lib.hid (show PairAt w9 w8.heap.size x y by rw [hV]; exact pair_new _ _ _ _)
  rw [← hV]
  clear hV
  have HB9 := Lib.hid hb
  have HZ9 := Lib.hid hb.size
  have HBW9 := Lib.hid (below_up HBW8.out hb (Nat.le_refl _))
  clear hb
  go_at_call 34
  refine (eqRat_yes x y _).mono ?_
  rintro e w10 ⟨rfl, hb⟩
  have HB10 := Lib.hid hb
  have HZ10 := Lib.hid hb.size
  have HBW10 := Lib.hid (below_up HBW9.out hb (Nat.le_refl _))
  clear hb
  clear wc0 wc1
  go_wp2_with fail
  go_at_call 29
  refine (toM_any _ _ _ _ _ HG0.out (HA0.out.below HBW10.out)).mono ?_
  rintro e w11 ⟨b7, l7, c7, rfl, ho, hb⟩
  obtain rfl : len0 = l7 := HA0.out.1.symm.trans ho.1
  have HO7_11 := Lib.hid ho
  clear ho
  have HB11 := Lib.hid hb
  have HZ11 := Lib.hid hb.size
  have HBW11 := Lib.hid (below_up HBW10.out hb (Nat.le_refl _))
  clear hb
  have HO4_8 := Lib.hid (HO4_7.out.below HB8.out)
  have HO4_9 := Lib.hid (HO4_8.out.below HB9.out)
  have HO4_10 := Lib.hid (HO4_9.out.below HB10.out)
  have HO4_11 := Lib.hid (HO4_10.out.below HB11.out)
  go_wp2_with fail
  go_at_call 30
  refine (eqM_yes _ _ _ _ _ _ _ HG0.out HO4_11.out.sees HO7_11.out.sees).mono ?_
  rintro e w12 ⟨rfl, hb⟩
  have HB12 := Lib.hid hb
  have HZ12 := Lib.hid hb.size
  have HBW12 := Lib.hid (below_up HBW11.out hb (Nat.le_refl _))
  clear hb
  go_wp2_with fail
  go_at_call 33
  refine (toI_any _ _ _ _ _ (Nat.le_trans hg1 (by decide)) (HA1.out.below HBW12.out)).mono ?_
  rintro e w13 ⟨b8, l8, c8, rfl, ho, hb⟩
  obtain rfl : len1 = l8 := HA1.out.1.symm.trans ho.1
  have HO8_13 := Lib.hid ho
  clear ho
  have HB13 := Lib.hid hb
  have HZ13 := Lib.hid hb.size
  have HBW13 := Lib.hid (below_up HBW12.out hb (Nat.le_refl _))
  clear hb
  have HO5_8 := Lib.hid (HO5_7.out.below HB8.out)
  have HO5_9 := Lib.hid (HO5_8.out.below HB9.out)
  have HO5_10 := Lib.hid (HO5_9.out.below HB10.out)
  have HO5_11 := Lib.hid (HO5_10.out.below HB11.out)
  have HO5_12 := Lib.hid (HO5_11.out.below HB12.out)
  have HO5_13 := Lib.hid (HO5_12.out.below HB13.out)
  go_wp2_with fail
  go_at_call 24
  refine (eqI_yes _ _ _ _ _ _ _ (Nat.le_trans hg1 (by decide)) HO5_13.out.sees HO8_13.out.sees).mono ?_
  rintro e w14 ⟨rfl, hb⟩
  have HB14 := Lib.hid hb
  have HZ14 := Lib.hid hb.size
  have HBW14 := Lib.hid (below_up HBW13.out hb (Nat.le_refl _))
  clear hb
  go_wp2_with fail
  go_ret
  exact ⟨rfl, HBW14.out⟩
end Go.Proofs.Ytedkeobhcpbigaa
