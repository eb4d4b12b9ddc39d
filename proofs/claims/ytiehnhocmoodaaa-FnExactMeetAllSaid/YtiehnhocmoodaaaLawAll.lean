/- The walk of the law on MeetAll. -/
import Derived.Test.YtiehnhocmoodaaaIvP
namespace Go.Proofs.Ytiehnhocmoodaaa
open Go.RowKit
set_option maxHeartbeats 4000000 in
set_option maxRecDepth 20000 in
theorem lawMeetAll_walk (a0 : Option Addr) (len0 cap0 : Nat) (z0 : List (Int × Int)) (W : World) (q0 : IsIvs W a0 len0 z0) : Calls Try.prog 6 #[.slice a0 len0 cap0] W fun e W' => e = .returned (.bool true) ∧ Below W.heap.size W W' := by
  obtain ⟨zs0, hs0⟩ : ∃ zs, SeesV W a0 len0 zs := ⟨_, q0.1⟩
  have hc0 := q0.2
  have HA0 := Lib.hid hs0
  clear hs0 q0
  obtain ⟨x, hx⟩ : ∃ x, x = allLo zs0 := ⟨_, rfl⟩
  have HX := Lib.hid hx
  obtain ⟨y, hy⟩ : ∃ y, y = allHi zs0 := ⟨_, rfl⟩
  have HY := Lib.hid hy
  obtain ⟨o, ho⟩ : ∃ o, o = allOk zs0 := ⟨_, rfl⟩
  have HO := Lib.hid ho
  clear hx hy ho
  by_cases hg0 : (len0 : Int) ≤ 1048576
  case neg =>
    go_enter Try.func6, Try.ntmps6
    go_wp2_with fail
    go_at_call 23
    refine (szIv_any _ _ _ _ 1048576 (-1) hc0 (by omega) (by omega) (by rw [if_pos (by omega)])).mono ?_
    rintro e w2 ⟨rfl, rfl⟩
    go_wp2_with fail
    go_ret
    exact ⟨rfl, Below.refl _ _⟩
  have hw0 : ¬ 1048576 - (len0 : Int) < 0 := by omega
  have hl0 : len0 ≤ 1048576 := by omega
  go_enter Try.func6, Try.ntmps6
  go_wp2_with fail
  go_at_call 23
  refine (szIv_any _ _ _ _ 1048576 (1048576 - len0) hc0 (by omega) (by omega) (by rw [if_neg (by omega)])).mono ?_
  rintro e w1 ⟨rfl, hw⟩
  have hb : Below W.heap.size W w1 := hw ▸ Below.refl _ _
  clear hw
  have HB1 := Lib.hid hb
  have HZ1 := Lib.hid hb.size
  have HBW1 := Lib.hid (hb)
  clear hb
  go_wp2_with fail
  go_at_call 25
  refine (toV_any _ _ _ _ _ (Nat.le_trans hl0 (by decide)) (HA0.out.below HBW1.out)).mono ?_
  rintro e w2 ⟨b1, l1, c1, rfl, ho, hb⟩
  obtain rfl : len0 = l1 := HA0.out.1.symm.trans ho.1
  have HO1_2 := Lib.hid ho
  clear ho
  have HB2 := Lib.hid hb
  have HZ2 := Lib.hid hb.size
  have HBW2 := Lib.hid (below_up HBW1.out hb (Nat.le_refl _))
  clear hb
  go_wp2_with fail
  go_at_call 24
  refine (specAll_any _ _ _ _ zs0 (Nat.le_trans hl0 (by decide)) HO1_2.out.sees).mono ?_
  rintro e w3 ⟨he, hb⟩
  rw [← HX.out, ← HY.out, ← HO.out] at he
  subst he
  have HB3 := Lib.hid hb
  have HZ3 := Lib.hid hb.size
  have HBW3 := Lib.hid (below_up HBW2.out hb (Nat.le_refl _))
  clear hb
  go_wp2_with fail
  obtain ⟨w4, hV⟩ : ∃ V, V = w3.alloc (.cells #[.int .i64 x, .int .i64 y] 26) := ⟨_, rfl⟩
  have hb : Below w3.heap.size w3 w4 := by rw [hV]; exact (Below.refl _ _).alloc (Nat.le_refl _) _
  have HO2_4 := Lib.hid (show PairAt w4 w3.heap.size x y by rw [hV]; exact pair_new _ _ _ _)
  rw [← hV]
  clear hV
  have HB4 := Lib.hid hb
  have HZ4 := Lib.hid hb.size
  have HBW4 := Lib.hid (below_up HBW3.out hb (Nat.le_refl _))
  clear hb
  go_at_call 25
  refine (toV_any _ _ _ _ _ (Nat.le_trans hl0 (by decide)) (HA0.out.below HBW4.out)).mono ?_
  rintro e w5 ⟨b3, l3, c3, rfl, ho, hb⟩
  obtain rfl : len0 = l3 := HA0.out.1.symm.trans ho.1
  have HO3_5 := Lib.hid ho
  clear ho
  have HB5 := Lib.hid hb
  have HZ5 := Lib.hid hb.size
  have HBW5 := Lib.hid (below_up HBW4.out hb (Nat.le_refl _))
  clear hb
  go_wp2_with fail
  go_at_call 16
  refine (allP_any _ _ _ _ zs0 (Nat.le_trans hl0 (by decide)) HO3_5.out.sees).mono ?_
  rintro e w6 ⟨he, hb⟩
  rw [← HX.out, ← HY.out, ← HO.out] at he
  subst he
  have HB6 := Lib.hid hb
  have HZ6 := Lib.hid hb.size
  have HBW6 := Lib.hid (below_up HBW5.out hb (Nat.le_refl _))
  clear hb
  have HO2_5 := Lib.hid (HO2_4.out.below HB5.out)
  have HO2_6 := Lib.hid (HO2_5.out.below HB6.out)
  have wc0 := (HO2_6.out.alloc (.cells #[.int .i64 x, .int .i64 y] 26)).c0
  have wc1 := (HO2_6.out.alloc (.cells #[.int .i64 x, .int .i64 y] 26)).c1
  go_wp2_with fail
  obtain ⟨w7, hV⟩ : ∃ V, V = w6.alloc (.cells #[.int .i64 x, .int .i64 y] 26) := ⟨_, rfl⟩
  have hb : Below w6.heap.size w6 w7 := by rw [hV]; exact (Below.refl _ _).alloc (Nat.le_refl _) _
  have HO4_7 := Lib.hid (show PairAt w7 w6.heap.size x y by rw [hV]; exact pair_new _ _ _ _)
  rw [← hV]
  clear hV
  have HB7 := Lib.hid hb
  have HZ7 := Lib.hid hb.size
  have HBW7 := Lib.hid (below_up HBW6.out hb (Nat.le_refl _))
  clear hb
  go_at_call 22
  refine (eqIv_yes x y _).mono ?_
  rintro e w8 ⟨rfl, hb⟩
  have HB8 := Lib.hid hb
  have HZ8 := Lib.hid hb.size
  have HBW8 := Lib.hid (below_up HBW7.out hb (Nat.le_refl _))
  clear hb
  clear wc0 wc1
  go_wp2_with fail
  go_at_call 25
  refine (toV_any _ _ _ _ _ (Nat.le_trans hl0 (by decide)) (HA0.out.below HBW8.out)).mono ?_
  rintro e w9 ⟨b5, l5, c5, rfl, ho, hb⟩
  obtain rfl : len0 = l5 := HA0.out.1.symm.trans ho.1
  have HO5_9 := Lib.hid ho
  clear ho
  have HB9 := Lib.hid hb
  have HZ9 := Lib.hid hb.size
  have HBW9 := Lib.hid (below_up HBW8.out hb (Nat.le_refl _))
  clear hb
  have HO3_6 := Lib.hid (HO3_5.out.below HB6.out)
  have HO3_7 := Lib.hid (HO3_6.out.below HB7.out)
  have HO3_8 := Lib.hid (HO3_7.out.below HB8.out)
  have HO3_9 := Lib.hid (HO3_8.out.below HB9.out)
  go_wp2_with fail
  go_at_call 26
  refine (eqV_yes _ _ _ _ _ _ _ (Nat.le_trans hl0 (by decide)) HO3_9.out.sees HO5_9.out.sees).mono ?_
  rintro e w10 ⟨rfl, hb⟩
  have HB10 := Lib.hid hb
  have HZ10 := Lib.hid hb.size
  have HBW10 := Lib.hid (below_up HBW9.out hb (Nat.le_refl _))
  clear hb
  go_wp2_with fail
  go_ret
  exact ⟨rfl, HBW10.out⟩
end Go.Proofs.Ytiehnhocmoodaaa
