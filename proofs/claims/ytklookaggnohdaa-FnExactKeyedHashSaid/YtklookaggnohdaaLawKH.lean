/- The walk of the law on KeyedHash. -/
import Derived.Test.YtklookaggnohdaaKeyed
namespace Go.Proofs.Ytklookaggnohdaa
open Go.RowKit
set_option maxHeartbeats 4000000 in
set_option maxRecDepth 20000 in
theorem lawKeyedHash_walk (n0 : Int) (a1 : Option Addr) (len1 cap1 : Nat) (z1 : List Int) (W : World) (q0 : (Lit.int .i64 n0).wf = true) (q1 : IsRow .i64 W a1 len1 cap1 z1) : Calls Try.prog 6 #[.int .i64 n0, .slice a1 len1 cap1] W fun e W' => e = .returned (.bool true) ∧ Below W.heap.size W W' := by
  obtain ⟨hn0, hm0⟩ := bounds_i64 q0
  clear q0
  obtain ⟨zs1, hs1⟩ : ∃ zs, Sees .i64 W a1 len1 zs := ⟨_, row_sees q1⟩
  have HA1 := Lib.hid hs1
  clear hs1 q1
  by_cases hg1 : len1 ≤ 1048576
  case neg =>
    go_enter Try.func6, Try.ntmps6
    go_wp2_with fail
    go_ret
    exact ⟨rfl, Below.refl _ _⟩
  go_enter Try.func6, Try.ntmps6
  go_wp2_with fail
  go_at_call 27
  refine (toI_any _ _ _ _ _ (Nat.le_trans hg1 (by decide)) HA1.out).mono ?_
  rintro e w1 ⟨b1, l1, c1, rfl, ho, hb⟩
  obtain rfl : len1 = l1 := HA1.out.1.symm.trans ho.1
  have HO1_1 := Lib.hid ho
  clear ho
  have HB1 := Lib.hid hb
  have HZ1 := Lib.hid hb.size
  have HBW1 := Lib.hid (hb)
  clear hb
  go_wp2_with fail
  go_at_call 29
  refine (specKeyed_any _ n0 _ _ _ zs1 hn0 hm0 (Nat.le_trans hg1 (by decide)) HO1_1.out.sees).mono ?_
  rintro e w2 ⟨rfl, hb⟩
  have HB2 := Lib.hid hb
  have HZ2 := Lib.hid hb.size
  have HBW2 := Lib.hid (below_up HBW1.out hb (Nat.le_refl _))
  clear hb
  go_wp2_with fail
  go_at_call 27
  refine (toI_any _ _ _ _ _ (Nat.le_trans hg1 (by decide)) (HA1.out.below HBW2.out)).mono ?_
  rintro e w3 ⟨b2, l2, c2, rfl, ho, hb⟩
  obtain rfl : len1 = l2 := HA1.out.1.symm.trans ho.1
  have HO2_3 := Lib.hid ho
  clear ho
  have HB3 := Lib.hid hb
  have HZ3 := Lib.hid hb.size
  have HBW3 := Lib.hid (below_up HBW2.out hb (Nat.le_refl _))
  clear hb
  go_wp2_with fail
  go_at_call 19
  refine (keyed_any _ n0 _ _ _ zs1 hn0 hm0 (Nat.le_trans hg1 (by decide)) HO2_3.out.sees).mono ?_
  rintro e w4 ⟨rfl, hb⟩
  have HB4 := Lib.hid hb
  have HZ4 := Lib.hid hb.size
  have HBW4 := Lib.hid (below_up HBW3.out hb (Nat.le_refl _))
  clear hb
  go_wp2_with fail
  go_at_call 27
  refine (toI_any _ _ _ _ _ (Nat.le_trans hg1 (by decide)) (HA1.out.below HBW4.out)).mono ?_
  rintro e w5 ⟨b3, l3, c3, rfl, ho, hb⟩
  obtain rfl : len1 = l3 := HA1.out.1.symm.trans ho.1
  have HO3_5 := Lib.hid ho
  clear ho
  have HB5 := Lib.hid hb
  have HZ5 := Lib.hid hb.size
  have HBW5 := Lib.hid (below_up HBW4.out hb (Nat.le_refl _))
  clear hb
  have HO2_4 := Lib.hid (HO2_3.out.below HB4.out)
  have HO2_5 := Lib.hid (HO2_4.out.below HB5.out)
  go_wp2_with fail
  go_at_call 28
  refine (eqI_yes _ _ _ _ _ _ _ (Nat.le_trans hg1 (by decide)) HO2_5.out.sees HO3_5.out.sees).mono ?_
  rintro e w6 ⟨rfl, hb⟩
  have HB6 := Lib.hid hb
  have HZ6 := Lib.hid hb.size
  have HBW6 := Lib.hid (below_up HBW5.out hb (Nat.le_refl _))
  clear hb
  go_wp2_with fail
  go_ret
  exact ⟨rfl, HBW6.out⟩
end Go.Proofs.Ytklookaggnohdaa
