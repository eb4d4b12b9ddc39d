/- The walk of the law on UnitRow. -/
import Derived.Test.YtedkeobhcpbigaaToP
namespace Go.Proofs.Ytedkeobhcpbigaa
open Go.RowKit
set_option maxHeartbeats 4000000 in
set_option maxRecDepth 20000 in
theorem lawUnitRow_walk (n0 : Int) (n1 : Int) (W : World) (q0 : (Lit.int .i64 n0).wf = true) (q1 : (Lit.int .i64 n1).wf = true) : Calls Try.prog 4 #[.int .i64 n0, .int .i64 n1] W fun e W' => e = .returned (.bool true) ∧ Below W.heap.size W W' := by
  obtain ⟨hn0, hm0⟩ := bounds_i64 q0
  clear q0
  obtain ⟨hn1, hm1⟩ := bounds_i64 q1
  clear q1
  go_enter Try.func4, Try.ntmps4
  go_wp2_with fail
  go_at_call 22
  refine (specUnit_any _ n0 n1 hn0 hm0).mono ?_
  rintro e w1 ⟨b1, l1, c1, rfl, ho, hb⟩
  have hl1 : l1 ≤ 1073741824 := by have h1 := ho.1; have h2 := unitV_len n0 n1; omega
  have HO1_1 := Lib.hid ho
  clear ho
  have HB1 := Lib.hid hb
  have HZ1 := Lib.hid hb.size
  have HBW1 := Lib.hid (hb)
  clear hb
  have HWL := Lib.hid (HO1_1.out.1)
  go_wp2_with fail
  go_at_call 23
  refine (unitP_any _ n0 n1 hn0 hm0).mono ?_
  rintro e w2 ⟨b2, l2, c2, rfl, ho, hb⟩
  obtain rfl : l1 = l2 := HWL.out.symm.trans ho.1
  have HO2_2 := Lib.hid ho
  clear ho
  have HB2 := Lib.hid hb
  have HZ2 := Lib.hid hb.size
  have HBW2 := Lib.hid (below_up HBW1.out hb (Nat.le_refl _))
  clear hb
  have HO1_2 := Lib.hid (HO1_1.out.below HB2.out)
  go_wp2_with fail
  go_at_call 24
  refine (eqI_yes _ _ _ _ _ _ _ hl1 HO2_2.out.sees HO1_2.out.sees).mono ?_
  rintro e w3 ⟨rfl, hb⟩
  have HB3 := Lib.hid hb
  have HZ3 := Lib.hid hb.size
  have HBW3 := Lib.hid (below_up HBW2.out hb (Nat.le_refl _))
  clear hb
  have HO2_3 := Lib.hid (HO2_2.out.below HB3.out)
  go_wp2_with fail
  go_at_call 25
  refine (markI_any _ _ _ _ _ _ _ 1 hl1 (by omega) (by omega) HO2_3.out).mono ?_
  rintro e w4 ⟨rfl, ho, hm⟩
  have HM4 := Lib.hid hm
  have HZ4 := Lib.hid hm.size
  have HBW4 := Lib.hid (below_moved HBW3.out hm (Nat.le_refl _) HZ1.out)
  have HO2_4 := Lib.hid ho
  clear ho hm
  go_wp2_with fail
  go_at_call 26
  refine (heldI_any _ _ _ _ 1 hl1 (by omega) (by omega) HO2_4.out.sees).mono ?_
  rintro e w5 ⟨rfl, hb⟩
  have HB5 := Lib.hid hb
  have HZ5 := Lib.hid hb.size
  have HBW5 := Lib.hid (below_up HBW4.out hb (Nat.le_refl _))
  clear hb
  go_wp2_with fail
  go_at_call 23
  refine (unitP_any _ n0 n1 hn0 hm0).mono ?_
  rintro e w6 ⟨b3, l3, c3, rfl, ho, hb⟩
  obtain rfl : l1 = l3 := HWL.out.symm.trans ho.1
  have HO3_6 := Lib.hid ho
  clear ho
  have HB6 := Lib.hid hb
  have HZ6 := Lib.hid hb.size
  have HBW6 := Lib.hid (below_up HBW5.out hb (Nat.le_refl _))
  clear hb
  have HO1_3 := Lib.hid (HO1_2.out.below HB3.out)
  have HO1_4 := Lib.hid (HO1_3.out.moved HM4.out (.inl (Nat.le_refl _)))
  have HO1_5 := Lib.hid (HO1_4.out.below HB5.out)
  have HO1_6 := Lib.hid (HO1_5.out.below HB6.out)
  go_wp2_with fail
  go_at_call 24
  refine (eqI_yes _ _ _ _ _ _ _ hl1 HO3_6.out.sees HO1_6.out.sees).mono ?_
  rintro e w7 ⟨rfl, hb⟩
  have HB7 := Lib.hid hb
  have HZ7 := Lib.hid hb.size
  have HBW7 := Lib.hid (below_up HBW6.out hb (Nat.le_refl _))
  clear hb
  have HO2_5 := Lib.hid (HO2_4.out.below HB5.out)
  have HO2_6 := Lib.hid (HO2_5.out.below HB6.out)
  have HO2_7 := Lib.hid (HO2_6.out.below HB7.out)
  go_wp2_with fail
  go_at_call 26
  refine (heldI_any _ _ _ _ 1 hl1 (by omega) (by omega) HO2_7.out.sees).mono ?_
  rintro e w8 ⟨rfl, hb⟩
  have HB8 := Lib.hid hb
  have HZ8 := Lib.hid hb.size
  have HBW8 := Lib.hid (below_up HBW7.out hb (Nat.le_refl _))
  clear hb
  go_wp2_with fail
  go_ret
  exact ⟨rfl, HBW8.out⟩
end Go.Proofs.Ytedkeobhcpbigaa
