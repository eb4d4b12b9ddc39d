/- The walk of the law on MissingFor. -/
import Derived.Test.YtedkeobhcpbigaaToP
namespace Go.Proofs.Ytedkeobhcpbigaa
open Go.RowKit
set_option maxHeartbeats 4000000 in
set_option maxRecDepth 20000 in
theorem lawMissingFor_walk (a0 : Option Addr) (len0 cap0 : Nat) (z0 : List (List Int)) (n1 : Int) (W : World) (q0 : IsRows W a0 len0 z0) (q1 : (Lit.int .i64 n1).wf = true) : Calls Try.prog 9 #[.slice a0 len0 cap0, .int .i64 n1] W fun e W' => e = .returned (.bool true) ∧ Below W.heap.size W W' := by
  obtain ⟨zs0, hs0⟩ : ∃ zs, SeesM W a0 len0 zs := ⟨_, q0.1⟩
  have hc0 := q0.2
  have HA0 := Lib.hid hs0
  clear hs0 q0
  obtain ⟨hn1, hm1⟩ := bounds_i64 q1
  clear q1
  obtain ⟨v0, hv0⟩ : ∃ v, v = szV zs0 := ⟨_, rfl⟩
  have HV0 := Lib.hid hv0
  clear hv0
  by_cases hg0 : SmallM zs0
  case neg =>
    have hv0 : v0 = -1 := HV0.out.trans (szV_big hg0)
    subst hv0
    go_enter Try.func9, Try.ntmps9
    go_wp2_with fail
    go_at_call 27
    refine (szM_any _ _ _ _ _ (-1) hc0 HA0.out HV0.out).mono ?_
    rintro e w1 ⟨rfl, hb⟩
    have HB1 := Lib.hid hb
    clear hb
    go_wp2_with fail
    go_ret
    exact ⟨rfl, HB1.out⟩
  have HG0 := Lib.hid hg0
  have hv0 : ¬ v0 < 0 := by have h1 := HV0.out; rw [szV_small hg0] at h1; unfold SmallM at hg0; omega
  have ht0 : tot zs0 len0 ≤ 1048576 := by have h1 := HA0.out.1; unfold SmallM at hg0; rw [h1] at hg0; omega
  have hl0 : len0 ≤ 1048576 := by have h1 := HA0.out.1; unfold SmallM at hg0; omega
  clear hg0
  go_enter Try.func9, Try.ntmps9
  go_wp2_with fail
  go_at_call 27
  refine (szM_any _ _ _ _ _ v0 hc0 HA0.out HV0.out).mono ?_
  rintro e w1 ⟨rfl, hb⟩
  have HB1 := Lib.hid hb
  have HZ1 := Lib.hid hb.size
  have HBW1 := Lib.hid (hb)
  clear hb
  go_wp2_with fail
  go_at_call 29
  refine (toM_any _ _ _ _ _ HG0.out (HA0.out.below HBW1.out)).mono ?_
  rintro e w2 ⟨b1, l1, c1, rfl, ho, hb⟩
  obtain rfl : len0 = l1 := HA0.out.1.symm.trans ho.1
  have HO1_2 := Lib.hid ho
  clear ho
  have HB2 := Lib.hid hb
  have HZ2 := Lib.hid hb.size
  have HBW2 := Lib.hid (below_up HBW1.out hb (Nat.le_refl _))
  clear hb
  go_wp2_with fail
  go_at_call 37
  refine (specMissT_any _ _ _ _ zs0 n1 HG0.out hn1 hm1 HO1_2.out.sees).mono ?_
  rintro e w3 ⟨rfl, hb⟩
  have HB3 := Lib.hid hb
  have HZ3 := Lib.hid hb.size
  have HBW3 := Lib.hid (below_up HBW2.out hb (Nat.le_refl _))
  clear hb
  go_wp2_with fail
  go_at_call 29
  refine (toM_any _ _ _ _ _ HG0.out (HA0.out.below HBW3.out)).mono ?_
  rintro e w4 ⟨b2, l2, c2, rfl, ho, hb⟩
  obtain rfl : len0 = l2 := HA0.out.1.symm.trans ho.1
  have HO2_4 := Lib.hid ho
  clear ho
  have HB4 := Lib.hid hb
  have HZ4 := Lib.hid hb.size
  have HBW4 := Lib.hid (below_up HBW3.out hb (Nat.le_refl _))
  clear hb
  go_wp2_with fail
  go_at_call 20
  refine (missTP_any _ _ _ _ zs0 n1 HG0.out hn1 hm1 HO2_4.out.sees).mono ?_
  rintro e w5 ⟨rfl, hb⟩
  have HB5 := Lib.hid hb
  have HZ5 := Lib.hid hb.size
  have HBW5 := Lib.hid (below_up HBW4.out hb (Nat.le_refl _))
  clear hb
  go_wp2_with fail
  go_at_call 29
  refine (toM_any _ _ _ _ _ HG0.out (HA0.out.below HBW5.out)).mono ?_
  rintro e w6 ⟨b3, l3, c3, rfl, ho, hb⟩
  obtain rfl : len0 = l3 := HA0.out.1.symm.trans ho.1
  have HO3_6 := Lib.hid ho
  clear ho
  have HB6 := Lib.hid hb
  have HZ6 := Lib.hid hb.size
  have HBW6 := Lib.hid (below_up HBW5.out hb (Nat.le_refl _))
  clear hb
  have HO2_5 := Lib.hid (HO2_4.out.below HB5.out)
  have HO2_6 := Lib.hid (HO2_5.out.below HB6.out)
  go_wp2_with fail
  go_at_call 30
  refine (eqM_yes _ _ _ _ _ _ _ HG0.out HO2_6.out.sees HO3_6.out.sees).mono ?_
  rintro e w7 ⟨rfl, hb⟩
  have HB7 := Lib.hid hb
  have HZ7 := Lib.hid hb.size
  have HBW7 := Lib.hid (below_up HBW6.out hb (Nat.le_refl _))
  clear hb
  go_wp2_with fail
  go_ret
  exact ⟨rfl, HBW7.out⟩
end Go.Proofs.Ytedkeobhcpbigaa
