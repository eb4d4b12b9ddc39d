/- The walks of the laws on IsRatio, NegRatio, MakeRatio and CompareRatios. -/
import Derived.Test.YtecmfipedpfoaaaRatC
import Derived.Test.YtecmfipedpfoaaaPair
import Derived.Deep.RegionHeld3
namespace Go.Proofs.Ytecmfipedpfoaaa
open Go.RowKit
theorem isI64_of {n : Int} (h : (Lit.int .i64 n).wf = true) : IsI64 n := bounds_i64 h
def LawTrue (W : World) (e : Ending) (w' : World) : Prop := e = .returned (.bool true) ∧ Below W.heap.size W w'
theorem below_allocW {W w' : World} (h : Below W.heap.size W w') (o : Obj) : Below W.heap.size W (w'.alloc o) := h.alloc h.size o
set_option maxHeartbeats 800000 in
theorem lawIsRatio_walk (x y : Int) (W : World) (qx : (Lit.int .i64 x).wf = true) (qy : (Lit.int .i64 y).wf = true) : Calls Try.prog 4 #[.agg #[.int .i64 x, .int .i64 y]] W (LawTrue W) := by
  have hx := isI64_of qx
  have hy := isI64_of qy
  have HX := Lib.hid hx
  have HY := Lib.hid hy
  clear qx qy hx hy
  go_enter Try.func4, Try.ntmps4
  go_wp2_with fail
  go_at_call 21
  refine (toRat_any x y _).mono ?_
  rintro e w1 ⟨rfl, hb1⟩
  have HP1 := Lib.hid ((pair_new W x y 35).below hb1)
  have HB1 := Lib.hid (below_up (below_allocW (Below.refl W.heap.size W) _) hb1 (Nat.le_refl _))
  clear hb1
  go_wp2_with fail
  go_at_call 20
  refine (specIsR_any x y _).mono ?_
  rintro e w2 ⟨rfl, hb2⟩
  have HP2 := Lib.hid (HP1.out.below hb2)
  have HB2 := Lib.hid (below_up HB1.out hb2 (Nat.le_refl _))
  have p0 := HP2.out.c0
  have p1 := HP2.out.c1
  clear hb2
  go_wp2_with fail
  go_at_call 21
  refine (toRat_any x y _).mono ?_
  rintro e w3 ⟨rfl, hb3⟩
  have HB3 := Lib.hid (below_up HB2.out hb3 (Nat.le_refl _))
  clear hb3
  go_wp2_with fail
  go_at_call 15
  refine (isRat_any x y _ HX.out HY.out).mono ?_
  rintro e w4 ⟨rfl, hb4⟩
  have HB4 := Lib.hid (below_up HB3.out hb4 (Nat.le_refl _))
  clear hb4
  go_wp2_with fail
  go_ret
  exact ⟨rfl, HB4.out⟩
set_option maxHeartbeats 800000 in
theorem lawNegRatio_walk (x y : Int) (W : World) (qx : (Lit.int .i64 x).wf = true) (qy : (Lit.int .i64 y).wf = true) : Calls Try.prog 8 #[.agg #[.int .i64 x, .int .i64 y]] W (LawTrue W) := by
  have hx := isI64_of qx
  have hy := isI64_of qy
  have HX := Lib.hid hx
  have HY := Lib.hid hy
  clear qx qy hx hy
  go_enter Try.func8, Try.ntmps8
  go_wp2_with fail
  go_at_call 21
  refine (toRat_any x y _).mono ?_
  rintro e w1 ⟨rfl, hb1⟩
  have HP1 := Lib.hid ((pair_new W x y 35).below hb1)
  have HB1 := Lib.hid (below_up (below_allocW (Below.refl W.heap.size W) _) hb1 (Nat.le_refl _))
  clear hb1
  go_wp2_with fail
  go_at_call 25
  refine (specNeg_any x y _).mono ?_
  rintro e w2 ⟨rfl, hb2⟩
  have HP2 := Lib.hid (HP1.out.below hb2)
  have HB2 := Lib.hid (below_up HB1.out hb2 (Nat.le_refl _))
  have hn := (HP2.out.alloc (.cells #[.int .i64 (negN x y), .int .i64 (negD x y)] 25))
  have p0 := hn.c0
  have p1 := hn.c1
  have hlt := HP2.out.lt
  clear hb2 hn
  go_wp2_with fail
  go_at_call 21
  refine (toRat_any x y _).mono ?_
  rintro e w3 ⟨rfl, hb3⟩
  have HQ3 := Lib.hid ((pair_new w2 (negN x y) (negD x y) 25).below hb3)
  have HB3 := Lib.hid (below_up (below_allocW HB2.out _) hb3 (Nat.le_refl _))
  clear hb3
  go_wp2_with fail
  go_at_call 26
  refine (negRat_any x y _ HX.out HY.out).mono ?_
  rintro e w4 ⟨rfl, hb4⟩
  have HQ4 := Lib.hid (HQ3.out.below hb4)
  have HB4 := Lib.hid (below_up HB3.out hb4 (Nat.le_refl _))
  have hq := (HQ4.out.alloc (.cells #[.int .i64 (negN x y), .int .i64 (negD x y)] 25))
  have q0 := hq.c0
  have q1 := hq.c1
  clear hb4 hq
  go_wp2_with fail
  go_at_call 23
  refine (eqRat_yes _ _ _).mono ?_
  rintro e w5 ⟨rfl, hb5⟩
  have HB5 := Lib.hid (below_up (below_allocW HB4.out _) hb5 (Nat.le_refl _))
  clear hb5
  go_wp2_with fail
  go_ret
  exact ⟨rfl, HB5.out⟩
set_option maxHeartbeats 800000 in
theorem lawMakeRatio_walk (n d : Int) (W : World) (qx : (Lit.int .i64 n).wf = true) (qy : (Lit.int .i64 d).wf = true) : Calls Try.prog 5 #[.int .i64 n, .int .i64 d] W (LawTrue W) := by
  have hx := isI64_of qx
  have hy := isI64_of qy
  have HX := Lib.hid hx
  have HY := Lib.hid hy
  clear qx qy hx hy
  go_enter Try.func5, Try.ntmps5
  go_wp2_with fail
  go_at_call 22
  refine (specMr_any n d _).mono ?_
  rintro e w1 ⟨rfl, hb1⟩
  have HB1 := Lib.hid hb1
  clear hb1
  go_wp2_with fail
  go_at_call 19
  refine (mkRat_any n d _ HX.out HY.out).mono ?_
  rintro e w2 ⟨rfl, hb2⟩
  have HQ2 := Lib.hid ((pair_new w1 (mrN n d) (mrD n d) 25).below hb2)
  have HB2 := Lib.hid (below_up (below_allocW HB1.out _) hb2 (Nat.le_refl _))
  have hq := (HQ2.out.alloc (.cells #[.int .i64 (mrN n d), .int .i64 (mrD n d)] 25))
  have q0 := hq.c0
  have q1 := hq.c1
  clear hb2 hq
  go_wp2_with fail
  go_at_call 23
  refine (eqRat_yes _ _ _).mono ?_
  rintro e w5 ⟨rfl, hb5⟩
  have HB5 := Lib.hid (below_up (below_allocW HB2.out _) hb5 (Nat.le_refl _))
  clear hb5
  go_wp2_with fail
  go_ret
  exact ⟨rfl, HB5.out⟩
end Go.Proofs.Ytecmfipedpfoaaa
