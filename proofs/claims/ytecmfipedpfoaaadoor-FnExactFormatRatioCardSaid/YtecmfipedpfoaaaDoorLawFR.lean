/- The walk of the law on FormatRatio. -/
import Derived.Test.YtecmfipedpfoaaaDoorFmtR
namespace Go.Proofs.YtecmfipedpfoaaaDoor
open Go.RowKit
set_option maxHeartbeats 800000 in
theorem lawFormatRatio_walk (x y : Int) (W : World) (qx : (Lit.int .i64 x).wf = true) (qy : (Lit.int .i64 y).wf = true) (hT : HasTab W) : Calls Tryd.prog 3 #[.agg #[.int .i64 x, .int .i64 y]] W fun e W' => e = .returned (.bool true) ∧ Below W.heap.size W W' := by
  have HX : Hid (IsI64 x) := Lib.hid (bounds_i64 qx)
  have HY : Hid (IsI64 y) := Lib.hid (bounds_i64 qy)
  have HT := Lib.hid hT
  clear qx qy hT
  obtain ⟨S, hS⟩ : ∃ S, S = fmtR x y := ⟨_, rfl⟩
  have HS := Lib.hid hS
  clear hS
  go_enter Tryd.func3, Tryd.ntmps3
  go_wp2_with fail
  go_at_call 5
  refine (toRat_any x y _).mono ?_
  rintro e w1 ⟨rfl, hb1⟩
  have HP1 := Lib.hid ((pair_new W x y 23).below hb1)
  have HB1 := Lib.hid (((Below.refl W.heap.size W).alloc (Nat.le_refl _) (.cells #[.int .i64 x, .int .i64 y] 23)).trans (hb1.mono (by simp)))
  clear hb1
  go_wp2_with fail
  go_at_call 4
  refine (specFmtR_any x y S _ HS.out HX.out HY.out (HT.out.below HB1.out)).mono ?_
  rintro e w2 ⟨rfl, hb2⟩
  have HP2 := Lib.hid (HP1.out.below hb2)
  have HB2 := Lib.hid (HB1.out.trans (hb2.mono HB1.out.size))
  have p0 := HP2.out.c0
  have p1 := HP2.out.c1
  clear hb2
  go_wp2_with fail
  go_at_call 5
  refine (toRat_any x y _).mono ?_
  rintro e w3 ⟨rfl, hb3⟩
  have HB3 := Lib.hid (HB2.out.trans (hb3.mono HB2.out.size))
  clear hb3
  go_wp2_with fail
  go_at_call 6
  refine (fmtR_any x y S _ HS.out HX.out HY.out (HT.out.below HB3.out)).mono ?_
  rintro e w4 ⟨rfl, hb4⟩
  have HB4 := Lib.hid (HB3.out.trans (hb4.mono HB3.out.size))
  clear hb4
  go_wp2
  go_ret
  exact ⟨rfl, HB4.out⟩
end Go.Proofs.YtecmfipedpfoaaaDoor
