/- The walks of the laws on CompareRatios, AddRatios and TimesRatios. -/
import Derived.Test.YtecmfipedpfoaaaLawRat1
import Derived.Deep.DeepCutAuto
import Derived.Tactics2
namespace Go.Proofs.Ytecmfipedpfoaaa
open Go.RowKit
set_option maxHeartbeats 1600000 in
theorem lawCompareRatios_walk (a b c d : Int) (W : World) (qa : (Lit.int .i64 a).wf = true) (qb : (Lit.int .i64 b).wf = true) (qc : (Lit.int .i64 c).wf = true) (qd : (Lit.int .i64 d).wf = true) : Calls Try.prog 9 #[.agg #[.int .i64 a, .int .i64 b], .agg #[.int .i64 c, .int .i64 d]] W (LawTrue W) := by
  have HA := Lib.hid (isI64_of qa)
  have HBB := Lib.hid (isI64_of qb)
  have HC := Lib.hid (isI64_of qc)
  have HD := Lib.hid (isI64_of qd)
  clear qa qb qc qd
  go_enter Try.func9, Try.ntmps9
  go_wp2_with fail
  obtain ⟨W0, hW0⟩ : ∃ W0, W0 = (W.alloc (.cells #[.int .i64 a, .int .i64 b] 35)).alloc (.cells #[.int .i64 c, .int .i64 d] 35) := ⟨_, rfl⟩
  have HP := Lib.hid (show PairAt W0 W.heap.size a b by rw [hW0]; exact (pair_new W a b _).alloc _)
  have HQ := Lib.hid (show PairAt W0 (W.heap.size + 1) c d by rw [hW0]; have := pair_new (W.alloc (.cells #[.int .i64 a, .int .i64 b] 35)) c d 35; simpa using this)
  have HW := Lib.hid (show Below W.heap.size W W0 by rw [hW0]; exact below_allocW (below_allocW (Below.refl _ _) _) _)
  rw [← hW0]
  clear hW0
  have p0 := HP.out.c0
  have p1 := HP.out.c1
  have q0 := HQ.out.c0
  have q1 := HQ.out.c1
  go_region_held3 (fun w' => (w'.cell? ⟨W.heap.size, 0, none⟩ = some (.int .i64 a) ∧ w'.cell? ⟨W.heap.size, 1, none⟩ = some (.int .i64 b)) ∧ (w'.cell? ⟨W.heap.size + 1, 0, none⟩ = some (.int .i64 c) ∧ w'.cell? ⟨W.heap.size + 1, 1, none⟩ = some (.int .i64 d))) (go_keep) (first
    | (go_at_call 27; refine (specCmp_any a b c d _).mono ?_; rintro e w3 ⟨rfl, hb⟩; have HB3 := Lib.hid (below_up HB2.out hb (Nat.le_refl _)); have p0 := (HP.out.below HB3.out).c0; have p1 := (HP.out.below HB3.out).c1; have q0 := (HQ.out.below HB3.out).c0; have q1 := (HQ.out.below HB3.out).c1; clear hb)
    | (go_at_call_of 21 (Value.agg #[.int .i64 a, .int .i64 b]); refine (toRat_any a b _).mono ?_; rintro e w1 ⟨rfl, hb⟩; have HB1 := Lib.hid (below_up (Below.refl W0.heap.size W0).drew hb (Nat.le_refl _)); have p0 := (HP.out.below HB1.out).c0; have p1 := (HP.out.below HB1.out).c1; have q0 := (HQ.out.below HB1.out).c0; have q1 := (HQ.out.below HB1.out).c1; clear hb)
    | (go_at_call_of 21 (Value.agg #[.int .i64 c, .int .i64 d]); refine (toRat_any c d _).mono ?_; rintro e w2 ⟨rfl, hb⟩; have HB2 := Lib.hid (below_up HB1.out hb (Nat.le_refl _)); have p0 := (HP.out.below HB2.out).c0; have p1 := (HP.out.below HB2.out).c1; have q0 := (HQ.out.below HB2.out).c0; have q1 := (HQ.out.below HB2.out).c1; clear hb))
  go_wp2_with fail
  have HP3 := Lib.hid (HP.out.below HB3.out)
  have HQ3 := Lib.hid (HQ.out.below HB3.out)
  go_region_held3 (fun w' => (w'.cell? ⟨W.heap.size, 0, none⟩ = some (.int .i64 a) ∧ w'.cell? ⟨W.heap.size, 1, none⟩ = some (.int .i64 b)) ∧ (w'.cell? ⟨W.heap.size + 1, 0, none⟩ = some (.int .i64 c) ∧ w'.cell? ⟨W.heap.size + 1, 1, none⟩ = some (.int .i64 d))) (go_keep) (first
    | (go_at_call 17; refine (cmpRat_any a b c d _ HA.out HBB.out HC.out HD.out).mono ?_; rintro e w6 ⟨rfl, hb⟩; have HB6 := Lib.hid (below_up HB5.out hb (Nat.le_refl _)); have p0 := (HP3.out.below HB6.out).c0; have p1 := (HP3.out.below HB6.out).c1; have q0 := (HQ3.out.below HB6.out).c0; have q1 := (HQ3.out.below HB6.out).c1; clear hb)
    | (go_at_call_of 21 (Value.agg #[.int .i64 a, .int .i64 b]); refine (toRat_any a b _).mono ?_; rintro e w4 ⟨rfl, hb⟩; have HB4 := Lib.hid (below_up (Below.refl w3.heap.size w3).drew hb (Nat.le_refl _)); have p0 := (HP3.out.below HB4.out).c0; have p1 := (HP3.out.below HB4.out).c1; have q0 := (HQ3.out.below HB4.out).c0; have q1 := (HQ3.out.below HB4.out).c1; clear hb)
    | (go_at_call_of 21 (Value.agg #[.int .i64 c, .int .i64 d]); refine (toRat_any c d _).mono ?_; rintro e w5 ⟨rfl, hb⟩; have HB5 := Lib.hid (below_up HB4.out hb (Nat.le_refl _)); have p0 := (HP3.out.below HB5.out).c0; have p1 := (HP3.out.below HB5.out).c1; have q0 := (HQ3.out.below HB5.out).c0; have q1 := (HQ3.out.below HB5.out).c1; clear hb))
  go_wp2_with fail
  go_ret
  exact ⟨rfl, HW.out.trans ((HB3.out.trans (HB6.out.mono HB3.out.size)).mono HW.out.size)⟩
end Go.Proofs.Ytecmfipedpfoaaa
