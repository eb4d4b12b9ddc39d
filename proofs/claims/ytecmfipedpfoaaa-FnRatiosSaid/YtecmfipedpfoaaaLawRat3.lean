/- The walks of the laws on AddRatios and TimesRatios. -/
import Derived.Test.YtecmfipedpfoaaaLawRat1
import Derived.Deep.DeepCutAuto
import Derived.Tactics2
namespace Go.Proofs.Ytecmfipedpfoaaa
open Go.RowKit
theorem pair_put {w : World} {g : Nat} {x y : Int} (h : PairAt w g x y) (n d : Int) : PairAt ((w.setCell ⟨g, 0, none⟩ (.int .i64 n)).setCell ⟨g, 1, none⟩ (.int .i64 d)) g n d := by
  obtain ⟨h0, h1, h2, h3, h4⟩ := h
  exact ⟨by go_simp, by go_simp, by go_simp, by go_simp, by simpa [World.setCell] using h4⟩
/-- What a reckoned fraction is kept in. -/
def CutAt (W0 : World) (N D : Int) (K : Bool) (s5 s6 : Value) (wx : World) : Prop := ∃ g : Nat, s5 = .pointer (some ⟨g, 0, none⟩) ∧ s6 = .bool K ∧ PairAt wx g N D ∧ Below W0.heap.size W0 wx
set_option maxHeartbeats 4000000 in
theorem lawAddRatios_walk (a b c d : Int) (W : World) (qa : (Lit.int .i64 a).wf = true) (qb : (Lit.int .i64 b).wf = true) (qc : (Lit.int .i64 c).wf = true) (qd : (Lit.int .i64 d).wf = true) : Calls Try.prog 6 #[.agg #[.int .i64 a, .int .i64 b], .agg #[.int .i64 c, .int .i64 d]] W (LawTrue W) := by
  have HA := Lib.hid (isI64_of qa)
  have HBB := Lib.hid (isI64_of qb)
  have HC := Lib.hid (isI64_of qc)
  have HD := Lib.hid (isI64_of qd)
  clear qa qb qc qd
  go_enter Try.func6, Try.ntmps6
  go_wp2_with fail
  obtain ⟨W0, hW0⟩ : ∃ W0, W0 = (W.alloc (.cells #[.int .i64 a, .int .i64 b] 35)).alloc (.cells #[.int .i64 c, .int .i64 d] 35) := ⟨_, rfl⟩
  have HP := Lib.hid (show PairAt W0 W.heap.size a b by rw [hW0]; exact (pair_new W a b _).alloc _)
  have HQ := Lib.hid (show PairAt W0 (W.heap.size + 1) c d by rw [hW0]; have := pair_new (W.alloc (.cells #[.int .i64 a, .int .i64 b] 35)) c d 35; simpa using this)
  have HW := Lib.hid (show Below W.heap.size W W0 by rw [hW0]; exact below_allocW (below_allocW (Below.refl _ _) _) _)
  rw [← hW0]
  have hz0 : W.heap.size + 1 < W0.heap.size := by rw [hW0]; simp
  clear hW0
  have p0 := HP.out.c0
  have p1 := HP.out.c1
  have q0 := HQ.out.c0
  have q1 := HQ.out.c1
  have n0 := World.new_ne _ _ p0
  have n1 := World.new_ne _ _ q0
  go_cut [5, 6] (CutAt W0 (addN a b c d) (addD a b c d) (addOk a b c d))
  case first =>
    go_region_held3 (fun w' => (w'.cell? ⟨W.heap.size, 0, none⟩ = some (.int .i64 a) ∧ w'.cell? ⟨W.heap.size, 1, none⟩ = some (.int .i64 b)) ∧ (w'.cell? ⟨W.heap.size + 1, 0, none⟩ = some (.int .i64 c) ∧ w'.cell? ⟨W.heap.size + 1, 1, none⟩ = some (.int .i64 d))) (go_keep) (first | (go_at_call 13; refine (specAdd_any a b c d _).mono ?_; rintro e w3 ⟨rfl, hb⟩; have HB3 := Lib.hid (below_up (w0 := W0) (by repeat (first | with_reducible exact HB2.out | with_reducible exact HB1.out | exact Below.refl _ _ | refine below_allocW ?_ _ | refine Below.drew ?_)) hb (Nat.le_refl _)); have p0 := (HP.out.below HB3.out).c0; have p1 := (HP.out.below HB3.out).c1; have q0 := (HQ.out.below HB3.out).c0; have q1 := (HQ.out.below HB3.out).c1; have n0 := World.new_ne _ _ p0; have n1 := World.new_ne _ _ q0; have hzb := hb.size; (try simp at hzb); (try (have G0 := Lib.hid (G0.out.below hb); have zG00 := G0.out.c0; have zG01 := G0.out.c1; have zG02 := G0.out.f0; have zG03 := G0.out.f1)); (try (have G1 := Lib.hid (G1.out.below hb); have zG10 := G1.out.c0; have zG11 := G1.out.c1; have zG12 := G1.out.f0; have zG13 := G1.out.f1)); (try (have G2 := Lib.hid ((pair_new w2 0 0 25).below hb); have zG20 := G2.out.c0; have zG21 := G2.out.c1; have zG22 := G2.out.f0; have zG23 := G2.out.f1));  clear hb) | (go_at_call_of 21 (Value.agg #[.int .i64 a, .int .i64 b]); refine (toRat_any a b _).mono ?_; rintro e w1 ⟨rfl, hb⟩; have HB1 := Lib.hid (below_up (w0 := W0) (by repeat (first | exact Below.refl _ _ | refine below_allocW ?_ _ | refine Below.drew ?_)) hb (Nat.le_refl _)); have p0 := (HP.out.below HB1.out).c0; have p1 := (HP.out.below HB1.out).c1; have q0 := (HQ.out.below HB1.out).c0; have q1 := (HQ.out.below HB1.out).c1; have n0 := World.new_ne _ _ p0; have n1 := World.new_ne _ _ q0; have hzb := hb.size; (try simp at hzb); (try (have G0 := Lib.hid ((pair_new W0 0 0 25).drew.below hb); have zG00 := G0.out.c0; have zG01 := G0.out.c1; have zG02 := G0.out.f0; have zG03 := G0.out.f1));  clear hb) | (go_at_call_of 21 (Value.agg #[.int .i64 c, .int .i64 d]); refine (toRat_any c d _).mono ?_; rintro e w2 ⟨rfl, hb⟩; have HB2 := Lib.hid (below_up (w0 := W0) (by repeat (first | with_reducible exact HB1.out | exact Below.refl _ _ | refine below_allocW ?_ _ | refine Below.drew ?_)) hb (Nat.le_refl _)); have p0 := (HP.out.below HB2.out).c0; have p1 := (HP.out.below HB2.out).c1; have q0 := (HQ.out.below HB2.out).c0; have q1 := (HQ.out.below HB2.out).c1; have n0 := World.new_ne _ _ p0; have n1 := World.new_ne _ _ q0; have hzb := hb.size; (try simp at hzb); (try (have G0 := Lib.hid (G0.out.below hb); have zG00 := G0.out.c0; have zG01 := G0.out.c1; have zG02 := G0.out.f0; have zG03 := G0.out.f1)); (try (have G1 := Lib.hid ((pair_new w1 0 0 25).below hb); have zG10 := G1.out.c0; have zG11 := G1.out.c1; have zG12 := G1.out.f0; have zG13 := G1.out.f1));  clear hb))
    all_goals go_wp2_with fail
    all_goals go_meet
    all_goals exact ⟨_, rfl, rfl, (by first | with_reducible exact pair_new _ _ _ _ | with_reducible exact pair_put G0.out _ _ | with_reducible exact pair_put G1.out _ _ | with_reducible exact pair_put G2.out _ _), (by repeat (first | with_reducible exact HB3.out | refine below_allocW ?_ _ | refine Below.setCell ?_ (by first | exact Nat.le_refl _ | exact HB1.out.size | exact HB2.out.size) _))⟩
  case rest =>
    obtain ⟨g, rfl, rfl, hpg, hbg⟩ := hcut
    obtain ⟨V, hV⟩ : ∃ V, V = wc := ⟨_, rfl⟩
    subst hV
    have HG := Lib.hid hpg
    have HV := Lib.hid hbg
    have HP2 := Lib.hid (HP.out.below hbg)
    have HQ2 := Lib.hid (HQ.out.below hbg)
    clear hpg hbg p0 p1 q0 q1 n0 n1
    have p0 := HP2.out.c0
    have p1 := HP2.out.c1
    have q0 := HQ2.out.c0
    have q1 := HQ2.out.c1
    have n0 := World.new_ne _ _ p0
    have n1 := World.new_ne _ _ q0
    go_wp2_with fail
    go_cut [7, 8] (CutAt V (addN a b c d) (addD a b c d) (addOk a b c d))
    case first =>
      go_region_held3 (fun w' => (w'.cell? ⟨W.heap.size, 0, none⟩ = some (.int .i64 a) ∧ w'.cell? ⟨W.heap.size, 1, none⟩ = some (.int .i64 b)) ∧ (w'.cell? ⟨W.heap.size + 1, 0, none⟩ = some (.int .i64 c) ∧ w'.cell? ⟨W.heap.size + 1, 1, none⟩ = some (.int .i64 d))) (go_keep) (first | (go_at_call 12; refine (addRat_any a b c d _ HA.out HBB.out HC.out HD.out).mono ?_; rintro e w3 ⟨rfl, hb⟩; have HB3 := Lib.hid (below_up (w0 := V) (by repeat (first | with_reducible exact HB2.out | with_reducible exact HB1.out | exact Below.refl _ _ | refine below_allocW ?_ _ | refine Below.drew ?_)) hb (Nat.le_refl _)); have p0 := (HP2.out.below HB3.out).c0; have p1 := (HP2.out.below HB3.out).c1; have q0 := (HQ2.out.below HB3.out).c0; have q1 := (HQ2.out.below HB3.out).c1; have n0 := World.new_ne _ _ p0; have n1 := World.new_ne _ _ q0; have hzb := hb.size; (try simp at hzb); (try (have G0 := Lib.hid (G0.out.below hb); have zG00 := G0.out.c0; have zG01 := G0.out.c1; have zG02 := G0.out.f0; have zG03 := G0.out.f1)); (try (have G1 := Lib.hid (G1.out.below hb); have zG10 := G1.out.c0; have zG11 := G1.out.c1; have zG12 := G1.out.f0; have zG13 := G1.out.f1)); (try (have G2 := Lib.hid ((pair_new w2 0 0 25).below hb); have zG20 := G2.out.c0; have zG21 := G2.out.c1; have zG22 := G2.out.f0; have zG23 := G2.out.f1));  clear hb) | (go_at_call_of 21 (Value.agg #[.int .i64 a, .int .i64 b]); refine (toRat_any a b _).mono ?_; rintro e w1 ⟨rfl, hb⟩; have HB1 := Lib.hid (below_up (w0 := V) (by repeat (first | exact Below.refl _ _ | refine below_allocW ?_ _ | refine Below.drew ?_)) hb (Nat.le_refl _)); have p0 := (HP2.out.below HB1.out).c0; have p1 := (HP2.out.below HB1.out).c1; have q0 := (HQ2.out.below HB1.out).c0; have q1 := (HQ2.out.below HB1.out).c1; have n0 := World.new_ne _ _ p0; have n1 := World.new_ne _ _ q0; have hzb := hb.size; (try simp at hzb); (try (have G0 := Lib.hid ((pair_new V 0 0 25).drew.below hb); have zG00 := G0.out.c0; have zG01 := G0.out.c1; have zG02 := G0.out.f0; have zG03 := G0.out.f1));  clear hb) | (go_at_call_of 21 (Value.agg #[.int .i64 c, .int .i64 d]); refine (toRat_any c d _).mono ?_; rintro e w2 ⟨rfl, hb⟩; have HB2 := Lib.hid (below_up (w0 := V) (by repeat (first | with_reducible exact HB1.out | exact Below.refl _ _ | refine below_allocW ?_ _ | refine Below.drew ?_)) hb (Nat.le_refl _)); have p0 := (HP2.out.below HB2.out).c0; have p1 := (HP2.out.below HB2.out).c1; have q0 := (HQ2.out.below HB2.out).c0; have q1 := (HQ2.out.below HB2.out).c1; have n0 := World.new_ne _ _ p0; have n1 := World.new_ne _ _ q0; have hzb := hb.size; (try simp at hzb); (try (have G0 := Lib.hid (G0.out.below hb); have zG00 := G0.out.c0; have zG01 := G0.out.c1; have zG02 := G0.out.f0; have zG03 := G0.out.f1)); (try (have G1 := Lib.hid ((pair_new w1 0 0 25).below hb); have zG10 := G1.out.c0; have zG11 := G1.out.c1; have zG12 := G1.out.f0; have zG13 := G1.out.f1));  clear hb))
      all_goals go_wp2_with fail
      all_goals go_meet
      all_goals exact ⟨_, rfl, rfl, (by first | with_reducible exact pair_new _ _ _ _ | with_reducible exact pair_put G0.out _ _ | with_reducible exact pair_put G1.out _ _ | with_reducible exact pair_put G2.out _ _), (by repeat (first | with_reducible exact HB3.out | refine below_allocW ?_ _ | refine Below.setCell ?_ (by first | exact Nat.le_refl _ | exact HB1.out.size | exact HB2.out.size) _))⟩
    case rest =>
      obtain ⟨k, rfl, rfl, hpk, hbk⟩ := hcut
      have HG2 := Lib.hid (HG.out.below hbk)
      have HB9 := Lib.hid (HW.out.trans ((HV.out.trans (hbk.mono HV.out.size)).mono HW.out.size))
      have r0 := HG2.out.c0
      have r1 := HG2.out.c1
      have s0 := hpk.c0
      have s1 := hpk.c1
      clear hpk hbk p0 p1 q0 q1 n0 n1
      go_wp2_with fail
      go_at_call 23
      refine (eqRat_yes _ _ _).mono ?_
      rintro e w9 ⟨rfl, hb9⟩
      have HB10 := Lib.hid (below_up HB9.out hb9 (Nat.le_refl _))
      clear hb9
      go_wp2_with fail
      go_ret
      exact ⟨rfl, HB10.out⟩
set_option maxHeartbeats 4000000 in
theorem lawTimesRatios_walk (a b c d : Int) (W : World) (qa : (Lit.int .i64 a).wf = true) (qb : (Lit.int .i64 b).wf = true) (qc : (Lit.int .i64 c).wf = true) (qd : (Lit.int .i64 d).wf = true) : Calls Try.prog 7 #[.agg #[.int .i64 a, .int .i64 b], .agg #[.int .i64 c, .int .i64 d]] W (LawTrue W) := by
  have HA := Lib.hid (isI64_of qa)
  have HBB := Lib.hid (isI64_of qb)
  have HC := Lib.hid (isI64_of qc)
  have HD := Lib.hid (isI64_of qd)
  clear qa qb qc qd
  go_enter Try.func7, Try.ntmps7
  go_wp2_with fail
  obtain ⟨W0, hW0⟩ : ∃ W0, W0 = (W.alloc (.cells #[.int .i64 a, .int .i64 b] 35)).alloc (.cells #[.int .i64 c, .int .i64 d] 35) := ⟨_, rfl⟩
  have HP := Lib.hid (show PairAt W0 W.heap.size a b by rw [hW0]; exact (pair_new W a b _).alloc _)
  have HQ := Lib.hid (show PairAt W0 (W.heap.size + 1) c d by rw [hW0]; have := pair_new (W.alloc (.cells #[.int .i64 a, .int .i64 b] 35)) c d 35; simpa using this)
  have HW := Lib.hid (show Below W.heap.size W W0 by rw [hW0]; exact below_allocW (below_allocW (Below.refl _ _) _) _)
  rw [← hW0]
  have hz0 : W.heap.size + 1 < W0.heap.size := by rw [hW0]; simp
  clear hW0
  have p0 := HP.out.c0
  have p1 := HP.out.c1
  have q0 := HQ.out.c0
  have q1 := HQ.out.c1
  have n0 := World.new_ne _ _ p0
  have n1 := World.new_ne _ _ q0
  go_cut [5, 6] (CutAt W0 (mulN a b c d) (mulD a b c d) (mulOk a b c d))
  case first =>
    go_region_held3 (fun w' => (w'.cell? ⟨W.heap.size, 0, none⟩ = some (.int .i64 a) ∧ w'.cell? ⟨W.heap.size, 1, none⟩ = some (.int .i64 b)) ∧ (w'.cell? ⟨W.heap.size + 1, 0, none⟩ = some (.int .i64 c) ∧ w'.cell? ⟨W.heap.size + 1, 1, none⟩ = some (.int .i64 d))) (go_keep) (first | (go_at_call 24; refine (specMul_any a b c d _).mono ?_; rintro e w3 ⟨rfl, hb⟩; have HB3 := Lib.hid (below_up (w0 := W0) (by repeat (first | with_reducible exact HB2.out | with_reducible exact HB1.out | exact Below.refl _ _ | refine below_allocW ?_ _ | refine Below.drew ?_)) hb (Nat.le_refl _)); have p0 := (HP.out.below HB3.out).c0; have p1 := (HP.out.below HB3.out).c1; have q0 := (HQ.out.below HB3.out).c0; have q1 := (HQ.out.below HB3.out).c1; have n0 := World.new_ne _ _ p0; have n1 := World.new_ne _ _ q0; have hzb := hb.size; (try simp at hzb); (try (have G0 := Lib.hid (G0.out.below hb); have zG00 := G0.out.c0; have zG01 := G0.out.c1; have zG02 := G0.out.f0; have zG03 := G0.out.f1)); (try (have G1 := Lib.hid (G1.out.below hb); have zG10 := G1.out.c0; have zG11 := G1.out.c1; have zG12 := G1.out.f0; have zG13 := G1.out.f1)); (try (have G2 := Lib.hid ((pair_new w2 0 0 25).below hb); have zG20 := G2.out.c0; have zG21 := G2.out.c1; have zG22 := G2.out.f0; have zG23 := G2.out.f1));  clear hb) | (go_at_call_of 21 (Value.agg #[.int .i64 a, .int .i64 b]); refine (toRat_any a b _).mono ?_; rintro e w1 ⟨rfl, hb⟩; have HB1 := Lib.hid (below_up (w0 := W0) (by repeat (first | exact Below.refl _ _ | refine below_allocW ?_ _ | refine Below.drew ?_)) hb (Nat.le_refl _)); have p0 := (HP.out.below HB1.out).c0; have p1 := (HP.out.below HB1.out).c1; have q0 := (HQ.out.below HB1.out).c0; have q1 := (HQ.out.below HB1.out).c1; have n0 := World.new_ne _ _ p0; have n1 := World.new_ne _ _ q0; have hzb := hb.size; (try simp at hzb); (try (have G0 := Lib.hid ((pair_new W0 0 0 25).drew.below hb); have zG00 := G0.out.c0; have zG01 := G0.out.c1; have zG02 := G0.out.f0; have zG03 := G0.out.f1));  clear hb) | (go_at_call_of 21 (Value.agg #[.int .i64 c, .int .i64 d]); refine (toRat_any c d _).mono ?_; rintro e w2 ⟨rfl, hb⟩; have HB2 := Lib.hid (below_up (w0 := W0) (by repeat (first | with_reducible exact HB1.out | exact Below.refl _ _ | refine below_allocW ?_ _ | refine Below.drew ?_)) hb (Nat.le_refl _)); have p0 := (HP.out.below HB2.out).c0; have p1 := (HP.out.below HB2.out).c1; have q0 := (HQ.out.below HB2.out).c0; have q1 := (HQ.out.below HB2.out).c1; have n0 := World.new_ne _ _ p0; have n1 := World.new_ne _ _ q0; have hzb := hb.size; (try simp at hzb); (try (have G0 := Lib.hid (G0.out.below hb); have zG00 := G0.out.c0; have zG01 := G0.out.c1; have zG02 := G0.out.f0; have zG03 := G0.out.f1)); (try (have G1 := Lib.hid ((pair_new w1 0 0 25).below hb); have zG10 := G1.out.c0; have zG11 := G1.out.c1; have zG12 := G1.out.f0; have zG13 := G1.out.f1));  clear hb))
    all_goals go_wp2_with fail
    all_goals go_meet
    all_goals exact ⟨_, rfl, rfl, (by first | with_reducible exact pair_new _ _ _ _ | with_reducible exact pair_put G0.out _ _ | with_reducible exact pair_put G1.out _ _ | with_reducible exact pair_put G2.out _ _), (by repeat (first | with_reducible exact HB3.out | refine below_allocW ?_ _ | refine Below.setCell ?_ (by first | exact Nat.le_refl _ | exact HB1.out.size | exact HB2.out.size) _))⟩
  case rest =>
    obtain ⟨g, rfl, rfl, hpg, hbg⟩ := hcut
    obtain ⟨V, hV⟩ : ∃ V, V = wc := ⟨_, rfl⟩
    subst hV
    have HG := Lib.hid hpg
    have HV := Lib.hid hbg
    have HP2 := Lib.hid (HP.out.below hbg)
    have HQ2 := Lib.hid (HQ.out.below hbg)
    clear hpg hbg p0 p1 q0 q1 n0 n1
    have p0 := HP2.out.c0
    have p1 := HP2.out.c1
    have q0 := HQ2.out.c0
    have q1 := HQ2.out.c1
    have n0 := World.new_ne _ _ p0
    have n1 := World.new_ne _ _ q0
    go_wp2_with fail
    go_cut [7, 8] (CutAt V (mulN a b c d) (mulD a b c d) (mulOk a b c d))
    case first =>
      go_region_held3 (fun w' => (w'.cell? ⟨W.heap.size, 0, none⟩ = some (.int .i64 a) ∧ w'.cell? ⟨W.heap.size, 1, none⟩ = some (.int .i64 b)) ∧ (w'.cell? ⟨W.heap.size + 1, 0, none⟩ = some (.int .i64 c) ∧ w'.cell? ⟨W.heap.size + 1, 1, none⟩ = some (.int .i64 d))) (go_keep) (first | (go_at_call 14; refine (mulRat_any a b c d _ HA.out HBB.out HC.out HD.out).mono ?_; rintro e w3 ⟨rfl, hb⟩; have HB3 := Lib.hid (below_up (w0 := V) (by repeat (first | with_reducible exact HB2.out | with_reducible exact HB1.out | exact Below.refl _ _ | refine below_allocW ?_ _ | refine Below.drew ?_)) hb (Nat.le_refl _)); have p0 := (HP2.out.below HB3.out).c0; have p1 := (HP2.out.below HB3.out).c1; have q0 := (HQ2.out.below HB3.out).c0; have q1 := (HQ2.out.below HB3.out).c1; have n0 := World.new_ne _ _ p0; have n1 := World.new_ne _ _ q0; have hzb := hb.size; (try simp at hzb); (try (have G0 := Lib.hid (G0.out.below hb); have zG00 := G0.out.c0; have zG01 := G0.out.c1; have zG02 := G0.out.f0; have zG03 := G0.out.f1)); (try (have G1 := Lib.hid (G1.out.below hb); have zG10 := G1.out.c0; have zG11 := G1.out.c1; have zG12 := G1.out.f0; have zG13 := G1.out.f1)); (try (have G2 := Lib.hid ((pair_new w2 0 0 25).below hb); have zG20 := G2.out.c0; have zG21 := G2.out.c1; have zG22 := G2.out.f0; have zG23 := G2.out.f1));  clear hb) | (go_at_call_of 21 (Value.agg #[.int .i64 a, .int .i64 b]); refine (toRat_any a b _).mono ?_; rintro e w1 ⟨rfl, hb⟩; have HB1 := Lib.hid (below_up (w0 := V) (by repeat (first | exact Below.refl _ _ | refine below_allocW ?_ _ | refine Below.drew ?_)) hb (Nat.le_refl _)); have p0 := (HP2.out.below HB1.out).c0; have p1 := (HP2.out.below HB1.out).c1; have q0 := (HQ2.out.below HB1.out).c0; have q1 := (HQ2.out.below HB1.out).c1; have n0 := World.new_ne _ _ p0; have n1 := World.new_ne _ _ q0; have hzb := hb.size; (try simp at hzb); (try (have G0 := Lib.hid ((pair_new V 0 0 25).drew.below hb); have zG00 := G0.out.c0; have zG01 := G0.out.c1; have zG02 := G0.out.f0; have zG03 := G0.out.f1));  clear hb) | (go_at_call_of 21 (Value.agg #[.int .i64 c, .int .i64 d]); refine (toRat_any c d _).mono ?_; rintro e w2 ⟨rfl, hb⟩; have HB2 := Lib.hid (below_up (w0 := V) (by repeat (first | with_reducible exact HB1.out | exact Below.refl _ _ | refine below_allocW ?_ _ | refine Below.drew ?_)) hb (Nat.le_refl _)); have p0 := (HP2.out.below HB2.out).c0; have p1 := (HP2.out.below HB2.out).c1; have q0 := (HQ2.out.below HB2.out).c0; have q1 := (HQ2.out.below HB2.out).c1; have n0 := World.new_ne _ _ p0; have n1 := World.new_ne _ _ q0; have hzb := hb.size; (try simp at hzb); (try (have G0 := Lib.hid (G0.out.below hb); have zG00 := G0.out.c0; have zG01 := G0.out.c1; have zG02 := G0.out.f0; have zG03 := G0.out.f1)); (try (have G1 := Lib.hid ((pair_new w1 0 0 25).below hb); have zG10 := G1.out.c0; have zG11 := G1.out.c1; have zG12 := G1.out.f0; have zG13 := G1.out.f1));  clear hb))
      all_goals go_wp2_with fail
      all_goals go_meet
      all_goals exact ⟨_, rfl, rfl, (by first | with_reducible exact pair_new _ _ _ _ | with_reducible exact pair_put G0.out _ _ | with_reducible exact pair_put G1.out _ _ | with_reducible exact pair_put G2.out _ _), (by repeat (first | with_reducible exact HB3.out | refine below_allocW ?_ _ | refine Below.setCell ?_ (by first | exact Nat.le_refl _ | exact HB1.out.size | exact HB2.out.size) _))⟩
    case rest =>
      obtain ⟨k, rfl, rfl, hpk, hbk⟩ := hcut
      have HG2 := Lib.hid (HG.out.below hbk)
      have HB9 := Lib.hid (HW.out.trans ((HV.out.trans (hbk.mono HV.out.size)).mono HW.out.size))
      have r0 := HG2.out.c0
      have r1 := HG2.out.c1
      have s0 := hpk.c0
      have s1 := hpk.c1
      clear hpk hbk p0 p1 q0 q1 n0 n1
      go_wp2_with fail
      go_at_call 23
      refine (eqRat_yes _ _ _).mono ?_
      rintro e w9 ⟨rfl, hb9⟩
      have HB10 := Lib.hid (below_up HB9.out hb9 (Nat.le_refl _))
      clear hb9
      go_wp2_with fail
      go_ret
      exact ⟨rfl, HB10.out⟩
end Go.Proofs.Ytecmfipedpfoaaa
