/- The walks of the laws on IsInterval, MeetIntervals, OffsetOf, OneWay and WidthOf. -/
import Derived.Test.YtiehnhocmoodaaaIvP
namespace Go.Proofs.Ytiehnhocmoodaaa
open Go.RowKit
theorem isI64_of {n : Int} (h : (Lit.int .i64 n).wf = true) : IsI64 n := bounds_i64 h
def LawTrue (W : World) (e : Ending) (w' : World) : Prop := e = .returned (.bool true) ∧ Below W.heap.size W w'
theorem below_allocW {W w' : World} (h : Below W.heap.size W w') (o : Obj) : Below W.heap.size W (w'.alloc o) := h.alloc h.size o
/-- What a reckoned interval is kept in. -/
def CutAt (W0 : World) (N D : Int) (K : Bool) (s5 s6 : Value) (wx : World) : Prop := ∃ g : Nat, s5 = .pointer (some ⟨g, 0, none⟩) ∧ s6 = .bool K ∧ PairAt wx g N D ∧ Below W0.heap.size W0 wx
set_option maxHeartbeats 800000 in
theorem lawIsInterval_walk (x y : Int) (W : World) (qx : (Lit.int .i64 x).wf = true) (qy : (Lit.int .i64 y).wf = true) : Calls Try.prog 4 #[.agg #[.int .i64 x, .int .i64 y]] W (LawTrue W) := by
  have hx := isI64_of qx
  have hy := isI64_of qy
  have HX := Lib.hid hx
  have HY := Lib.hid hy
  clear qx qy hx hy
  go_enter Try.func4, Try.ntmps4
  go_wp2_with fail
  go_at_call 19
  refine (toIv_any x y _).mono ?_
  rintro e w1 ⟨rfl, hb1⟩
  have HP1 := Lib.hid ((pair_new W x y 35).below hb1)
  have HB1 := Lib.hid (below_up (below_allocW (Below.refl W.heap.size W) _) hb1 (Nat.le_refl _))
  clear hb1
  go_wp2_with fail
  go_at_call 18
  refine (specIv_any x y _).mono ?_
  rintro e w2 ⟨rfl, hb2⟩
  have HP2 := Lib.hid (HP1.out.below hb2)
  have HB2 := Lib.hid (below_up HB1.out hb2 (Nat.le_refl _))
  have p0 := HP2.out.c0
  have p1 := HP2.out.c1
  clear hb2
  go_wp2_with fail
  go_at_call 19
  refine (toIv_any x y _).mono ?_
  rintro e w3 ⟨rfl, hb3⟩
  have HB3 := Lib.hid (below_up HB2.out hb3 (Nat.le_refl _))
  clear hb3
  go_wp2_with fail
  go_at_call 17
  refine (ivP_any x y _ HX.out HY.out).mono ?_
  rintro e w4 ⟨rfl, hb4⟩
  have HB4 := Lib.hid (below_up HB3.out hb4 (Nat.le_refl _))
  clear hb4
  go_wp2_with fail
  go_ret
  exact ⟨rfl, HB4.out⟩
set_option maxHeartbeats 800000 in
theorem lawWidthOf_walk (x y : Int) (W : World) (qx : (Lit.int .i64 x).wf = true) (qy : (Lit.int .i64 y).wf = true) : Calls Try.prog 9 #[.agg #[.int .i64 x, .int .i64 y]] W (LawTrue W) := by
  have hx := isI64_of qx
  have hy := isI64_of qy
  have HX := Lib.hid hx
  have HY := Lib.hid hy
  clear qx qy hx hy
  go_enter Try.func9, Try.ntmps9
  go_wp2_with fail
  go_at_call 19
  refine (toIv_any x y _).mono ?_
  rintro e w1 ⟨rfl, hb1⟩
  have HP1 := Lib.hid ((pair_new W x y 35).below hb1)
  have HB1 := Lib.hid (below_up (below_allocW (Below.refl W.heap.size W) _) hb1 (Nat.le_refl _))
  clear hb1
  go_wp2_with fail
  go_at_call 29
  refine (specWid_any x y _).mono ?_
  rintro e w2 ⟨rfl, hb2⟩
  have HP2 := Lib.hid (HP1.out.below hb2)
  have HB2 := Lib.hid (below_up HB1.out hb2 (Nat.le_refl _))
  have p0 := HP2.out.c0
  have p1 := HP2.out.c1
  clear hb2
  go_wp2_with fail
  go_at_call 19
  refine (toIv_any x y _).mono ?_
  rintro e w3 ⟨rfl, hb3⟩
  have HB3 := Lib.hid (below_up HB2.out hb3 (Nat.le_refl _))
  clear hb3
  go_wp2_with fail
  go_at_call 13
  refine (widP_any x y _ HX.out HY.out).mono ?_
  rintro e w4 ⟨rfl, hb4⟩
  have HB4 := Lib.hid (below_up HB3.out hb4 (Nat.le_refl _))
  clear hb4
  go_wp2_with fail
  go_ret
  exact ⟨rfl, HB4.out⟩
set_option maxHeartbeats 800000 in
theorem lawOffsetOf_walk (s r b h : Int) (W : World) (q0 : (Lit.int .i64 s).wf = true) (q1 : (Lit.int .i64 r).wf = true) (q2 : (Lit.int .i64 b).wf = true) (q3 : (Lit.int .i64 h).wf = true) : Calls Try.prog 7 #[.int .i64 s, .int .i64 r, .int .i64 b, .int .i64 h] W (LawTrue W) := by
  have H0 := Lib.hid (isI64_of q0)
  have H1 := Lib.hid (isI64_of q1)
  have H2 := Lib.hid (isI64_of q2)
  have H3 := Lib.hid (isI64_of q3)
  clear q0 q1 q2 q3
  go_enter Try.func7, Try.ntmps7
  go_wp2_with fail
  go_at_call 27
  refine (specOff_any s r b h _).mono ?_
  rintro e w1 ⟨rfl, hb1⟩
  have HB1 := Lib.hid hb1
  clear hb1
  go_wp2_with fail
  go_at_call 12
  refine (offP_any s r b h _ H0.out H1.out H2.out H3.out).mono ?_
  rintro e w2 ⟨rfl, hb2⟩
  have HQ2 := Lib.hid ((pair_new w1 (offLo s r b h) (offHi s r b h) 26).below hb2)
  have HB2 := Lib.hid (below_up (below_allocW HB1.out _) hb2 (Nat.le_refl _))
  have hq := (HQ2.out.alloc (.cells #[.int .i64 (offLo s r b h), .int .i64 (offHi s r b h)] 26))
  have q0 := hq.c0
  have q1 := hq.c1
  clear hb2 hq
  go_wp2_with fail
  go_at_call 22
  refine (eqIv_yes _ _ _).mono ?_
  rintro e w5 ⟨rfl, hb5⟩
  have HB5 := Lib.hid (below_up (below_allocW HB2.out _) hb5 (Nat.le_refl _))
  clear hb5
  go_wp2_with fail
  go_ret
  exact ⟨rfl, HB5.out⟩
set_option maxHeartbeats 4000000 in
theorem lawMeetIntervals_walk (a b c d : Int) (W : World) (qa : (Lit.int .i64 a).wf = true) (qb : (Lit.int .i64 b).wf = true) (qc : (Lit.int .i64 c).wf = true) (qd : (Lit.int .i64 d).wf = true) : Calls Try.prog 5 #[.agg #[.int .i64 a, .int .i64 b], .agg #[.int .i64 c, .int .i64 d]] W (LawTrue W) := by
  have HA := Lib.hid (isI64_of qa)
  have HBB := Lib.hid (isI64_of qb)
  have HC := Lib.hid (isI64_of qc)
  have HD := Lib.hid (isI64_of qd)
  clear qa qb qc qd
  go_enter Try.func5, Try.ntmps5
  go_wp2_with fail
  obtain ⟨W0, hW0⟩ : ∃ W0, W0 = (W.alloc (.cells #[.int .i64 a, .int .i64 b] 35)).alloc (.cells #[.int .i64 c, .int .i64 d] 35) := ⟨_, rfl⟩
  have HP := Lib.hid (show PairAt W0 W.heap.size a b by rw [hW0]; exact (pair_new W a b _).alloc _)
  have HQ := Lib.hid (show PairAt W0 (W.heap.size + 1) c d by rw [hW0]; have := pair_new (W.alloc (.cells #[.int .i64 a, .int .i64 b] 35)) c d 35; simpa using this)
  have HW := Lib.hid (show Below W.heap.size W W0 by rw [hW0]; exact below_allocW (below_allocW (Below.refl _ _) _) _)
  rw [← hW0]
  have hz0 : W.heap.size + 1 < W0.heap.size := by rw [hW0]; simp
  clear hW0
  have p0 := HP.out.c0
  have p1 := HP.out.c1
  have q0 := HQ.out.c0
  have q1 := HQ.out.c1
  have n0 := World.new_ne _ _ p0
  have n1 := World.new_ne _ _ q0
  go_cut [5, 6] (CutAt W0 (meetLo a b c d) (meetHi a b c d) (meetOk a b c d))
  case first =>
    go_region_held3 (fun w' => (w'.cell? ⟨W.heap.size, 0, none⟩ = some (.int .i64 a) ∧ w'.cell? ⟨W.heap.size, 1, none⟩ = some (.int .i64 b)) ∧ (w'.cell? ⟨W.heap.size + 1, 0, none⟩ = some (.int .i64 c) ∧ w'.cell? ⟨W.heap.size + 1, 1, none⟩ = some (.int .i64 d))) (go_keep) (first | (go_at_call 20; refine (specMeet_any a b c d _).mono ?_; rintro e w3 ⟨rfl, hb⟩; have HB3 := Lib.hid (below_up (w0 := W0) (by repeat (first | with_reducible exact HB2.out | with_reducible exact HB1.out | exact Below.refl _ _ | refine below_allocW ?_ _ | refine Below.drew ?_)) hb (Nat.le_refl _)); have p0 := (HP.out.below HB3.out).c0; have p1 := (HP.out.below HB3.out).c1; have q0 := (HQ.out.below HB3.out).c0; have q1 := (HQ.out.below HB3.out).c1; have n0 := World.new_ne _ _ p0; have n1 := World.new_ne _ _ q0; have hzb := hb.size; (try simp at hzb); (try (have G0 := Lib.hid (G0.out.below hb); have zG00 := G0.out.c0; have zG01 := G0.out.c1; have zG02 := G0.out.f0; have zG03 := G0.out.f1)); (try (have G1 := Lib.hid (G1.out.below hb); have zG10 := G1.out.c0; have zG11 := G1.out.c1; have zG12 := G1.out.f0; have zG13 := G1.out.f1)); (try (have G2 := Lib.hid ((pair_new w2 0 0 26).below hb); have zG20 := G2.out.c0; have zG21 := G2.out.c1; have zG22 := G2.out.f0; have zG23 := G2.out.f1));  clear hb) | (go_at_call_of 19 (Value.agg #[.int .i64 a, .int .i64 b]); refine (toIv_any a b _).mono ?_; rintro e w1 ⟨rfl, hb⟩; have HB1 := Lib.hid (below_up (w0 := W0) (by repeat (first | exact Below.refl _ _ | refine below_allocW ?_ _ | refine Below.drew ?_)) hb (Nat.le_refl _)); have p0 := (HP.out.below HB1.out).c0; have p1 := (HP.out.below HB1.out).c1; have q0 := (HQ.out.below HB1.out).c0; have q1 := (HQ.out.below HB1.out).c1; have n0 := World.new_ne _ _ p0; have n1 := World.new_ne _ _ q0; have hzb := hb.size; (try simp at hzb); (try (have G0 := Lib.hid ((pair_new W0 0 0 26).drew.below hb); have zG00 := G0.out.c0; have zG01 := G0.out.c1; have zG02 := G0.out.f0; have zG03 := G0.out.f1));  clear hb) | (go_at_call_of 19 (Value.agg #[.int .i64 c, .int .i64 d]); refine (toIv_any c d _).mono ?_; rintro e w2 ⟨rfl, hb⟩; have HB2 := Lib.hid (below_up (w0 := W0) (by repeat (first | with_reducible exact HB1.out | exact Below.refl _ _ | refine below_allocW ?_ _ | refine Below.drew ?_)) hb (Nat.le_refl _)); have p0 := (HP.out.below HB2.out).c0; have p1 := (HP.out.below HB2.out).c1; have q0 := (HQ.out.below HB2.out).c0; have q1 := (HQ.out.below HB2.out).c1; have n0 := World.new_ne _ _ p0; have n1 := World.new_ne _ _ q0; have hzb := hb.size; (try simp at hzb); (try (have G0 := Lib.hid (G0.out.below hb); have zG00 := G0.out.c0; have zG01 := G0.out.c1; have zG02 := G0.out.f0; have zG03 := G0.out.f1)); (try (have G1 := Lib.hid ((pair_new w1 0 0 26).below hb); have zG10 := G1.out.c0; have zG11 := G1.out.c1; have zG12 := G1.out.f0; have zG13 := G1.out.f1));  clear hb))
    all_goals go_wp2_with fail
    all_goals go_meet
    all_goals exact ⟨_, rfl, rfl, (by first | with_reducible exact pair_new _ _ _ _ | with_reducible exact pair_putV G0.out _ _ | with_reducible exact pair_putV G1.out _ _ | with_reducible exact pair_putV G2.out _ _), (by repeat (first | with_reducible exact HB3.out | refine below_allocW ?_ _ | refine Below.setCell ?_ (by first | exact Nat.le_refl _ | exact HB1.out.size | exact HB2.out.size) _))⟩
  case rest =>
    obtain ⟨g, rfl, rfl, hpg, hbg⟩ := hcut
    obtain ⟨V, hV⟩ : ∃ V, V = wc := ⟨_, rfl⟩
    subst hV
    have HG := Lib.hid hpg
    have HV := Lib.hid hbg
    have HP2 := Lib.hid (HP.out.below hbg)
    have HQ2 := Lib.hid (HQ.out.below hbg)
    clear hpg hbg p0 p1 q0 q1 n0 n1
    have p0 := HP2.out.c0
    have p1 := HP2.out.c1
    have q0 := HQ2.out.c0
    have q1 := HQ2.out.c1
    have n0 := World.new_ne _ _ p0
    have n1 := World.new_ne _ _ q0
    go_wp2_with fail
    go_cut [7, 8] (CutAt V (meetLo a b c d) (meetHi a b c d) (meetOk a b c d))
    case first =>
      go_region_held3 (fun w' => (w'.cell? ⟨W.heap.size, 0, none⟩ = some (.int .i64 a) ∧ w'.cell? ⟨W.heap.size, 1, none⟩ = some (.int .i64 b)) ∧ (w'.cell? ⟨W.heap.size + 1, 0, none⟩ = some (.int .i64 c) ∧ w'.cell? ⟨W.heap.size + 1, 1, none⟩ = some (.int .i64 d))) (go_keep) (first | (go_at_call 21; refine (meetP_any a b c d _ HA.out HBB.out HC.out HD.out).mono ?_; rintro e w3 ⟨rfl, hb⟩; have HB3 := Lib.hid (below_up (w0 := V) (by repeat (first | with_reducible exact HB2.out | with_reducible exact HB1.out | exact Below.refl _ _ | refine below_allocW ?_ _ | refine Below.drew ?_)) hb (Nat.le_refl _)); have p0 := (HP2.out.below HB3.out).c0; have p1 := (HP2.out.below HB3.out).c1; have q0 := (HQ2.out.below HB3.out).c0; have q1 := (HQ2.out.below HB3.out).c1; have n0 := World.new_ne _ _ p0; have n1 := World.new_ne _ _ q0; have hzb := hb.size; (try simp at hzb); (try (have G0 := Lib.hid (G0.out.below hb); have zG00 := G0.out.c0; have zG01 := G0.out.c1; have zG02 := G0.out.f0; have zG03 := G0.out.f1)); (try (have G1 := Lib.hid (G1.out.below hb); have zG10 := G1.out.c0; have zG11 := G1.out.c1; have zG12 := G1.out.f0; have zG13 := G1.out.f1)); (try (have G2 := Lib.hid ((pair_new w2 0 0 26).below hb); have zG20 := G2.out.c0; have zG21 := G2.out.c1; have zG22 := G2.out.f0; have zG23 := G2.out.f1));  clear hb) | (go_at_call_of 19 (Value.agg #[.int .i64 a, .int .i64 b]); refine (toIv_any a b _).mono ?_; rintro e w1 ⟨rfl, hb⟩; have HB1 := Lib.hid (below_up (w0 := V) (by repeat (first | exact Below.refl _ _ | refine below_allocW ?_ _ | refine Below.drew ?_)) hb (Nat.le_refl _)); have p0 := (HP2.out.below HB1.out).c0; have p1 := (HP2.out.below HB1.out).c1; have q0 := (HQ2.out.below HB1.out).c0; have q1 := (HQ2.out.below HB1.out).c1; have n0 := World.new_ne _ _ p0; have n1 := World.new_ne _ _ q0; have hzb := hb.size; (try simp at hzb); (try (have G0 := Lib.hid ((pair_new V 0 0 26).drew.below hb); have zG00 := G0.out.c0; have zG01 := G0.out.c1; have zG02 := G0.out.f0; have zG03 := G0.out.f1));  clear hb) | (go_at_call_of 19 (Value.agg #[.int .i64 c, .int .i64 d]); refine (toIv_any c d _).mono ?_; rintro e w2 ⟨rfl, hb⟩; have HB2 := Lib.hid (below_up (w0 := V) (by repeat (first | with_reducible exact HB1.out | exact Below.refl _ _ | refine below_allocW ?_ _ | refine Below.drew ?_)) hb (Nat.le_refl _)); have p0 := (HP2.out.below HB2.out).c0; have p1 := (HP2.out.below HB2.out).c1; have q0 := (HQ2.out.below HB2.out).c0; have q1 := (HQ2.out.below HB2.out).c1; have n0 := World.new_ne _ _ p0; have n1 := World.new_ne _ _ q0; have hzb := hb.size; (try simp at hzb); (try (have G0 := Lib.hid (G0.out.below hb); have zG00 := G0.out.c0; have zG01 := G0.out.c1; have zG02 := G0.out.f0; have zG03 := G0.out.f1)); (try (have G1 := Lib.hid ((pair_new w1 0 0 26).below hb); have zG10 := G1.out.c0; have zG11 := G1.out.c1; have zG12 := G1.out.f0; have zG13 := G1.out.f1));  clear hb))
      all_goals go_wp2_with fail
      all_goals go_meet
      all_goals exact ⟨_, rfl, rfl, (by first | with_reducible exact pair_new _ _ _ _ | with_reducible exact pair_putV G0.out _ _ | with_reducible exact pair_putV G1.out _ _ | with_reducible exact pair_putV G2.out _ _), (by repeat (first | with_reducible exact HB3.out | refine below_allocW ?_ _ | refine Below.setCell ?_ (by first | exact Nat.le_refl _ | exact HB1.out.size | exact HB2.out.size) _))⟩
    case rest =>
      obtain ⟨k, rfl, rfl, hpk, hbk⟩ := hcut
      have HG2 := Lib.hid (HG.out.below hbk)
      have HB9 := Lib.hid (HW.out.trans ((HV.out.trans (hbk.mono HV.out.size)).mono HW.out.size))
      have r0 := HG2.out.c0
      have r1 := HG2.out.c1
      have s0 := hpk.c0
      have s1 := hpk.c1
      clear hpk hbk p0 p1 q0 q1 n0 n1
      go_wp2_with fail
      go_at_call 22
      refine (eqIv_yes _ _ _).mono ?_
      rintro e w9 ⟨rfl, hb9⟩
      have HB10 := Lib.hid (below_up HB9.out hb9 (Nat.le_refl _))
      clear hb9
      go_wp2_with fail
      go_ret
      exact ⟨rfl, HB10.out⟩
set_option maxHeartbeats 1600000 in
theorem lawOneWay_walk (s r x y : Int) (W : World) (q0 : (Lit.int .i64 s).wf = true) (q1 : (Lit.int .i64 r).wf = true) (q2 : (Lit.int .i64 x).wf = true) (q3 : (Lit.int .i64 y).wf = true) : Calls Try.prog 8 #[.int .i64 s, .int .i64 r, .agg #[.int .i64 x, .int .i64 y]] W (LawTrue W) := by
  have H0 := Lib.hid (isI64_of q0)
  have H1 := Lib.hid (isI64_of q1)
  have H2 := Lib.hid (isI64_of q2)
  have H3 := Lib.hid (isI64_of q3)
  clear q0 q1 q2 q3
  obtain ⟨lo, hlo⟩ : ∃ q, oneLo s r x y = q := ⟨_, rfl⟩
  obtain ⟨hi, hhi⟩ : ∃ q, oneHi s r x y = q := ⟨_, rfl⟩
  obtain ⟨t, ht⟩ : ∃ q, oneOk s r x y = q := ⟨_, rfl⟩
  have HLO := Lib.hid hlo
  have HHI := Lib.hid hhi
  have HT := Lib.hid ht
  clear hlo hhi ht
  obtain ⟨V, hV⟩ : ∃ V, V = W.alloc (.cells #[.int .i64 x, .int .i64 y] 35) := ⟨_, rfl⟩
  have HBV : Hid (Below W.heap.size W V) := Lib.hid (by rw [hV]; exact (Below.refl _ _).alloc (Nat.le_refl _) _)
  have HP := Lib.hid (show PairAt V W.heap.size x y by rw [hV]; exact pair_new W x y _)
  have p0 := HP.out.c0
  have p1 := HP.out.c1
  go_enter Try.func8, Try.ntmps8
  go_wp2_with fail
  rw [← hV]
  clear hV
  go_wp2_with fail
  go_at_call 19
  refine (toIv_any x y _).mono ?_
  rintro e w1 ⟨rfl, hb1⟩
  have HB1 := Lib.hid (below_up HBV.out hb1 (Nat.le_refl _))
  have HP1 := Lib.hid (HP.out.below hb1)
  clear hb1 p0 p1
  go_wp2_with fail
  go_at_call 28
  refine (specOne_any s r x y _).mono ?_
  rw [HLO.out, HHI.out, HT.out]
  rintro e w2 ⟨rfl, hb2⟩
  have HB2 := Lib.hid (below_up HB1.out hb2 (Nat.le_refl _))
  have HP2 := Lib.hid (HP1.out.below hb2)
  clear hb2
  obtain ⟨V2, hV2⟩ : ∃ V, V = w2.alloc (.cells #[.int .i64 lo, .int .i64 hi] 26) := ⟨_, rfl⟩
  have HB3 := Lib.hid (show Below W.heap.size W V2 by rw [hV2]; exact HB2.out.alloc HB2.out.size _)
  have HP3 := Lib.hid (show PairAt V2 W.heap.size x y by rw [hV2]; exact HP2.out.alloc _)
  have HX3 := Lib.hid (show PairAt V2 w2.heap.size lo hi by rw [hV2]; exact pair_new _ _ _ _)
  have u0 := HP3.out.c0
  have u1 := HP3.out.c1
  rw [hV2] at u0 u1
  go_wp2_with fail
  rw [← hV2]
  clear hV2 u0 u1
  go_at_call 19
  refine (toIv_any x y _).mono ?_
  rintro e w4 ⟨rfl, hb4⟩
  have HB4 := Lib.hid (below_up HB3.out hb4 (Nat.le_refl _))
  have HX4 := Lib.hid (HX3.out.below hb4)
  clear hb4
  go_wp2_with fail
  go_at_call 14
  refine (oneP_any s r x y _ H0.out H1.out H2.out H3.out).mono ?_
  rw [HLO.out, HHI.out, HT.out]
  rintro e w5 ⟨rfl, hb5⟩
  have HB5 := Lib.hid (below_up HB4.out hb5 (Nat.le_refl _))
  have HX5 := Lib.hid (HX4.out.below hb5)
  clear hb5
  have hx := HX5.out.alloc (.cells #[.int .i64 lo, .int .i64 hi] 26)
  have x0 := hx.c0
  have x1 := hx.c1
  clear hx
  go_wp2_with fail
  go_at_call 22
  refine (eqIv_yes _ _ _).mono ?_
  rintro e w6 ⟨rfl, hb6⟩
  have HB6 := Lib.hid (below_up (HB5.out.alloc HB5.out.size _) hb6 (Nat.le_refl _))
  clear hb6
  go_wp2_with fail
  go_ret
  exact ⟨rfl, HB6.out⟩
end Go.Proofs.Ytiehnhocmoodaaa
