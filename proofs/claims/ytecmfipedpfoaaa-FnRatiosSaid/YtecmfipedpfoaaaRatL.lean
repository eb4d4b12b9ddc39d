/- The walk of the law on fractions. -/
import Derived.Test.YtecmfipedpfoaaaRatG
import Derived.Test.YtecmfipedpfoaaaDraw4b
import Derived.Test.YtecmfipedpfoaaaBig
import Derived.Test.YtecmfipedpfoaaaTake
namespace Go.Proofs.Ytecmfipedpfoaaa
open Go.RowKit
theorem add_i64 (a b c d : Int) : IsI64 (addN a b c d) ∧ IsI64 (addD a b c d) := by
  by_cases h : AddOk a b c d
  · have v := add_valid h
    exact ⟨⟨by have := v.1; omega, by have := v.2.1; omega⟩, ⟨by have := v.2.2.1; omega, by have := v.2.2.2.1; omega⟩⟩
  · unfold addN addD
    rw [if_neg h, if_neg h]
    exact ⟨⟨by decide, by decide⟩, ⟨by decide, by decide⟩⟩
theorem isRat_yes (n d : Int) (w : World) (hn : IsI64 n) (hd : IsI64 d) (hv : IsR n d) : Calls Try.prog 15 #[.agg #[.int .i64 n, .int .i64 d]] w fun e w' => e = .returned (.bool true) ∧ Below w.heap.size w w' :=
  (isRat_any n d w hn hd).mono fun _ _ ⟨he, hb⟩ => ⟨by rw [he, isR_true.2 hv], hb⟩
theorem addOk_comm' (a b c d : Int) : addOk a b c d = addOk c d a b := by unfold addOk; rw [decide_eq_decide]; exact addOk_comm
theorem mulOk_comm' (a b c d : Int) : mulOk a b c d = mulOk c d a b := by unfold mulOk; rw [decide_eq_decide]; exact mulOk_comm
theorem addV_any (a b c d x y : Int) (k : Bool) (w : World) (ha : IsI64 a) (hb : IsI64 b) (hc : IsI64 c) (hd : IsI64 d) (hx : x = addN a b c d) (hy : y = addD a b c d) (hk : k = addOk a b c d) :
    Calls Try.prog 12 #[.agg #[.int .i64 a, .int .i64 b], .agg #[.int .i64 c, .int .i64 d]] w (RatRes x y k w) := by
  subst hx hy hk
  exact addRat_any a b c d w ha hb hc hd
theorem specAddV_any (a b c d x y : Int) (k : Bool) (w : World) (hx : x = addN a b c d) (hy : y = addD a b c d) (hk : k = addOk a b c d) :
    Calls Try.prog 13 #[.agg #[.int .i64 a, .int .i64 b], .agg #[.int .i64 c, .int .i64 d]] w (RatRes x y k w) := by
  subst hx hy hk
  exact specAdd_any a b c d w
theorem mulV_any (a b c d x y : Int) (k : Bool) (w : World) (ha : IsI64 a) (hb : IsI64 b) (hc : IsI64 c) (hd : IsI64 d) (hx : x = mulN a b c d) (hy : y = mulD a b c d) (hk : k = mulOk a b c d) :
    Calls Try.prog 14 #[.agg #[.int .i64 a, .int .i64 b], .agg #[.int .i64 c, .int .i64 d]] w (RatRes x y k w) := by
  subst hx hy hk
  exact mulRat_any a b c d w ha hb hc hd
theorem fine_of {a b c d : Int} (h : addOk a b (negN c d) (negD c d) = true) : IsR a b ∧ IsR c d ∧ AddOk a b (-c) d ∧ negN c d = -c ∧ negD c d = d := by
  have ok : AddOk a b (negN c d) (negD c d) := of_decide_eq_true h
  by_cases hv : IsR c d
  · have e1 : negN c d = -c := by unfold negN; rw [if_pos hv]
    have e2 : negD c d = d := by unfold negD; rw [if_pos hv]
    rw [e1, e2] at ok
    exact ⟨ok.1, hv, ok, e1, e2⟩
  · have e2 : negD c d = 0 := by unfold negD; rw [if_neg hv]
    have := ok.2.1.2.2.1
    omega
theorem sign_cases {a b c d : Int} (h1 : IsR a b) (h2 : IsR c d) (h : AddOk a b (-c) d) : (cmpV a b c d = -1 ∧ addN a b (-c) d < 0) ∨ (cmpV a b c d = 1 ∧ 0 < addN a b (-c) d) ∨ (cmpV a b c d = 0 ∧ addN a b (-c) d = 0) := by
  have hs := sub_sign h1 h2 h
  have e := cmp_yes (isR_true.2 h1) (isR_true.2 h2)
  rcases Int.lt_trichotomy (a * d) (c * b) with h3 | h3 | h3
  · exact .inl ⟨by rw [e, if_pos h3], hs.2.2 h3⟩
  · refine .inr (.inr ⟨by rw [e, if_neg (by omega), if_neg (by omega)], ?_⟩)
    rcases Int.lt_trichotomy (addN a b (-c) d) 0 with h4 | h4 | h4
    · have := hs.2.1 h4; omega
    · exact h4
    · have := hs.1.1 h4; omega
  · exact .inr (.inl ⟨by rw [e, if_neg (by omega), if_pos h3], hs.1.2 h3⟩)
theorem cmpVv_any (a b c d m : Int) (w : World) (ha : IsI64 a) (hb : IsI64 b) (hc : IsI64 c) (hd : IsI64 d) (hm : m = cmpV a b c d) :
    Calls Try.prog 17 #[.agg #[.int .i64 a, .int .i64 b], .agg #[.int .i64 c, .int .i64 d]] w fun e w' => e = .returned (.int .i64 m) ∧ Below w.heap.size w w' := by
  subst hm
  exact cmpRat_any a b c d w ha hb hc hd
theorem minusV_any (a b c d x y : Int) (k : Bool) (w : World) (ha : IsI64 a) (hb : IsI64 b) (hc : IsI64 c) (hd : IsI64 d) (hx : x = addN a b (negN c d) (negD c d)) (hy : y = addD a b (negN c d) (negD c d)) (hk : k = addOk a b (negN c d) (negD c d)) :
    Calls Try.prog 16 #[.agg #[.int .i64 a, .int .i64 b], .agg #[.int .i64 c, .int .i64 d]] w (RatRes x y k w) := by
  subst hx hy hk
  exact minus_any a b c d w ha hb hc hd
theorem mkV_any (n d x y : Int) (k : Bool) (w : World) (hn : IsI64 n) (hd : IsI64 d) (hx : x = mrN n d) (hy : y = mrD n d) (hk : k = mrOk n d) :
    Calls Try.prog 19 #[.int .i64 n, .int .i64 d] w (RatRes x y k w) := by
  subst hx hy hk
  exact mkRat_any n d w hn hd
theorem made_of {n m : Int} (h : mrOk n m = true) : IsR (mrN n m) (mrD n m) ∧ mrN n m * m = n * mrD n m ∧ (-1000000000 ≤ n ∧ n ≤ 1000000000) ∧ (-1000000000 ≤ m ∧ m ≤ 1000000000) := by
  unfold mrOk at h
  simp only [Bool.and_eq_true] at h
  obtain ⟨h1, h2, h3⟩ := h
  have ok : MkOk n m := of_decide_eq_true h3
  have e := mr_yes h1 h2
  rw [e.1, e.2.1]
  exact ⟨mk_valid ok, mk_cross ok, inR_true.1 h1, inR_true.1 h2⟩
theorem cmp_bd (a b c d : Int) : -1 ≤ cmpV a b c d ∧ cmpV a b c d ≤ 1 := by
  unfold cmpV
  split
  · split
    · omega
    · split <;> omega
  · omega
/-- What stays of the two fractions and of their difference. -/
def Keep3 (W : World) (A C D : Nat) (a b c d x y : Int) (v : Value) (s : Value) (wx : World) : Prop := s = v ∧ PairAt wx A a b ∧ PairAt wx C c d ∧ PairAt wx D x y ∧ Below W.heap.size W wx
def Keep2 (W : World) (A C : Nat) (a b c d : Int) (wx : World) : Prop := PairAt wx A a b ∧ PairAt wx C c d ∧ Below W.heap.size W wx
/-- What stays of the two fractions. -/
def Keep (W : World) (A C : Nat) (a b c d : Int) (v : Value) (s : Value) (wx : World) : Prop := s = v ∧ PairAt wx A a b ∧ PairAt wx C c d ∧ Below W.heap.size W wx
set_option maxHeartbeats 8000000 in
set_option maxRecDepth 100000 in
theorem lawRatios_small (W : World) (a0 : Option Addr) (len cap : Nat) (hl : len ≤ 1048576) (hk : CodeAt W W.heap.size a0 len) : Calls Try.prog 3 #[.slice a0 len cap] W (LawTrue W) := by
  have HK := Lib.hid hk
  clear hk
  go_enter Try.func3, Try.ntmps3
  go_wp2_with (go_at_call 10; refine (big_no _ a0 len cap hl).mono ?_; rintro e w0 ⟨rfl, rfl⟩)
  go_at_call 11
  refine (drawRR_any _ a0 len cap hl HK.out).mono ?_
  rintro e w1 ⟨a, b, c, d, ⟨ha, hb⟩, ⟨hc, hd⟩, rfl, hbw⟩
  have Ia := Lib.hid ha
  have Ib := Lib.hid hb
  have Ic := Lib.hid hc
  have Id := Lib.hid hd
  have HB1 := Lib.hid hbw
  clear ha hb hc hd hbw
  go_wp2_with fail
  obtain ⟨V, hV⟩ : ∃ V, V = w1.alloc (.cells #[.int .i64 a, .int .i64 b] 25) := ⟨_, rfl⟩
  obtain ⟨U, hU⟩ : ∃ U, U = V.alloc (.cells #[.int .i64 c, .int .i64 d] 25) := ⟨_, rfl⟩
  have HA_U := Lib.hid (show PairAt U w1.heap.size a b by rw [hU, hV]; exact (pair_new w1 a b _).alloc _)
  have HC_U := Lib.hid (show PairAt U (w1.heap.size + 1) c d by rw [hU]; have := pair_new V c d 25; rw [show V.heap.size = w1.heap.size + 1 by rw [hV]; simp] at this; exact this)
  have HB_U := Lib.hid (show Below W.heap.size W U by rw [hU, hV]; exact below_allocW (below_allocW HB1.out _) _)
  rw [← hV, ← hU]
  obtain ⟨C, hC⟩ : ∃ C, C = w1.heap.size + 1 := ⟨_, rfl⟩
  rw [← hC] at HC_U ⊢
  obtain ⟨A, hA⟩ : ∃ A, A = w1.heap.size := ⟨_, rfl⟩
  rw [← hA] at HA_U ⊢
  clear hV hU hC hA
  obtain ⟨x, hx⟩ : ∃ x, x = addN a b c d := ⟨_, rfl⟩
  obtain ⟨y, hy⟩ : ∃ y, y = addD a b c d := ⟨_, rfl⟩
  obtain ⟨k, hk⟩ : ∃ k, k = addOk a b c d := ⟨_, rfl⟩
  obtain ⟨p, hp⟩ : ∃ p, p = mulN a b c d := ⟨_, rfl⟩
  obtain ⟨q, hq⟩ : ∃ q, q = mulD a b c d := ⟨_, rfl⟩
  obtain ⟨j, hj⟩ : ∃ j, j = mulOk a b c d := ⟨_, rfl⟩
  have Hx := Lib.hid hx
  have Hy := Lib.hid hy
  have Hk := Lib.hid hk
  have Hp := Lib.hid hp
  have Hq := Lib.hid hq
  have Hj := Lib.hid hj
  clear hx hy hk hp hq hj
  go_at_call 12
  refine (addV_any a b c d x y k _ Ia.out Ib.out Ic.out Id.out Hx.out Hy.out Hk.out).mono ?_
  rintro e w2 ⟨rfl, hb⟩
  have HA_w2 := Lib.hid (HA_U.out.below hb)
  have HC_w2 := Lib.hid (HC_U.out.below hb)
  have HB_w2 := Lib.hid (below_up HB_U.out hb (Nat.le_refl _))
  clear hb
  have HA_w2a := Lib.hid (HA_w2.out.alloc (.cells #[.int .i64 x, .int .i64 y] 25))
  have HC_w2a := Lib.hid (HC_w2.out.alloc (.cells #[.int .i64 x, .int .i64 y] 25))
  have HX_w2a := Lib.hid (pair_new w2 x y 25)
  have HB_w2a := Lib.hid (below_allocW HB_w2.out (.cells #[.int .i64 x, .int .i64 y] 25))
  have yAc0 := HA_w2a.out.c0
  have yAc1 := HA_w2a.out.c1
  have yCc0 := HC_w2a.out.c0
  have yCc1 := HC_w2a.out.c1
  go_wp2_with fail
  go_at_call 13
  refine (specAddV_any a b c d x y k _ Hx.out Hy.out Hk.out).mono ?_
  rintro e w3 ⟨rfl, hb⟩
  have HA_w3 := Lib.hid (HA_w2a.out.below hb)
  have HC_w3 := Lib.hid (HC_w2a.out.below hb)
  have HX_w3 := Lib.hid (HX_w2a.out.below hb)
  have HB_w3 := Lib.hid (below_up HB_w2a.out hb (Nat.le_refl _))
  clear hb
  clear yAc0 yAc1 yCc0 yCc1
  have HA_w3a := Lib.hid (HA_w3.out.alloc (.cells #[.int .i64 x, .int .i64 y] 25))
  have HC_w3a := Lib.hid (HC_w3.out.alloc (.cells #[.int .i64 x, .int .i64 y] 25))
  have HX_w3a := Lib.hid (HX_w3.out.alloc (.cells #[.int .i64 x, .int .i64 y] 25))
  have HZ_w3a := Lib.hid (pair_new w3 x y 25)
  have HB_w3a := Lib.hid (below_allocW HB_w3.out (.cells #[.int .i64 x, .int .i64 y] 25))
  have yAc0 := HA_w3a.out.c0
  have yAc1 := HA_w3a.out.c1
  have yCc0 := HC_w3a.out.c0
  have yCc1 := HC_w3a.out.c1
  go_wp2_with fail
  go_at_call 12
  refine (addV_any c d a b x y k _ Ic.out Id.out Ia.out Ib.out (Hx.out.trans (addN_comm _ _ _ _)) (Hy.out.trans (addD_comm _ _ _ _)) (Hk.out.trans (addOk_comm' _ _ _ _))).mono ?_
  rintro e w4 ⟨rfl, hb⟩
  have HA_w4 := Lib.hid (HA_w3a.out.below hb)
  have HC_w4 := Lib.hid (HC_w3a.out.below hb)
  have HX_w4 := Lib.hid (HX_w3a.out.below hb)
  have HZ_w4 := Lib.hid (HZ_w3a.out.below hb)
  have HB_w4 := Lib.hid (below_up HB_w3a.out hb (Nat.le_refl _))
  clear hb
  clear yAc0 yAc1 yCc0 yCc1
  have HA_w4a := Lib.hid (HA_w4.out.alloc (.cells #[.int .i64 x, .int .i64 y] 25))
  have HC_w4a := Lib.hid (HC_w4.out.alloc (.cells #[.int .i64 x, .int .i64 y] 25))
  have HX_w4a := Lib.hid (HX_w4.out.alloc (.cells #[.int .i64 x, .int .i64 y] 25))
  have HZ_w4a := Lib.hid (HZ_w4.out.alloc (.cells #[.int .i64 x, .int .i64 y] 25))
  have HY_w4a := Lib.hid (pair_new w4 x y 25)
  have HB_w4a := Lib.hid (below_allocW HB_w4.out (.cells #[.int .i64 x, .int .i64 y] 25))
  have yAc0 := HA_w4a.out.c0
  have yAc1 := HA_w4a.out.c1
  have yCc0 := HC_w4a.out.c0
  have yCc1 := HC_w4a.out.c1
  go_wp2_with fail
  go_at_call 14
  refine (mulV_any a b c d p q j _ Ia.out Ib.out Ic.out Id.out Hp.out Hq.out Hj.out).mono ?_
  rintro e w5 ⟨rfl, hb⟩
  have HA_w5 := Lib.hid (HA_w4a.out.below hb)
  have HC_w5 := Lib.hid (HC_w4a.out.below hb)
  have HX_w5 := Lib.hid (HX_w4a.out.below hb)
  have HZ_w5 := Lib.hid (HZ_w4a.out.below hb)
  have HY_w5 := Lib.hid (HY_w4a.out.below hb)
  have HB_w5 := Lib.hid (below_up HB_w4a.out hb (Nat.le_refl _))
  clear hb
  clear yAc0 yAc1 yCc0 yCc1
  have HA_w5a := Lib.hid (HA_w5.out.alloc (.cells #[.int .i64 p, .int .i64 q] 25))
  have HC_w5a := Lib.hid (HC_w5.out.alloc (.cells #[.int .i64 p, .int .i64 q] 25))
  have HX_w5a := Lib.hid (HX_w5.out.alloc (.cells #[.int .i64 p, .int .i64 q] 25))
  have HZ_w5a := Lib.hid (HZ_w5.out.alloc (.cells #[.int .i64 p, .int .i64 q] 25))
  have HY_w5a := Lib.hid (HY_w5.out.alloc (.cells #[.int .i64 p, .int .i64 q] 25))
  have HP_w5a := Lib.hid (pair_new w5 p q 25)
  have HB_w5a := Lib.hid (below_allocW HB_w5.out (.cells #[.int .i64 p, .int .i64 q] 25))
  have yAc0 := HA_w5a.out.c0
  have yAc1 := HA_w5a.out.c1
  have yCc0 := HC_w5a.out.c0
  have yCc1 := HC_w5a.out.c1
  go_wp2_with fail
  go_at_call 14
  refine (mulV_any c d a b p q j _ Ic.out Id.out Ia.out Ib.out (Hp.out.trans (mulN_comm _ _ _ _)) (Hq.out.trans (mulD_comm _ _ _ _)) (Hj.out.trans (mulOk_comm' _ _ _ _))).mono ?_
  rintro e w6 ⟨rfl, hb⟩
  have HA_w6 := Lib.hid (HA_w5a.out.below hb)
  have HC_w6 := Lib.hid (HC_w5a.out.below hb)
  have HX_w6 := Lib.hid (HX_w5a.out.below hb)
  have HZ_w6 := Lib.hid (HZ_w5a.out.below hb)
  have HY_w6 := Lib.hid (HY_w5a.out.below hb)
  have HP_w6 := Lib.hid (HP_w5a.out.below hb)
  have HB_w6 := Lib.hid (below_up HB_w5a.out hb (Nat.le_refl _))
  clear hb
  clear yAc0 yAc1 yCc0 yCc1
  have HA_w6a := Lib.hid (HA_w6.out.alloc (.cells #[.int .i64 p, .int .i64 q] 25))
  have HC_w6a := Lib.hid (HC_w6.out.alloc (.cells #[.int .i64 p, .int .i64 q] 25))
  have HX_w6a := Lib.hid (HX_w6.out.alloc (.cells #[.int .i64 p, .int .i64 q] 25))
  have HZ_w6a := Lib.hid (HZ_w6.out.alloc (.cells #[.int .i64 p, .int .i64 q] 25))
  have HY_w6a := Lib.hid (HY_w6.out.alloc (.cells #[.int .i64 p, .int .i64 q] 25))
  have HP_w6a := Lib.hid (HP_w6.out.alloc (.cells #[.int .i64 p, .int .i64 q] 25))
  have HQ_w6a := Lib.hid (pair_new w6 p q 25)
  have HB_w6a := Lib.hid (below_allocW HB_w6.out (.cells #[.int .i64 p, .int .i64 q] 25))
  have yAc0 := HA_w6a.out.c0
  have yAc1 := HA_w6a.out.c1
  have yCc0 := HC_w6a.out.c0
  have yCc1 := HC_w6a.out.c1
  have yXc0 := HX_w6a.out.c0
  have yXc1 := HX_w6a.out.c1
  have yYc0 := HY_w6a.out.c0
  have yYc1 := HY_w6a.out.c1
  have yPc0 := HP_w6a.out.c0
  have yPc1 := HP_w6a.out.c1
  have yQc0 := HQ_w6a.out.c0
  have yQc1 := HQ_w6a.out.c1
  go_upto_region 11 with fail
  go_cut [97] (Keep W A C a b c d (.bool false))
  case first =>
    cases k
    · cases j
      · have h00 := trivial
        go_wp2_with fail
        go_meet
        exact ⟨rfl, HA_w6a.out, HC_w6a.out, HB_w6a.out⟩
      · have h00 := trivial
        have hvp : IsR p q := by rw [Hp.out, Hq.out]; exact mul_valid (of_decide_eq_true Hj.out.symm)
        have Ip := Lib.hid (show IsI64 p ∧ IsI64 q from ⟨⟨by have := hvp.1; omega, by have := hvp.2.1; omega⟩, ⟨by have := hvp.2.2.1; omega, by have := hvp.2.2.2.1; omega⟩⟩)
        have HVp := Lib.hid hvp
        clear hvp
        go_wp2_with fail
        go_at_call 15
        refine (isRat_yes p q _ Ip.out.1 Ip.out.2 HVp.out).mono ?_
        rintro e w8 ⟨rfl, hb⟩
        have HA_w8 := Lib.hid (HA_w6a.out.below hb)
        have HC_w8 := Lib.hid (HC_w6a.out.below hb)
        have HX_w8 := Lib.hid (HX_w6a.out.below hb)
        have HZ_w8 := Lib.hid (HZ_w6a.out.below hb)
        have HY_w8 := Lib.hid (HY_w6a.out.below hb)
        have HP_w8 := Lib.hid (HP_w6a.out.below hb)
        have HQ_w8 := Lib.hid (HQ_w6a.out.below hb)
        have HB_w8 := Lib.hid (below_up HB_w6a.out hb (Nat.le_refl _))
        clear hb
        go_wp2_with fail
        go_meet
        exact ⟨rfl, HA_w8.out, HC_w8.out, HB_w8.out⟩
    · cases j
      · have h00 := trivial
        have hvx : IsR x y := by rw [Hx.out, Hy.out]; exact add_valid (of_decide_eq_true Hk.out.symm)
        have Ix := Lib.hid (show IsI64 x ∧ IsI64 y from ⟨⟨by have := hvx.1; omega, by have := hvx.2.1; omega⟩, ⟨by have := hvx.2.2.1; omega, by have := hvx.2.2.2.1; omega⟩⟩)
        have HVx := Lib.hid hvx
        clear hvx
        go_wp2_with fail
        go_at_call 15
        refine (isRat_yes x y _ Ix.out.1 Ix.out.2 HVx.out).mono ?_
        rintro e w7 ⟨rfl, hb⟩
        have HA_w7 := Lib.hid (HA_w6a.out.below hb)
        have HC_w7 := Lib.hid (HC_w6a.out.below hb)
        have HX_w7 := Lib.hid (HX_w6a.out.below hb)
        have HZ_w7 := Lib.hid (HZ_w6a.out.below hb)
        have HY_w7 := Lib.hid (HY_w6a.out.below hb)
        have HP_w7 := Lib.hid (HP_w6a.out.below hb)
        have HQ_w7 := Lib.hid (HQ_w6a.out.below hb)
        have HB_w7 := Lib.hid (below_up HB_w6a.out hb (Nat.le_refl _))
        clear hb
        have yPc0 := HP_w7.out.c0
        have yPc1 := HP_w7.out.c1
        go_wp2_with fail
        go_meet
        exact ⟨rfl, HA_w7.out, HC_w7.out, HB_w7.out⟩
      · have h00 := trivial
        have hvx : IsR x y := by rw [Hx.out, Hy.out]; exact add_valid (of_decide_eq_true Hk.out.symm)
        have Ix := Lib.hid (show IsI64 x ∧ IsI64 y from ⟨⟨by have := hvx.1; omega, by have := hvx.2.1; omega⟩, ⟨by have := hvx.2.2.1; omega, by have := hvx.2.2.2.1; omega⟩⟩)
        have HVx := Lib.hid hvx
        clear hvx
        have hvp : IsR p q := by rw [Hp.out, Hq.out]; exact mul_valid (of_decide_eq_true Hj.out.symm)
        have Ip := Lib.hid (show IsI64 p ∧ IsI64 q from ⟨⟨by have := hvp.1; omega, by have := hvp.2.1; omega⟩, ⟨by have := hvp.2.2.1; omega, by have := hvp.2.2.2.1; omega⟩⟩)
        have HVp := Lib.hid hvp
        clear hvp
        go_wp2_with fail
        go_at_call 15
        refine (isRat_yes x y _ Ix.out.1 Ix.out.2 HVx.out).mono ?_
        rintro e w7 ⟨rfl, hb⟩
        have HA_w7 := Lib.hid (HA_w6a.out.below hb)
        have HC_w7 := Lib.hid (HC_w6a.out.below hb)
        have HX_w7 := Lib.hid (HX_w6a.out.below hb)
        have HZ_w7 := Lib.hid (HZ_w6a.out.below hb)
        have HY_w7 := Lib.hid (HY_w6a.out.below hb)
        have HP_w7 := Lib.hid (HP_w6a.out.below hb)
        have HQ_w7 := Lib.hid (HQ_w6a.out.below hb)
        have HB_w7 := Lib.hid (below_up HB_w6a.out hb (Nat.le_refl _))
        clear hb
        have yPc0 := HP_w7.out.c0
        have yPc1 := HP_w7.out.c1
        go_wp2_with fail
        go_at_call 15
        refine (isRat_yes p q _ Ip.out.1 Ip.out.2 HVp.out).mono ?_
        rintro e w8 ⟨rfl, hb⟩
        have HA_w8 := Lib.hid (HA_w7.out.below hb)
        have HC_w8 := Lib.hid (HC_w7.out.below hb)
        have HX_w8 := Lib.hid (HX_w7.out.below hb)
        have HZ_w8 := Lib.hid (HZ_w7.out.below hb)
        have HY_w8 := Lib.hid (HY_w7.out.below hb)
        have HP_w8 := Lib.hid (HP_w7.out.below hb)
        have HQ_w8 := Lib.hid (HQ_w7.out.below hb)
        have HB_w8 := Lib.hid (below_up HB_w7.out hb (Nat.le_refl _))
        clear hb
        clear yPc0 yPc1
        go_wp2_with fail
        go_meet
        exact ⟨rfl, HA_w8.out, HC_w8.out, HB_w8.out⟩
  case rest =>
    obtain ⟨rfl, hpa, hpc, hbw⟩ := hcut
    clear yAc0 yAc1 yCc0 yCc1
    obtain ⟨V, hV⟩ : ∃ V, V = wc := ⟨_, rfl⟩
    subst hV
    have HA_V := Lib.hid hpa
    have HC_V := Lib.hid hpc
    have HB_V := Lib.hid hbw
    clear hpa hpc hbw
    have yAc0 := HA_V.out.c0
    have yAc1 := HA_V.out.c1
    have yCc0 := HC_V.out.c0
    have yCc1 := HC_V.out.c1
    
    obtain ⟨dn, hdn⟩ : ∃ u, u = addN a b (negN c d) (negD c d) := ⟨_, rfl⟩
    obtain ⟨dd, hdd⟩ : ∃ u, u = addD a b (negN c d) (negD c d) := ⟨_, rfl⟩
    obtain ⟨f, hf⟩ : ∃ u, u = addOk a b (negN c d) (negD c d) := ⟨_, rfl⟩
    have Hdn := Lib.hid hdn
    have Hdd := Lib.hid hdd
    have Hf := Lib.hid hf
    have Hdi := Lib.hid (show IsI64 dn ∧ IsI64 dd by rw [hdn, hdd]; exact add_i64 _ _ _ _)
    clear hdn hdd hf
    go_wp2_with fail
    go_at_call 16
    refine (minusV_any a b c d dn dd f _ Ia.out Ib.out Ic.out Id.out Hdn.out Hdd.out Hf.out).mono ?_
    rintro e v1 ⟨rfl, hb⟩
    have HA_v1 := Lib.hid (HA_V.out.below hb)
    have HC_v1 := Lib.hid (HC_V.out.below hb)
    have HB_v1 := Lib.hid (below_up HB_V.out hb (Nat.le_refl _))
    clear hb
    clear yAc0 yAc1 yCc0 yCc1
    have HA_v1a := Lib.hid (HA_v1.out.alloc (.cells #[.int .i64 dn, .int .i64 dd] 25))
    have HC_v1a := Lib.hid (HC_v1.out.alloc (.cells #[.int .i64 dn, .int .i64 dd] 25))
    have HD_v1a := Lib.hid (pair_new v1 dn dd 25)
    have HB_v1a := Lib.hid (below_allocW HB_v1.out (.cells #[.int .i64 dn, .int .i64 dd] 25))
    have yAc0 := HA_v1a.out.c0
    have yAc1 := HA_v1a.out.c1
    have yCc0 := HC_v1a.out.c0
    have yCc1 := HC_v1a.out.c1
    have yDc0 := HD_v1a.out.c0
    have yDc1 := HD_v1a.out.c1
    go_upto_region 14 with fail
    go_cut [112] (Keep3 W A C v1.heap.size a b c d dn dd (.bool f))
    case first =>
      cases f
      · go_wp2_with fail
        go_meet
        exact ⟨rfl, HA_v1a.out, HC_v1a.out, HD_v1a.out, HB_v1a.out⟩
      · have hfine := fine_of Hf.out.symm
        have HR1 := Lib.hid hfine.1
        have HR2 := Lib.hid hfine.2.1
        clear hfine
        go_wp2_with fail
        go_at_call 15
        refine (isRat_yes a b _ Ia.out Ib.out HR1.out).mono ?_
        rintro e v2 ⟨rfl, hb⟩
        have HA_v2 := Lib.hid (HA_v1a.out.below hb)
        have HC_v2 := Lib.hid (HC_v1a.out.below hb)
        have HD_v2 := Lib.hid (HD_v1a.out.below hb)
        have HB_v2 := Lib.hid (below_up HB_v1a.out hb (Nat.le_refl _))
        clear hb
        have yCc0 := HC_v2.out.c0
        have yCc1 := HC_v2.out.c1
        go_wp2_with fail
        go_at_call 15
        refine (isRat_yes c d _ Ic.out Id.out HR2.out).mono ?_
        rintro e v3 ⟨rfl, hb⟩
        have HA_v3 := Lib.hid (HA_v2.out.below hb)
        have HC_v3 := Lib.hid (HC_v2.out.below hb)
        have HD_v3 := Lib.hid (HD_v2.out.below hb)
        have HB_v3 := Lib.hid (below_up HB_v2.out hb (Nat.le_refl _))
        clear hb
        clear yCc0 yCc1
        go_wp2_with fail
        go_meet
        exact ⟨rfl, HA_v3.out, HC_v3.out, HD_v3.out, HB_v3.out⟩
    case rest =>
      obtain ⟨rfl, hpa, hpc, hpd, hbw⟩ := hcut
      clear yAc0 yAc1 yCc0 yCc1 yDc0 yDc1
      obtain ⟨V2, hV⟩ : ∃ V, V = wc := ⟨_, rfl⟩
      subst hV
      obtain ⟨D, hD⟩ : ∃ D, D = v1.heap.size := ⟨_, rfl⟩
      rw [← hD] at hpd ⊢
      clear hD
      have HA_V2 := Lib.hid hpa
      have HC_V2 := Lib.hid hpc
      have HD_V2 := Lib.hid hpd
      have HB_V2 := Lib.hid hbw
      clear hpa hpc hpd hbw
      have yAc0 := HA_V2.out.c0
      have yAc1 := HA_V2.out.c1
      have yCc0 := HC_V2.out.c0
      have yCc1 := HC_V2.out.c1
      have yDc0 := HD_V2.out.c0
      have yDc1 := HD_V2.out.c1
      go_upto_if 112 with fail
      go_cut [] (Keep2 W A C a b c d)
      case first =>
        cases f
        · go_wp2_with fail
          go_meet
          exact ⟨HA_V2.out, HC_V2.out, HB_V2.out⟩
        · have hfine := fine_of Hf.out.symm
          have HR1 := Lib.hid hfine.1
          have HR2 := Lib.hid hfine.2.1
          have HOK := Lib.hid hfine.2.2.1
          have Hdn2 : Hid (dn = addN a b (-c) d) := Lib.hid (by rw [Hdn.out, hfine.2.2.2.1, hfine.2.2.2.2])
          have Hdd2 : Hid (dd = addD a b (-c) d) := Lib.hid (by rw [Hdd.out, hfine.2.2.2.1, hfine.2.2.2.2])
          have hback := sub_back HR1.out HR2.out HOK.out
          rw [← Hdn2.out, ← Hdd2.out] at hback
          have HBK := Lib.hid hback
          have hsg := sign_cases HR1.out HR2.out HOK.out
          rw [← Hdn2.out] at hsg
          clear hfine hback
          rcases hsg with ⟨hm, hs⟩ | ⟨hm, hs⟩ | ⟨hm, hs⟩
          · have HM := Lib.hid hm
            clear hm
            go_wp2_with fail
            go_at_call 17
            refine (cmpVv_any a b c d (-1) _ Ia.out Ib.out Ic.out Id.out HM.out.symm).mono ?_
            rintro e v4 ⟨rfl, hb⟩
            have HA_v4 := Lib.hid (HA_V2.out.below hb)
            have HC_v4 := Lib.hid (HC_V2.out.below hb)
            have HD_v4 := Lib.hid (HD_V2.out.below hb)
            have HB_v4 := Lib.hid (below_up HB_V2.out hb (Nat.le_refl _))
            clear hb
            clear yAc0 yAc1 yCc0 yCc1 yDc0 yDc1
            have yAc0 := HA_v4.out.c0
            have yAc1 := HA_v4.out.c1
            have yCc0 := HC_v4.out.c0
            have yCc1 := HC_v4.out.c1
            have yDc0 := HD_v4.out.c0
            have yDc1 := HD_v4.out.c1
            go_wp2_with fail
            go_at_call 12
            refine (addV_any dn dd c d a b true _ Hdi.out.1 Hdi.out.2 Ic.out Id.out HBK.out.2.1.symm HBK.out.2.2.symm (by simp [addOk, HBK.out.1])).mono ?_
            rintro e v5 ⟨rfl, hb⟩
            have HA_v5 := Lib.hid (HA_v4.out.below hb)
            have HC_v5 := Lib.hid (HC_v4.out.below hb)
            have HD_v5 := Lib.hid (HD_v4.out.below hb)
            have HB_v5 := Lib.hid (below_up HB_v4.out hb (Nat.le_refl _))
            clear hb
            clear yAc0 yAc1 yCc0 yCc1 yDc0 yDc1
            have HA_v5a := Lib.hid (HA_v5.out.alloc (.cells #[.int .i64 a, .int .i64 b] 25))
            have HC_v5a := Lib.hid (HC_v5.out.alloc (.cells #[.int .i64 a, .int .i64 b] 25))
            have HD_v5a := Lib.hid (HD_v5.out.alloc (.cells #[.int .i64 a, .int .i64 b] 25))
            have HS_v5a := Lib.hid (pair_new v5 a b 25)
            have HB_v5a := Lib.hid (below_allocW HB_v5.out (.cells #[.int .i64 a, .int .i64 b] 25))
            have yAc0 := HA_v5a.out.c0
            have yAc1 := HA_v5a.out.c1
            have ySc0 := HS_v5a.out.c0
            have ySc1 := HS_v5a.out.c1
            go_wp2_with fail
            go_meet
            exact ⟨HA_v5a.out, HC_v5a.out, HB_v5a.out⟩
          · have HM := Lib.hid hm
            clear hm
            go_wp2_with fail
            go_at_call 17
            refine (cmpVv_any a b c d 1 _ Ia.out Ib.out Ic.out Id.out HM.out.symm).mono ?_
            rintro e v4 ⟨rfl, hb⟩
            have HA_v4 := Lib.hid (HA_V2.out.below hb)
            have HC_v4 := Lib.hid (HC_V2.out.below hb)
            have HD_v4 := Lib.hid (HD_V2.out.below hb)
            have HB_v4 := Lib.hid (below_up HB_V2.out hb (Nat.le_refl _))
            clear hb
            clear yAc0 yAc1 yCc0 yCc1 yDc0 yDc1
            have yAc0 := HA_v4.out.c0
            have yAc1 := HA_v4.out.c1
            have yCc0 := HC_v4.out.c0
            have yCc1 := HC_v4.out.c1
            have yDc0 := HD_v4.out.c0
            have yDc1 := HD_v4.out.c1
            go_wp2_with fail
            go_at_call 12
            refine (addV_any dn dd c d a b true _ Hdi.out.1 Hdi.out.2 Ic.out Id.out HBK.out.2.1.symm HBK.out.2.2.symm (by simp [addOk, HBK.out.1])).mono ?_
            rintro e v5 ⟨rfl, hb⟩
            have HA_v5 := Lib.hid (HA_v4.out.below hb)
            have HC_v5 := Lib.hid (HC_v4.out.below hb)
            have HD_v5 := Lib.hid (HD_v4.out.below hb)
            have HB_v5 := Lib.hid (below_up HB_v4.out hb (Nat.le_refl _))
            clear hb
            clear yAc0 yAc1 yCc0 yCc1 yDc0 yDc1
            have HA_v5a := Lib.hid (HA_v5.out.alloc (.cells #[.int .i64 a, .int .i64 b] 25))
            have HC_v5a := Lib.hid (HC_v5.out.alloc (.cells #[.int .i64 a, .int .i64 b] 25))
            have HD_v5a := Lib.hid (HD_v5.out.alloc (.cells #[.int .i64 a, .int .i64 b] 25))
            have HS_v5a := Lib.hid (pair_new v5 a b 25)
            have HB_v5a := Lib.hid (below_allocW HB_v5.out (.cells #[.int .i64 a, .int .i64 b] 25))
            have yAc0 := HA_v5a.out.c0
            have yAc1 := HA_v5a.out.c1
            have ySc0 := HS_v5a.out.c0
            have ySc1 := HS_v5a.out.c1
            go_wp2_with fail
            go_meet
            exact ⟨HA_v5a.out, HC_v5a.out, HB_v5a.out⟩
          · have HM := Lib.hid hm
            clear hm
            have HS := Lib.hid hs
            have hs0 : ¬ dn < 0 := by omega
            have hs1 : ¬ 0 < dn := by omega
            clear hs
            go_wp2_with fail
            go_at_call 17
            refine (cmpVv_any a b c d 0 _ Ia.out Ib.out Ic.out Id.out HM.out.symm).mono ?_
            rintro e v4 ⟨rfl, hb⟩
            have HA_v4 := Lib.hid (HA_V2.out.below hb)
            have HC_v4 := Lib.hid (HC_V2.out.below hb)
            have HD_v4 := Lib.hid (HD_V2.out.below hb)
            have HB_v4 := Lib.hid (below_up HB_V2.out hb (Nat.le_refl _))
            clear hb
            clear yAc0 yAc1 yCc0 yCc1 yDc0 yDc1
            have yAc0 := HA_v4.out.c0
            have yAc1 := HA_v4.out.c1
            have yCc0 := HC_v4.out.c0
            have yCc1 := HC_v4.out.c1
            have yDc0 := HD_v4.out.c0
            have yDc1 := HD_v4.out.c1
            go_wp2_with fail
            go_at_call 12
            refine (addV_any dn dd c d a b true _ Hdi.out.1 Hdi.out.2 Ic.out Id.out HBK.out.2.1.symm HBK.out.2.2.symm (by simp [addOk, HBK.out.1])).mono ?_
            rintro e v5 ⟨rfl, hb⟩
            have HA_v5 := Lib.hid (HA_v4.out.below hb)
            have HC_v5 := Lib.hid (HC_v4.out.below hb)
            have HD_v5 := Lib.hid (HD_v4.out.below hb)
            have HB_v5 := Lib.hid (below_up HB_v4.out hb (Nat.le_refl _))
            clear hb
            clear yAc0 yAc1 yCc0 yCc1 yDc0 yDc1
            have HA_v5a := Lib.hid (HA_v5.out.alloc (.cells #[.int .i64 a, .int .i64 b] 25))
            have HC_v5a := Lib.hid (HC_v5.out.alloc (.cells #[.int .i64 a, .int .i64 b] 25))
            have HD_v5a := Lib.hid (HD_v5.out.alloc (.cells #[.int .i64 a, .int .i64 b] 25))
            have HS_v5a := Lib.hid (pair_new v5 a b 25)
            have HB_v5a := Lib.hid (below_allocW HB_v5.out (.cells #[.int .i64 a, .int .i64 b] 25))
            have yAc0 := HA_v5a.out.c0
            have yAc1 := HA_v5a.out.c1
            have ySc0 := HS_v5a.out.c0
            have ySc1 := HS_v5a.out.c1
            go_wp2_with fail
            go_meet
            exact ⟨HA_v5a.out, HC_v5a.out, HB_v5a.out⟩
      case rest =>
        obtain ⟨hpa, hpc, hbw⟩ := hcut
        clear yAc0 yAc1 yCc0 yCc1
        clear HB1 HB_U HC_U HA_U Hx Hy Hk Hp Hq Hj HA_w2 HC_w2 HB_w2 HA_w2a HC_w2a HX_w2a HB_w2a HA_w3 HC_w3 HX_w3 HB_w3 HA_w3a HC_w3a HX_w3a HZ_w3a HB_w3a HA_w4 HC_w4 HX_w4 HZ_w4 HB_w4 HA_w4a HC_w4a HX_w4a HZ_w4a HY_w4a HB_w4a HA_w5 HC_w5 HX_w5 HZ_w5 HY_w5 HB_w5 HA_w5a HC_w5a HX_w5a HZ_w5a HY_w5a HP_w5a HB_w5a HA_w6 HC_w6 HX_w6 HZ_w6 HY_w6 HP_w6 HB_w6 HA_w6a HC_w6a HX_w6a HZ_w6a HY_w6a HP_w6a HQ_w6a HB_w6a yXc0 yXc1 yYc0 yYc1 yPc0 yPc1 yQc0 yQc1 HA_V HC_V HB_V Hdn Hdd Hf Hdi HA_v1 HC_v1 HB_v1 HA_v1a HC_v1a HD_v1a HB_v1a HA_V2 HC_V2 HD_V2 HB_V2 yDc0 yDc1
        obtain ⟨V3, hV⟩ : ∃ V, V = wc := ⟨_, rfl⟩
        subst hV
        have HA_V3 := Lib.hid hpa
        have HC_V3 := Lib.hid hpc
        have HB_V3 := Lib.hid hbw
        clear hpa hpc hbw
        have yAc0 := HA_V3.out.c0
        go_wp2_with fail
        go_at_call 18
        refine (drawMk_any _ a0 len cap hl ((HK.out.below HB_V3.out).mono HB_V3.out.size)).mono ?_
        rintro e v6 ⟨n, m, hn, hm, rfl, hb⟩
        have Hn := Lib.hid hn
        have Hm := Lib.hid hm
        have HA_v6 := Lib.hid (HA_V3.out.below hb)
        have HC_v6 := Lib.hid (HC_V3.out.below hb)
        have HB_v6 := Lib.hid (below_up HB_V3.out hb (Nat.le_refl _))
        clear hb hn hm yAc0
        obtain ⟨r1, hr1⟩ : ∃ u, u = mrN n m := ⟨_, rfl⟩
        obtain ⟨r2, hr2⟩ : ∃ u, u = mrD n m := ⟨_, rfl⟩
        obtain ⟨t, ht⟩ : ∃ u, u = mrOk n m := ⟨_, rfl⟩
        have Hr1 := Lib.hid hr1
        have Hr2 := Lib.hid hr2
        have Ht := Lib.hid ht
        clear hr1 hr2 ht
        go_wp2_with fail
        go_at_call 19
        refine (mkV_any n m r1 r2 t _ Hn.out Hm.out Hr1.out Hr2.out Ht.out).mono ?_
        rintro e v7 ⟨rfl, hb⟩
        have HA_v7 := Lib.hid (HA_v6.out.below hb)
        have HC_v7 := Lib.hid (HC_v6.out.below hb)
        have HB_v7 := Lib.hid (below_up HB_v6.out hb (Nat.le_refl _))
        clear hb
        have HA_v7a := Lib.hid (HA_v7.out.alloc (.cells #[.int .i64 r1, .int .i64 r2] 25))
        have HC_v7a := Lib.hid (HC_v7.out.alloc (.cells #[.int .i64 r1, .int .i64 r2] 25))
        have HR_v7a := Lib.hid (pair_new v7 r1 r2 25)
        have HB_v7a := Lib.hid (below_allocW HB_v7.out (.cells #[.int .i64 r1, .int .i64 r2] 25))
        have yAc0 := HA_v7a.out.c0
        have yAc1 := HA_v7a.out.c1
        have yCc0 := HC_v7a.out.c0
        have yCc1 := HC_v7a.out.c1
        have yRc0 := HR_v7a.out.c0
        have yRc1 := HR_v7a.out.c1
        obtain ⟨X0, hX0⟩ : ∃ X, X = v7.alloc (.cells #[.int .i64 r1, .int .i64 r2] 25) := ⟨_, rfl⟩
        obtain ⟨R, hR⟩ : ∃ R, R = v7.heap.size := ⟨_, rfl⟩
        obtain ⟨h, hh⟩ : ∃ u, u = cmpV a b c d := ⟨_, rfl⟩
        obtain ⟨h', hh'⟩ : ∃ u, u = cmpV c d a b := ⟨_, rfl⟩
        have Hh := Lib.hid hh
        have Hh' := Lib.hid hh'
        have hneg : -h' = h := by rw [hh, hh', cmp_swap a b c d]
        have hcb := cmp_bd a b c d
        rw [← hh] at hcb
        obtain ⟨hcb0, hcb1⟩ := hcb
        have hwh : IntKind.i64.wrap h = h := IntWalk.i64_in _ (by omega)
        clear hh hh'
        cases t
        · have h00 := trivial
          have HXA := Lib.hid (show PairAt X0 A a b by rw [hX0]; exact HA_v7a.out)
          have HXC := Lib.hid (show PairAt X0 C c d by rw [hX0]; exact HC_v7a.out)
          have HXR := Lib.hid (show PairAt X0 R r1 r2 by rw [hX0, hR]; exact HR_v7a.out)
          have HXB := Lib.hid (show Below W.heap.size W X0 by rw [hX0]; exact HB_v7a.out)
          clear yAc0 yAc1 yCc0 yCc1 yRc0 yRc1
          have yAc0 := HXA.out.c0
          have yAc1 := HXA.out.c1
          have yCc0 := HXC.out.c0
          have yCc1 := HXC.out.c1
          have yRc0 := HXR.out.c0
          have yRc1 := HXR.out.c1
          rw [hX0] at yAc0 yAc1 yCc0 yCc1
          rw [hX0, hR] at yRc0 yRc1
          go_wp2_with fail
          rw [← hX0, ← hR]
          rw [← hX0] at yAc0 yAc1 yCc0 yCc1
          rw [← hX0, ← hR] at yRc0 yRc1
          clear hX0 hR
          clear HA_V3 HC_V3 HB_V3 HA_v6 HC_v6 HB_v6 HA_v7 HC_v7 HB_v7 HA_v7a HC_v7a HR_v7a HB_v7a HK Hr1 Hr2 Ht Hn Hm hcb0 hcb1 h00
          refine wp_region_noPanic ?_
          refine wp_region_held_drew (S := (fun w' => (w'.cell? ⟨A, 0, none⟩ = some (.int .i64 a) ∧ w'.cell? ⟨A, 1, none⟩ = some (.int .i64 b)) ∧ (w'.cell? ⟨C, 0, none⟩ = some (.int .i64 c) ∧ w'.cell? ⟨C, 1, none⟩ = some (.int .i64 d)))) (by kernel_rfl) ?_ (fun hHeld => ?_)
          · exact ⟨⟨yAc0, yAc1⟩, ⟨yCc0, yCc1⟩⟩
          refine take_val 0 (some 154) (.bool false) (by kernel_rfl) (by kernel_rfl) (by kernel_rfl) (fun _ _ _ h => h) ⟨_, rfl, rfl, by rfl, fun _ _ => rfl⟩ (by assumption) ?_
          try simp only [Act.put, List.setIfInBounds_toArray, List.set_cons_zero, List.set_cons_succ]
          refine take_val 1 (some 155) (.bool true) (by kernel_rfl) (by kernel_rfl) (by kernel_rfl) (fun _ _ _ h => h) ⟨_, rfl, rfl, by rfl, fun _ _ => rfl⟩ (by assumption) ?_
          try simp only [Act.put, List.setIfInBounds_toArray, List.set_cons_zero, List.set_cons_succ]
          refine take_val 2 (some 156) (.bool true) (by kernel_rfl) (by kernel_rfl) (by kernel_rfl) (fun _ _ _ h => h) ⟨_, rfl, rfl, by rfl, fun _ _ => rfl⟩ (by assumption) ?_
          try simp only [Act.put, List.setIfInBounds_toArray, List.set_cons_zero, List.set_cons_succ]
          refine take_un 3 (some 157) (by kernel_rfl) (by kernel_rfl) (by kernel_rfl) (fun _ _ _ h => h) ⟨_, rfl, rfl, by rfl⟩ (by assumption) ?_
          try simp only [Act.put, List.setIfInBounds_toArray, List.set_cons_zero, List.set_cons_succ]
          refine take_un 4 (some 158) (by kernel_rfl) (by kernel_rfl) (by kernel_rfl) (fun _ _ _ h => h) ⟨_, rfl, rfl, by rfl⟩ (by assumption) ?_
          try simp only [Act.put, List.setIfInBounds_toArray, List.set_cons_zero, List.set_cons_succ]
          refine take_un 5 (some 159) (by kernel_rfl) (by kernel_rfl) (by kernel_rfl) (fun _ _ _ h => h) ⟨_, rfl, rfl, by rfl⟩ (by assumption) ?_
          try simp only [Act.put, List.setIfInBounds_toArray, List.set_cons_zero, List.set_cons_succ]
          refine take_un 6 (some 160) (by kernel_rfl) (by kernel_rfl) (by kernel_rfl) (fun _ _ _ h => h) ⟨_, rfl, rfl, by rfl⟩ (by assumption) ?_
          try simp only [Act.put, List.setIfInBounds_toArray, List.set_cons_zero, List.set_cons_succ]
          refine take_un 7 (some 161) (by kernel_rfl) (by kernel_rfl) (by kernel_rfl) (fun _ _ _ h => h) ⟨_, rfl, rfl, by rfl⟩ (by assumption) ?_
          try simp only [Act.put, List.setIfInBounds_toArray, List.set_cons_zero, List.set_cons_succ]
          refine take_un 8 (some 162) (by kernel_rfl) (by kernel_rfl) (by kernel_rfl) (fun _ _ _ h => h) ⟨_, rfl, rfl, by rfl⟩ (by assumption) ?_
          try simp only [Act.put, List.setIfInBounds_toArray, List.set_cons_zero, List.set_cons_succ]
          refine take_un 9 (some 163) (by kernel_rfl) (by kernel_rfl) (by kernel_rfl) (fun _ _ _ h => h) ⟨_, rfl, rfl, by rfl⟩ (by assumption) ?_
          try simp only [Act.put, List.setIfInBounds_toArray, List.set_cons_zero, List.set_cons_succ]
          refine take_un 10 (some 164) (by kernel_rfl) (by kernel_rfl) (by kernel_rfl) (fun _ _ _ h => h) ⟨_, rfl, rfl, by rfl⟩ (by assumption) ?_
          try simp only [Act.put, List.setIfInBounds_toArray, List.set_cons_zero, List.set_cons_succ]
          refine take_un 11 (some 165) (by kernel_rfl) (by kernel_rfl) (by kernel_rfl) (fun _ _ _ h => h) ⟨_, rfl, rfl, by rfl⟩ (by assumption) ?_
          try simp only [Act.put, List.setIfInBounds_toArray, List.set_cons_zero, List.set_cons_succ]
          refine take_un 12 (some 166) (by kernel_rfl) (by kernel_rfl) (by kernel_rfl) (fun _ _ _ h => h) ⟨_, rfl, rfl, by rfl⟩ (by assumption) ?_
          try simp only [Act.put, List.setIfInBounds_toArray, List.set_cons_zero, List.set_cons_succ]
          refine take_un 13 (some 167) (by kernel_rfl) (by kernel_rfl) (by kernel_rfl) (fun _ _ _ h => h) ⟨_, rfl, rfl, by rfl⟩ (by assumption) ?_
          try simp only [Act.put, List.setIfInBounds_toArray, List.set_cons_zero, List.set_cons_succ]
          refine take_un 14 (some 168) (by kernel_rfl) (by kernel_rfl) (by kernel_rfl) (fun _ _ _ h => h) ⟨_, rfl, rfl, by rfl⟩ (by assumption) ?_
          try simp only [Act.put, List.setIfInBounds_toArray, List.set_cons_zero, List.set_cons_succ]
          refine take_un 15 (some 169) (by kernel_rfl) (by kernel_rfl) (by kernel_rfl) (fun _ _ _ h => h) ⟨_, rfl, rfl, by rfl⟩ (by assumption) ?_
          try simp only [Act.put, List.setIfInBounds_toArray, List.set_cons_zero, List.set_cons_succ]
          refine take_val 16 (some 170) (.bool true) (by kernel_rfl) (by kernel_rfl) (by kernel_rfl) (fun _ _ _ h => h) ⟨_, rfl, rfl, by rfl, fun _ _ => rfl⟩ (by assumption) ?_
          try simp only [Act.put, List.setIfInBounds_toArray, List.set_cons_zero, List.set_cons_succ]
          refine take_val 17 (some 171) (.bool true) (by kernel_rfl) (by kernel_rfl) (by kernel_rfl) (fun _ _ _ h => h) ⟨_, rfl, rfl, by rfl, fun _ _ => rfl⟩ (by assumption) ?_
          try simp only [Act.put, List.setIfInBounds_toArray, List.set_cons_zero, List.set_cons_succ]
          refine take_val 18 (some 172) (.agg #[.int .i64 a, .int .i64 b]) (by kernel_rfl) (by kernel_rfl) (by kernel_rfl) (fun _ _ _ h => h) ⟨_, rfl, rfl, by rfl, fun w hSw => by go_simp⟩ (by assumption) ?_
          try simp only [Act.put, List.setIfInBounds_toArray, List.set_cons_zero, List.set_cons_succ]
          refine take_val 19 (some 173) (.agg #[.int .i64 c, .int .i64 d]) (by kernel_rfl) (by kernel_rfl) (by kernel_rfl) (fun _ _ _ h => h) ⟨_, rfl, rfl, by rfl, fun w hSw => by go_simp⟩ (by assumption) ?_
          try simp only [Act.put, List.setIfInBounds_toArray, List.set_cons_zero, List.set_cons_succ]
          refine take_val 21 (some 175) (.agg #[.int .i64 c, .int .i64 d]) (by kernel_rfl) (by kernel_rfl) (by kernel_rfl) (fun _ _ _ h => h) ⟨_, rfl, rfl, by rfl, fun w hSw => by go_simp⟩ (by assumption) ?_
          try simp only [Act.put, List.setIfInBounds_toArray, List.set_cons_zero, List.set_cons_succ]
          refine take_val 22 (some 176) (.agg #[.int .i64 a, .int .i64 b]) (by kernel_rfl) (by kernel_rfl) (by kernel_rfl) (fun _ _ _ h => h) ⟨_, rfl, rfl, by rfl, fun w hSw => by go_simp⟩ (by assumption) ?_
          try simp only [Act.put, List.setIfInBounds_toArray, List.set_cons_zero, List.set_cons_succ]
          refine wpAnyH_ready (rs := [20]) (by kernel_rfl) (by simp) ?_
          refine AllReadyH.cons rfl (fun K hK => ?_) AllReadyH.nil
          go_simp
          go_at_call 17
          refine (cmpVv_any a b c d h _ Ia.out Ib.out Ic.out Id.out Hh.out).mono ?_
          rintro e z2 ⟨rfl, hb⟩
          have HBq2 := Lib.hid (below_up (w0 := X0) (Below.refl _ _).drew hb (Nat.le_refl _))
          clear hb hHeld
          refine hK.out _ _ ⟨⟨(HXA.out.below HBq2.out).c0, (HXA.out.below HBq2.out).c1⟩, ⟨(HXC.out.below HBq2.out).c0, (HXC.out.below HBq2.out).c1⟩⟩ (fun hHeld => ?_)
          clear hK K
          try simp only [Act.put, List.setIfInBounds_toArray, List.set_cons_zero, List.set_cons_succ]
          refine wpAnyH_ready (rs := [23]) (by kernel_rfl) (by simp) ?_
          refine AllReadyH.cons rfl (fun K hK => ?_) AllReadyH.nil
          go_simp
          go_at_call 17
          refine (cmpVv_any c d a b h' _ Ic.out Id.out Ia.out Ib.out Hh'.out).mono ?_
          rintro e z3 ⟨rfl, hb⟩
          have HBq3 := Lib.hid (below_up (w0 := X0) HBq2.out hb (Nat.le_refl _))
          clear hb hHeld
          refine hK.out _ _ ⟨⟨(HXA.out.below HBq3.out).c0, (HXA.out.below HBq3.out).c1⟩, ⟨(HXC.out.below HBq3.out).c0, (HXC.out.below HBq3.out).c1⟩⟩ (fun hHeld => ?_)
          clear hK K
          try simp only [Act.put, List.setIfInBounds_toArray, List.set_cons_zero, List.set_cons_succ]
          refine take_val 24 (some 178) (.int .i64 h) (by kernel_rfl) (by kernel_rfl) (by kernel_rfl) (fun _ _ _ h => h) ⟨_, rfl, rfl, by rfl, fun w _ => by go_simp⟩ (by assumption) ?_
          try simp only [Act.put, List.setIfInBounds_toArray, List.set_cons_zero, List.set_cons_succ]
          refine take_val 25 (some 179) (.bool true) (by kernel_rfl) (by kernel_rfl) (by kernel_rfl) (fun _ _ _ h => h) ⟨_, rfl, rfl, by rfl, fun w _ => by go_simp⟩ (by assumption) ?_
          try simp only [Act.put, List.setIfInBounds_toArray, List.set_cons_zero, List.set_cons_succ]
          refine take_val 26 (some 180) (.bool true) (by kernel_rfl) (by kernel_rfl) (by kernel_rfl) (fun _ _ _ h => h) ⟨_, rfl, rfl, by rfl, fun _ _ => rfl⟩ (by assumption) ?_
          try simp only [Act.put, List.setIfInBounds_toArray, List.set_cons_zero, List.set_cons_succ]
          refine take_val 27 (some 2) (.bool true) (by kernel_rfl) (by kernel_rfl) (by kernel_rfl) (fun _ _ _ h => h) ⟨_, rfl, rfl, by rfl, fun _ _ => rfl⟩ (by assumption) ?_
          try simp only [Act.put, List.setIfInBounds_toArray, List.set_cons_zero, List.set_cons_succ]
          refine wpAnyH_done (by kernel_rfl) ?_ _
          refine NoPanic.normal ?_
          go_wp2
          go_ret
          exact ⟨rfl, HXB.out.trans (HBq3.out.mono HXB.out.size)⟩
        · have h00 := trivial
          have hmd := made_of Ht.out.symm
          rw [← Hr1.out, ← Hr2.out] at hmd
          obtain ⟨hv, hcr, ⟨hn0, hn1⟩, ⟨hm0, hm1⟩⟩ := hmd
          obtain ⟨hb1, hb2, hb3, hb4, hb5⟩ := hv
          have HVr := Lib.hid (show IsR r1 r2 from ⟨hb1, hb2, hb3, hb4, hb5⟩)
          have Ir1 := Lib.hid (show IsI64 r1 from ⟨by omega, by omega⟩)
          have Ir2 := Lib.hid (show IsI64 r2 from ⟨by omega, by omega⟩)
          obtain ⟨hp0, hp1⟩ := mul_bd hb1 hb2 hm0 hm1
          obtain ⟨z, hz⟩ : ∃ z, r1 * m = z := ⟨_, rfl⟩
          rw [hz] at hcr hp0 hp1
          have hz2 : n * r2 = z := hcr.symm
          have hwz : IntKind.i64.wrap z = z := IntWalk.i64_in _ (by omega)
          clear hcr hb5
          have HXA := Lib.hid (show PairAt X0 A a b by rw [hX0]; exact HA_v7a.out)
          have HXC := Lib.hid (show PairAt X0 C c d by rw [hX0]; exact HC_v7a.out)
          have HXR := Lib.hid (show PairAt X0 R r1 r2 by rw [hX0, hR]; exact HR_v7a.out)
          have HXB := Lib.hid (show Below W.heap.size W X0 by rw [hX0]; exact HB_v7a.out)
          clear yAc0 yAc1 yCc0 yCc1 yRc0 yRc1
          have yAc0 := HXA.out.c0
          have yAc1 := HXA.out.c1
          have yCc0 := HXC.out.c0
          have yCc1 := HXC.out.c1
          have yRc0 := HXR.out.c0
          have yRc1 := HXR.out.c1
          rw [hX0] at yAc0 yAc1 yCc0 yCc1
          rw [hX0, hR] at yRc0 yRc1
          go_wp2_with fail
          rw [← hX0, ← hR]
          rw [← hX0] at yAc0 yAc1 yCc0 yCc1
          rw [← hX0, ← hR] at yRc0 yRc1
          clear hX0 hR
          clear HA_V3 HC_V3 HB_V3 HA_v6 HC_v6 HB_v6 HA_v7 HC_v7 HB_v7 HA_v7a HC_v7a HR_v7a HB_v7a HK Hr1 Hr2 Ht Hn Hm hcb0 hcb1 h00
          go_region_held3 (fun w' => (w'.cell? ⟨A, 0, none⟩ = some (.int .i64 a) ∧ w'.cell? ⟨A, 1, none⟩ = some (.int .i64 b)) ∧ (w'.cell? ⟨C, 0, none⟩ = some (.int .i64 c) ∧ w'.cell? ⟨C, 1, none⟩ = some (.int .i64 d)) ∧ (w'.cell? ⟨R, 0, none⟩ = some (.int .i64 r1) ∧ w'.cell? ⟨R, 1, none⟩ = some (.int .i64 r2))) (go_keep) (first | (go_at_call 15; refine (isRat_yes r1 r2 _ Ir1.out Ir2.out HVr.out).mono ?_; rintro e z1 ⟨rfl, hb⟩; have HBq1 := Lib.hid (below_up (w0 := X0) (by repeat (first | exact Below.refl _ _ | refine Below.drew ?_)) hb (Nat.le_refl _)); have yAc0 := (HXA.out.below HBq1.out).c0; have yAc1 := (HXA.out.below HBq1.out).c1; have yCc0 := (HXC.out.below HBq1.out).c0; have yCc1 := (HXC.out.below HBq1.out).c1; have yRc0 := (HXR.out.below HBq1.out).c0; have yRc1 := (HXR.out.below HBq1.out).c1; clear hb) | (go_at_call_of 17 ([Value.agg #[.int .i64 a, .int .i64 b], Value.agg #[.int .i64 c, .int .i64 d]] : List Value); refine (cmpVv_any a b c d h _ Ia.out Ib.out Ic.out Id.out Hh.out).mono ?_; rintro e z2 ⟨rfl, hb⟩; have HBq2 := Lib.hid (below_up (w0 := X0) (by repeat (first | with_reducible exact HBq1.out | exact Below.refl _ _ | refine Below.drew ?_)) hb (Nat.le_refl _)); have yAc0 := (HXA.out.below HBq2.out).c0; have yAc1 := (HXA.out.below HBq2.out).c1; have yCc0 := (HXC.out.below HBq2.out).c0; have yCc1 := (HXC.out.below HBq2.out).c1; have yRc0 := (HXR.out.below HBq2.out).c0; have yRc1 := (HXR.out.below HBq2.out).c1; clear hb) | (go_at_call_of 17 ([Value.agg #[.int .i64 c, .int .i64 d], Value.agg #[.int .i64 a, .int .i64 b]] : List Value); refine (cmpVv_any c d a b h' _ Ic.out Id.out Ia.out Ib.out Hh'.out).mono ?_; rintro e z3 ⟨rfl, hb⟩; have HBq3 := Lib.hid (below_up (w0 := X0) (by repeat (first | with_reducible exact HBq2.out | exact Below.refl _ _ | refine Below.drew ?_)) hb (Nat.le_refl _)); have yAc0 := (HXA.out.below HBq3.out).c0; have yAc1 := (HXA.out.below HBq3.out).c1; have yCc0 := (HXC.out.below HBq3.out).c0; have yCc1 := (HXC.out.below HBq3.out).c1; have yRc0 := (HXR.out.below HBq3.out).c0; have yRc1 := (HXR.out.below HBq3.out).c1; clear hb))
          all_goals
            go_wp2
            go_ret
            exact ⟨rfl, HXB.out.trans (HBq3.out.mono HXB.out.size)⟩
set_option maxRecDepth 100000 in
theorem lawRatios_walk (a : Option Addr) (len cap : Nat) (z : List Int) (W : World) (w0 : IsRow .u8 W a len cap z) :
    Calls Try.prog 3 #[.slice a len cap] W (LawTrue W) := by
  by_cases hl : len ≤ 1048576
  · exact lawRatios_small W a len cap hl (code_of w0)
  · clear w0
    go_enter Try.func3, Try.ntmps3
    go_wp2_with (go_at_call 10; refine (big_yes _ a len cap hl).mono ?_; rintro e w0 ⟨rfl, rfl⟩)
    go_ret
    exact ⟨rfl, Below.refl _ _⟩
end Go.Proofs.Ytecmfipedpfoaaa
