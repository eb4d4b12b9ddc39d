/- Fractions: the program's sums and products, through a bound method. -/
import Derived.Test.YtecmfipedpfoaaaRatI
namespace Go.Proofs.Ytecmfipedpfoaaa
open Go.RowKit
theorem below_alloc3 (W : World) (x y z : Obj) : Below W.heap.size W (((W.alloc x).alloc y).alloc z) :=
  (((Below.refl _ _).alloc (Nat.le_refl _) x).alloc (by simp) y).alloc (by simp <;> omega) z
theorem below_next {W w w' : World} (h : Below W.heap.size W w) (hb : Below w.heap.size w w') : Below W.heap.size W w' := h.trans (hb.mono h.size)
theorem below_allocN {W w : World} (h : Below W.heap.size W w) (o : Obj) : Below W.heap.size W (w.alloc o) := h.alloc h.size o

set_option maxHeartbeats 1600000 in
theorem combineAdd_any (a b c d : Int) (w : World) (ha : IsI64 a) (hb : IsI64 b) (hc : IsI64 c) (hd : IsI64 d) : Calls Try.prog 30 #[.agg #[.int .i64 a, .int .i64 b], .agg #[.int .i64 c, .int .i64 d], .func (.func 31) #[.agg #[.int .i64 a, .int .i64 b]] #[]] w (RatRes (addN a b c d) (addD a b c d) (addOk a b c d) w) := by
  have HIA := Lib.hid ha
  have HIB := Lib.hid hb
  have HIC := Lib.hid hc
  have HID := Lib.hid hd
  clear ha hb hc hd
  obtain ⟨W0, hW0⟩ : ∃ W0, W0 = ((w.alloc (.cells #[.int .i64 a, .int .i64 b] 25)).alloc (.cells #[.int .i64 c, .int .i64 d] 25)).alloc (.cells #[.int .i64 0, .int .i64 0] 25) := ⟨_, rfl⟩
  have HP0 : Hid (PairAt W0 w.heap.size a b) := Lib.hid (by rw [hW0]; exact ((pair_new w a b _).alloc _).alloc _)
  have HQ0 : Hid (PairAt W0 (w.heap.size + 1) c d) := Lib.hid (by rw [hW0]; have := (pair_new (w.alloc (.cells #[.int .i64 a, .int .i64 b] 25)) c d 25).alloc (.cells #[.int .i64 0, .int .i64 0] 25); simpa using this)
  have HR0 : Hid (PairAt W0 (w.heap.size + 1 + 1) 0 0) := Lib.hid (by rw [hW0]; have := pair_new ((w.alloc (.cells #[.int .i64 a, .int .i64 b] 25)).alloc (.cells #[.int .i64 c, .int .i64 d] 25)) 0 0 25; simpa using this)
  have HW0 : Hid (Below w.heap.size w W0) := Lib.hid (by rw [hW0]; exact below_alloc3 _ _ _ _)
  cases hv1 : isR a b
  · have HN := Lib.hid (add_none (a := a) (b := b) (c := c) (d := d) (by simp [hv1]))
    go_enter Try.func30, Try.ntmps30
    go_wp2_with fail
    rw [← hW0]
    clear hW0
    go_at_call 15
    refine (isRat_any a b _ HIA.out HIB.out).mono ?_
    rintro e w1 ⟨rfl, hb1⟩
    have HP1 := Lib.hid (HP0.out.below hb1)
    have HQ1 := Lib.hid (HQ0.out.below hb1)
    have HR1 := Lib.hid (HR0.out.below hb1)
    have HW1 := Lib.hid (below_next HW0.out hb1)
    clear hb1
    have q0 := HQ1.out.c0
    have q1 := HQ1.out.c1
    have r0 := HR1.out.c0
    have r1 := HR1.out.c1
    have rf0 := HR1.out.f0
    have rf1 := HR1.out.f1
    go_wp2
    refine bodyPost_ret (v := .tuple #[.agg #[.int .i64 0, .int .i64 0], .bool false]) (by simp [results, Try.results30, go_sem, r0, r1]) rfl ⟨by rw [HN.out.1, HN.out.2.1, HN.out.2.2], ?_⟩
    repeat (first | exact HW1.out | refine Below.setCell ?_ (by simp <;> omega) _)
  · cases hv2 : isR c d
    · have HN := Lib.hid (add_none (a := a) (b := b) (c := c) (d := d) (by simp [hv2]))
      go_enter Try.func30, Try.ntmps30
      go_wp2_with fail
      rw [← hW0]
      clear hW0
      go_at_call 15
      refine (isRat_any a b _ HIA.out HIB.out).mono ?_
      rintro e w1 ⟨rfl, hb1⟩
      have HP1 := Lib.hid (HP0.out.below hb1)
      have HQ1 := Lib.hid (HQ0.out.below hb1)
      have HR1 := Lib.hid (HR0.out.below hb1)
      have HW1 := Lib.hid (below_next HW0.out hb1)
      clear hb1
      have q0 := HQ1.out.c0
      have q1 := HQ1.out.c1
      have r0 := HR1.out.c0
      have r1 := HR1.out.c1
      have rf0 := HR1.out.f0
      have rf1 := HR1.out.f1
      go_wp2_with fail
      go_at_call 15
      refine (isRat_any c d _ HIC.out HID.out).mono ?_
      rintro e w2 ⟨rfl, hb2⟩
      have HP2 := Lib.hid (HP1.out.below hb2)
      have HQ2 := Lib.hid (HQ1.out.below hb2)
      have HR2 := Lib.hid (HR1.out.below hb2)
      have HW2 := Lib.hid (below_next HW1.out hb2)
      clear hb2 q0 q1 r0 r1 rf0 rf1
      have q0 := HQ2.out.c0
      have q1 := HQ2.out.c1
      have r0 := HR2.out.c0
      have r1 := HR2.out.c1
      have rf0 := HR2.out.f0
      have rf1 := HR2.out.f1
      go_wp2
      refine bodyPost_ret (v := .tuple #[.agg #[.int .i64 0, .int .i64 0], .bool false]) (by simp [results, Try.results30, go_sem, r0, r1]) rfl ⟨by rw [HN.out.1, HN.out.2.1, HN.out.2.2], ?_⟩
      repeat (first | exact HW2.out | refine Below.setCell ?_ (by simp <;> omega) _)
    · have HV1 := Lib.hid hv1
      have HV2 := Lib.hid hv2
      obtain ⟨a0, a1, b0, b1⟩ := isR_bd hv1
      obtain ⟨c0, c1, d0, d1⟩ := isR_bd hv2
      have hbd : 1 ≤ b * d := by have := Int.mul_le_mul (a := 1) (b := 1) (c := b) (d := d) (by omega) (by omega) (by omega) (by omega); omega
      have hnum : -2000000000000000000 ≤ a * d + c * b ∧ a * d + c * b ≤ 2000000000000000000 := by
        obtain ⟨p0, q0⟩ := mul_bd (x := a) (y := d) (by omega) (by omega) (by omega) (by omega)
        obtain ⟨p1, q1⟩ := mul_bd (x := c) (y := b) (by omega) (by omega) (by omega) (by omega)
        omega
      have hden : b * d ≤ 1000000000000000000 := (mul_bd (x := b) (y := d) (by omega) (by omega) (by omega) (by omega)).2
      obtain ⟨X, hX⟩ : ∃ X, X = redN (a * d + c * b) (b * d) := ⟨_, rfl⟩
      obtain ⟨Y, hY⟩ : ∃ Y, Y = redD (a * d + c * b) (b * d) := ⟨_, rfl⟩
      have HX := Lib.hid hX
      have HY := Lib.hid hY
      have HBD := Lib.hid (And.intro hbd (And.intro hnum hden))
      have HXY : Hid (IsI64 X ∧ IsI64 Y) := Lib.hid (by
        obtain ⟨g, q, x, y, N⟩ := cut_any (n := a * d + c * b) (d := b * d) (by omega) (by omega) (by omega) (by omega) (by omega)
        have e1 := N.redN
        have e2 := N.redD
        have := N.x0
        have := N.x1
        have := N.y0
        have := N.y1
        exact ⟨⟨by omega, by omega⟩, ⟨by omega, by omega⟩⟩)
      clear hX hY hbd hnum hden a0 a1 b0 b1 c0 c1 d0 d1
      go_enter Try.func30, Try.ntmps30
      go_wp2_with fail
      rw [← hW0]
      clear hW0
      go_at_call 15
      refine (isRat_any a b _ HIA.out HIB.out).mono ?_
      rintro e w1 ⟨rfl, hb1⟩
      have HP1 := Lib.hid (HP0.out.below hb1)
      have HQ1 := Lib.hid (HQ0.out.below hb1)
      have HR1 := Lib.hid (HR0.out.below hb1)
      have HW1 := Lib.hid (below_next HW0.out hb1)
      clear hb1
      have q0 := HQ1.out.c0
      have q1 := HQ1.out.c1
      have r0 := HR1.out.c0
      have r1 := HR1.out.c1
      have rf0 := HR1.out.f0
      have rf1 := HR1.out.f1
      go_wp2_with fail
      go_at_call 15
      refine (isRat_any c d _ HIC.out HID.out).mono ?_
      rintro e w2 ⟨rfl, hb2⟩
      have HP2 := Lib.hid (HP1.out.below hb2)
      have HQ2 := Lib.hid (HQ1.out.below hb2)
      have HR2 := Lib.hid (HR1.out.below hb2)
      have HW2 := Lib.hid (below_next HW1.out hb2)
      clear hb2 q0 q1 r0 r1 rf0 rf1
      have q0 := HQ2.out.c0
      have q1 := HQ2.out.c1
      have r0 := HR2.out.c0
      have r1 := HR2.out.c1
      have rf0 := HR2.out.f0
      have rf1 := HR2.out.f1
      go_wp2_with fail
      go_at_call 31
      refine (plus_any a b c d _ HV1.out HV2.out).mono ?_
      rintro e w3 ⟨rfl, hb3⟩
      have HR3 := Lib.hid (HR2.out.below hb3)
      have HW3 := Lib.hid (below_next HW2.out hb3)
      clear hb3 q0 q1 r0 r1 rf0 rf1
      go_wp2_with fail
      go_at_call 40
      refine (reduced_any _ _ _ (by have := HBD.out.1; omega) (by have := HBD.out.2.1.1; omega) (by have := HBD.out.2.1.2; omega) (by have := HBD.out.1; omega) (by have := HBD.out.2.2; omega)).mono ?_
      rw [← HX.out, ← HY.out]
      rintro e w4 ⟨rfl, hb4⟩
      have HR4 := Lib.hid (HR3.out.below hb4)
      have HW4 := Lib.hid (below_next HW3.out hb4)
      have HS4 := Lib.hid (pair_new w4 X Y 25)
      clear hb4
      go_wp2_with fail
      go_at_call 15
      refine (isRat_any X Y _ HXY.out.1 HXY.out.2).mono ?_
      rintro e w5 ⟨rfl, hb5⟩
      have HR5 := Lib.hid ((HR4.out.alloc (.cells #[.int .i64 X, .int .i64 Y] 25)).below hb5)
      have HS5 := Lib.hid (HS4.out.below hb5)
      have HW5 := Lib.hid (below_next (below_allocN HW4.out (.cells #[.int .i64 X, .int .i64 Y] 25)) hb5)
      have hne := Nat.ne_of_lt HR4.out.lt
      clear hb5
      have s0 := HS5.out.c0
      have s1 := HS5.out.c1
      have r0 := HR5.out.c0
      have r1 := HR5.out.c1
      have rf0 := HR5.out.f0
      have rf1 := HR5.out.f1
      cases hv : isR X Y
      · have HN : Hid (addN a b c d = 0 ∧ addD a b c d = 0 ∧ addOk a b c d = false) := Lib.hid (by
          obtain ⟨e1, e2, e3⟩ := add_yes HV1.out HV2.out
          obtain ⟨f1, f2, f3⟩ := mk_false (n := a * d + c * b) (d := b * d) (by rw [← HX.out, ← HY.out]; exact hv)
          exact ⟨e1.trans f2, e2.trans f3, e3.trans f1⟩)
        go_wp2
        refine bodyPost_ret (v := .tuple #[.agg #[.int .i64 0, .int .i64 0], .bool false]) (by simp [results, Try.results30, go_sem, r0, r1]) rfl ⟨by rw [HN.out.1, HN.out.2.1, HN.out.2.2], ?_⟩
        repeat (first | exact HW5.out | refine Below.setCell ?_ (by simp <;> omega) _)
      · have HN : Hid (addN a b c d = X ∧ addD a b c d = Y ∧ addOk a b c d = true) := Lib.hid (by
          obtain ⟨e1, e2, e3⟩ := add_yes HV1.out HV2.out
          obtain ⟨f1, f2, f3⟩ := mk_true (n := a * d + c * b) (d := b * d) (by have := HBD.out.1; omega) (by rw [← HX.out, ← HY.out]; exact hv)
          exact ⟨(e1.trans f2).trans HX.out.symm, (e2.trans f3).trans HY.out.symm, e3.trans f1⟩)
        go_wp2
        refine bodyPost_ret (v := .tuple #[.agg #[.int .i64 X, .int .i64 Y], .bool true]) (by simp [results, Try.results30, go_sem, r0, r1]) rfl ⟨by rw [HN.out.1, HN.out.2.1, HN.out.2.2], ?_⟩
        repeat (first | exact HW5.out | refine Below.setCell ?_ (by simp <;> omega) _)
set_option maxHeartbeats 1600000 in
theorem combineTimes_any (a b c d : Int) (w : World) (ha : IsI64 a) (hb : IsI64 b) (hc : IsI64 c) (hd : IsI64 d) : Calls Try.prog 30 #[.agg #[.int .i64 a, .int .i64 b], .agg #[.int .i64 c, .int .i64 d], .func (.func 33) #[.agg #[.int .i64 a, .int .i64 b]] #[]] w (RatRes (mulN a b c d) (mulD a b c d) (mulOk a b c d) w) := by
  have HIA := Lib.hid ha
  have HIB := Lib.hid hb
  have HIC := Lib.hid hc
  have HID := Lib.hid hd
  clear ha hb hc hd
  obtain ⟨W0, hW0⟩ : ∃ W0, W0 = ((w.alloc (.cells #[.int .i64 a, .int .i64 b] 25)).alloc (.cells #[.int .i64 c, .int .i64 d] 25)).alloc (.cells #[.int .i64 0, .int .i64 0] 25) := ⟨_, rfl⟩
  have HP0 : Hid (PairAt W0 w.heap.size a b) := Lib.hid (by rw [hW0]; exact ((pair_new w a b _).alloc _).alloc _)
  have HQ0 : Hid (PairAt W0 (w.heap.size + 1) c d) := Lib.hid (by rw [hW0]; have := (pair_new (w.alloc (.cells #[.int .i64 a, .int .i64 b] 25)) c d 25).alloc (.cells #[.int .i64 0, .int .i64 0] 25); simpa using this)
  have HR0 : Hid (PairAt W0 (w.heap.size + 1 + 1) 0 0) := Lib.hid (by rw [hW0]; have := pair_new ((w.alloc (.cells #[.int .i64 a, .int .i64 b] 25)).alloc (.cells #[.int .i64 c, .int .i64 d] 25)) 0 0 25; simpa using this)
  have HW0 : Hid (Below w.heap.size w W0) := Lib.hid (by rw [hW0]; exact below_alloc3 _ _ _ _)
  cases hv1 : isR a b
  · have HN := Lib.hid (mul_none (a := a) (b := b) (c := c) (d := d) (by simp [hv1]))
    go_enter Try.func30, Try.ntmps30
    go_wp2_with fail
    rw [← hW0]
    clear hW0
    go_at_call 15
    refine (isRat_any a b _ HIA.out HIB.out).mono ?_
    rintro e w1 ⟨rfl, hb1⟩
    have HP1 := Lib.hid (HP0.out.below hb1)
    have HQ1 := Lib.hid (HQ0.out.below hb1)
    have HR1 := Lib.hid (HR0.out.below hb1)
    have HW1 := Lib.hid (below_next HW0.out hb1)
    clear hb1
    have q0 := HQ1.out.c0
    have q1 := HQ1.out.c1
    have r0 := HR1.out.c0
    have r1 := HR1.out.c1
    have rf0 := HR1.out.f0
    have rf1 := HR1.out.f1
    go_wp2
    refine bodyPost_ret (v := .tuple #[.agg #[.int .i64 0, .int .i64 0], .bool false]) (by simp [results, Try.results30, go_sem, r0, r1]) rfl ⟨by rw [HN.out.1, HN.out.2.1, HN.out.2.2], ?_⟩
    repeat (first | exact HW1.out | refine Below.setCell ?_ (by simp <;> omega) _)
  · cases hv2 : isR c d
    · have HN := Lib.hid (mul_none (a := a) (b := b) (c := c) (d := d) (by simp [hv2]))
      go_enter Try.func30, Try.ntmps30
      go_wp2_with fail
      rw [← hW0]
      clear hW0
      go_at_call 15
      refine (isRat_any a b _ HIA.out HIB.out).mono ?_
      rintro e w1 ⟨rfl, hb1⟩
      have HP1 := Lib.hid (HP0.out.below hb1)
      have HQ1 := Lib.hid (HQ0.out.below hb1)
      have HR1 := Lib.hid (HR0.out.below hb1)
      have HW1 := Lib.hid (below_next HW0.out hb1)
      clear hb1
      have q0 := HQ1.out.c0
      have q1 := HQ1.out.c1
      have r0 := HR1.out.c0
      have r1 := HR1.out.c1
      have rf0 := HR1.out.f0
      have rf1 := HR1.out.f1
      go_wp2_with fail
      go_at_call 15
      refine (isRat_any c d _ HIC.out HID.out).mono ?_
      rintro e w2 ⟨rfl, hb2⟩
      have HP2 := Lib.hid (HP1.out.below hb2)
      have HQ2 := Lib.hid (HQ1.out.below hb2)
      have HR2 := Lib.hid (HR1.out.below hb2)
      have HW2 := Lib.hid (below_next HW1.out hb2)
      clear hb2 q0 q1 r0 r1 rf0 rf1
      have q0 := HQ2.out.c0
      have q1 := HQ2.out.c1
      have r0 := HR2.out.c0
      have r1 := HR2.out.c1
      have rf0 := HR2.out.f0
      have rf1 := HR2.out.f1
      go_wp2
      refine bodyPost_ret (v := .tuple #[.agg #[.int .i64 0, .int .i64 0], .bool false]) (by simp [results, Try.results30, go_sem, r0, r1]) rfl ⟨by rw [HN.out.1, HN.out.2.1, HN.out.2.2], ?_⟩
      repeat (first | exact HW2.out | refine Below.setCell ?_ (by simp <;> omega) _)
    · have HV1 := Lib.hid hv1
      have HV2 := Lib.hid hv2
      obtain ⟨a0, a1, b0, b1⟩ := isR_bd hv1
      obtain ⟨c0, c1, d0, d1⟩ := isR_bd hv2
      have hbd : 1 ≤ b * d := by have := Int.mul_le_mul (a := 1) (b := 1) (c := b) (d := d) (by omega) (by omega) (by omega) (by omega); omega
      have hnum : -2000000000000000000 ≤ a * c ∧ a * c ≤ 2000000000000000000 := by
        obtain ⟨p0, q0⟩ := mul_bd (x := a) (y := c) (by omega) (by omega) (by omega) (by omega)
        omega
      have hden : b * d ≤ 1000000000000000000 := (mul_bd (x := b) (y := d) (by omega) (by omega) (by omega) (by omega)).2
      obtain ⟨X, hX⟩ : ∃ X, X = redN (a * c) (b * d) := ⟨_, rfl⟩
      obtain ⟨Y, hY⟩ : ∃ Y, Y = redD (a * c) (b * d) := ⟨_, rfl⟩
      have HX := Lib.hid hX
      have HY := Lib.hid hY
      have HBD := Lib.hid (And.intro hbd (And.intro hnum hden))
      have HXY : Hid (IsI64 X ∧ IsI64 Y) := Lib.hid (by
        obtain ⟨g, q, x, y, N⟩ := cut_any (n := a * c) (d := b * d) (by omega) (by omega) (by omega) (by omega) (by omega)
        have e1 := N.redN
        have e2 := N.redD
        have := N.x0
        have := N.x1
        have := N.y0
        have := N.y1
        exact ⟨⟨by omega, by omega⟩, ⟨by omega, by omega⟩⟩)
      clear hX hY hbd hnum hden a0 a1 b0 b1 c0 c1 d0 d1
      go_enter Try.func30, Try.ntmps30
      go_wp2_with fail
      rw [← hW0]
      clear hW0
      go_at_call 15
      refine (isRat_any a b _ HIA.out HIB.out).mono ?_
      rintro e w1 ⟨rfl, hb1⟩
      have HP1 := Lib.hid (HP0.out.below hb1)
      have HQ1 := Lib.hid (HQ0.out.below hb1)
      have HR1 := Lib.hid (HR0.out.below hb1)
      have HW1 := Lib.hid (below_next HW0.out hb1)
      clear hb1
      have q0 := HQ1.out.c0
      have q1 := HQ1.out.c1
      have r0 := HR1.out.c0
      have r1 := HR1.out.c1
      have rf0 := HR1.out.f0
      have rf1 := HR1.out.f1
      go_wp2_with fail
      go_at_call 15
      refine (isRat_any c d _ HIC.out HID.out).mono ?_
      rintro e w2 ⟨rfl, hb2⟩
      have HP2 := Lib.hid (HP1.out.below hb2)
      have HQ2 := Lib.hid (HQ1.out.below hb2)
      have HR2 := Lib.hid (HR1.out.below hb2)
      have HW2 := Lib.hid (below_next HW1.out hb2)
      clear hb2 q0 q1 r0 r1 rf0 rf1
      have q0 := HQ2.out.c0
      have q1 := HQ2.out.c1
      have r0 := HR2.out.c0
      have r1 := HR2.out.c1
      have rf0 := HR2.out.f0
      have rf1 := HR2.out.f1
      go_wp2_with fail
      go_at_call 33
      refine (times_any a b c d _ HV1.out HV2.out).mono ?_
      rintro e w3 ⟨rfl, hb3⟩
      have HR3 := Lib.hid (HR2.out.below hb3)
      have HW3 := Lib.hid (below_next HW2.out hb3)
      clear hb3 q0 q1 r0 r1 rf0 rf1
      go_wp2_with fail
      go_at_call 40
      refine (reduced_any _ _ _ (by have := HBD.out.1; omega) (by have := HBD.out.2.1.1; omega) (by have := HBD.out.2.1.2; omega) (by have := HBD.out.1; omega) (by have := HBD.out.2.2; omega)).mono ?_
      rw [← HX.out, ← HY.out]
      rintro e w4 ⟨rfl, hb4⟩
      have HR4 := Lib.hid (HR3.out.below hb4)
      have HW4 := Lib.hid (below_next HW3.out hb4)
      have HS4 := Lib.hid (pair_new w4 X Y 25)
      clear hb4
      go_wp2_with fail
      go_at_call 15
      refine (isRat_any X Y _ HXY.out.1 HXY.out.2).mono ?_
      rintro e w5 ⟨rfl, hb5⟩
      have HR5 := Lib.hid ((HR4.out.alloc (.cells #[.int .i64 X, .int .i64 Y] 25)).below hb5)
      have HS5 := Lib.hid (HS4.out.below hb5)
      have HW5 := Lib.hid (below_next (below_allocN HW4.out (.cells #[.int .i64 X, .int .i64 Y] 25)) hb5)
      have hne := Nat.ne_of_lt HR4.out.lt
      clear hb5
      have s0 := HS5.out.c0
      have s1 := HS5.out.c1
      have r0 := HR5.out.c0
      have r1 := HR5.out.c1
      have rf0 := HR5.out.f0
      have rf1 := HR5.out.f1
      cases hv : isR X Y
      · have HN : Hid (mulN a b c d = 0 ∧ mulD a b c d = 0 ∧ mulOk a b c d = false) := Lib.hid (by
          obtain ⟨e1, e2, e3⟩ := mul_yes HV1.out HV2.out
          obtain ⟨f1, f2, f3⟩ := mk_false (n := a * c) (d := b * d) (by rw [← HX.out, ← HY.out]; exact hv)
          exact ⟨e1.trans f2, e2.trans f3, e3.trans f1⟩)
        go_wp2
        refine bodyPost_ret (v := .tuple #[.agg #[.int .i64 0, .int .i64 0], .bool false]) (by simp [results, Try.results30, go_sem, r0, r1]) rfl ⟨by rw [HN.out.1, HN.out.2.1, HN.out.2.2], ?_⟩
        repeat (first | exact HW5.out | refine Below.setCell ?_ (by simp <;> omega) _)
      · have HN : Hid (mulN a b c d = X ∧ mulD a b c d = Y ∧ mulOk a b c d = true) := Lib.hid (by
          obtain ⟨e1, e2, e3⟩ := mul_yes HV1.out HV2.out
          obtain ⟨f1, f2, f3⟩ := mk_true (n := a * c) (d := b * d) (by have := HBD.out.1; omega) (by rw [← HX.out, ← HY.out]; exact hv)
          exact ⟨(e1.trans f2).trans HX.out.symm, (e2.trans f3).trans HY.out.symm, e3.trans f1⟩)
        go_wp2
        refine bodyPost_ret (v := .tuple #[.agg #[.int .i64 X, .int .i64 Y], .bool true]) (by simp [results, Try.results30, go_sem, r0, r1]) rfl ⟨by rw [HN.out.1, HN.out.2.1, HN.out.2.2], ?_⟩
        repeat (first | exact HW5.out | refine Below.setCell ?_ (by simp <;> omega) _)
set_option maxHeartbeats 800000 in
theorem addRat_any (a b c d : Int) (w : World) (ha : IsI64 a) (hb : IsI64 b) (hc : IsI64 c) (hd : IsI64 d) : Calls Try.prog 12 #[.agg #[.int .i64 a, .int .i64 b], .agg #[.int .i64 c, .int .i64 d]] w (RatRes (addN a b c d) (addD a b c d) (addOk a b c d) w) := by
  have HIA := Lib.hid ha
  have HIB := Lib.hid hb
  have HIC := Lib.hid hc
  have HID := Lib.hid hd
  clear ha hb hc hd
  obtain ⟨X, hX⟩ : ∃ X, X = addN a b c d := ⟨_, rfl⟩
  obtain ⟨Y, hY⟩ : ∃ Y, Y = addD a b c d := ⟨_, rfl⟩
  obtain ⟨k, hk⟩ : ∃ k, k = addOk a b c d := ⟨_, rfl⟩
  rw [← hX, ← hY, ← hk]
  have HX := Lib.hid hX
  have HY := Lib.hid hY
  have HK := Lib.hid hk
  clear hX hY hk
  obtain ⟨W0, hW0⟩ : ∃ W0, W0 = ((w.alloc (.cells #[.int .i64 a, .int .i64 b] 25)).alloc (.cells #[.int .i64 c, .int .i64 d] 25)).alloc (.cells #[.int .i64 0, .int .i64 0] 25) := ⟨_, rfl⟩
  have HR0 : Hid (PairAt W0 (w.heap.size + 1 + 1) 0 0) := Lib.hid (by rw [hW0]; have := pair_new ((w.alloc (.cells #[.int .i64 a, .int .i64 b] 25)).alloc (.cells #[.int .i64 c, .int .i64 d] 25)) 0 0 25; simpa using this)
  have HW0 : Hid (Below w.heap.size w W0) := Lib.hid (by rw [hW0]; exact below_alloc3 _ _ _ _)
  go_enter Try.func12, Try.ntmps12
  go_wp2_with fail
  rw [← hW0]
  clear hW0
  go_at_call 30
  refine (combineAdd_any a b c d _ HIA.out HIB.out HIC.out HID.out).mono ?_
  rw [← HX.out, ← HY.out, ← HK.out]
  rintro e w1 ⟨rfl, hb1⟩
  have HR1 := Lib.hid (HR0.out.below hb1)
  have HW1 := Lib.hid (below_next HW0.out hb1)
  clear hb1
  have r0 := HR1.out.c0
  have r1 := HR1.out.c1
  have rf0 := HR1.out.f0
  have rf1 := HR1.out.f1
  go_wp2
  refine bodyPost_ret (v := .tuple #[.agg #[.int .i64 X, .int .i64 Y], .bool k]) (by simp [results, Try.results12, go_sem, r0, r1]) rfl ⟨rfl, ?_⟩
  repeat (first | exact HW1.out | refine Below.setCell ?_ (by simp <;> omega) _)
set_option maxHeartbeats 800000 in
theorem mulRat_any (a b c d : Int) (w : World) (ha : IsI64 a) (hb : IsI64 b) (hc : IsI64 c) (hd : IsI64 d) : Calls Try.prog 14 #[.agg #[.int .i64 a, .int .i64 b], .agg #[.int .i64 c, .int .i64 d]] w (RatRes (mulN a b c d) (mulD a b c d) (mulOk a b c d) w) := by
  have HIA := Lib.hid ha
  have HIB := Lib.hid hb
  have HIC := Lib.hid hc
  have HID := Lib.hid hd
  clear ha hb hc hd
  obtain ⟨X, hX⟩ : ∃ X, X = mulN a b c d := ⟨_, rfl⟩
  obtain ⟨Y, hY⟩ : ∃ Y, Y = mulD a b c d := ⟨_, rfl⟩
  obtain ⟨k, hk⟩ : ∃ k, k = mulOk a b c d := ⟨_, rfl⟩
  rw [← hX, ← hY, ← hk]
  have HX := Lib.hid hX
  have HY := Lib.hid hY
  have HK := Lib.hid hk
  clear hX hY hk
  obtain ⟨W0, hW0⟩ : ∃ W0, W0 = ((w.alloc (.cells #[.int .i64 a, .int .i64 b] 25)).alloc (.cells #[.int .i64 c, .int .i64 d] 25)).alloc (.cells #[.int .i64 0, .int .i64 0] 25) := ⟨_, rfl⟩
  have HR0 : Hid (PairAt W0 (w.heap.size + 1 + 1) 0 0) := Lib.hid (by rw [hW0]; have := pair_new ((w.alloc (.cells #[.int .i64 a, .int .i64 b] 25)).alloc (.cells #[.int .i64 c, .int .i64 d] 25)) 0 0 25; simpa using this)
  have HW0 : Hid (Below w.heap.size w W0) := Lib.hid (by rw [hW0]; exact below_alloc3 _ _ _ _)
  go_enter Try.func14, Try.ntmps14
  go_wp2_with fail
  rw [← hW0]
  clear hW0
  go_at_call 30
  refine (combineTimes_any a b c d _ HIA.out HIB.out HIC.out HID.out).mono ?_
  rw [← HX.out, ← HY.out, ← HK.out]
  rintro e w1 ⟨rfl, hb1⟩
  have HR1 := Lib.hid (HR0.out.below hb1)
  have HW1 := Lib.hid (below_next HW0.out hb1)
  clear hb1
  have r0 := HR1.out.c0
  have r1 := HR1.out.c1
  have rf0 := HR1.out.f0
  have rf1 := HR1.out.f1
  go_wp2
  refine bodyPost_ret (v := .tuple #[.agg #[.int .i64 X, .int .i64 Y], .bool k]) (by simp [results, Try.results14, go_sem, r0, r1]) rfl ⟨rfl, ?_⟩
  repeat (first | exact HW1.out | refine Below.setCell ?_ (by simp <;> omega) _)
end Go.Proofs.Ytecmfipedpfoaaa
