/- Fractions: the program's made fraction, its sums and its products. -/
import Derived.Test.YtecmfipedpfoaaaRatQ
namespace Go.Proofs.Ytecmfipedpfoaaa
open Go.RowKit
theorem red_cop {n d : Int} (hd : d ≠ 0) : Int.gcd (redN n d) (redD n d) = 1 := by
  have hp := Int.gcd_pos_of_ne_zero_right n hd
  have h := Int.gcd_ediv_gcd_ediv_gcd hp
  unfold redN redD sgn
  by_cases hneg : d < 0
  · rw [if_pos hneg, if_pos hneg, Int.neg_ediv_of_dvd (Int.gcd_dvd_left n d), Int.neg_ediv_of_dvd (Int.gcd_dvd_right n d), Int.neg_gcd, Int.gcd_neg]
    exact h
  · rw [if_neg hneg, if_neg hneg]
    exact h
theorem div_in {m g : Int} (hg : 0 < g) (h0 : -1000000000 ≤ m) (h1 : m ≤ 1000000000) (hd : g ∣ m) : -1000000000 ≤ m / g ∧ m / g ≤ 1000000000 := by
  obtain ⟨k, rfl⟩ := hd
  rw [Int.mul_ediv_cancel_left _ (by omega)]
  rcases Int.lt_or_le k 0 with h | h
  · have : g * k ≤ 1 * k := Int.mul_le_mul_of_nonpos_right (by omega) (by omega)
    omega
  · have : 1 * k ≤ g * k := Int.mul_le_mul_of_nonneg_right (by omega) (by omega)
    omega
theorem sgn_in {d n : Int} (h0 : -1000000000 ≤ n) (h1 : n ≤ 1000000000) : -1000000000 ≤ sgn d n ∧ sgn d n ≤ 1000000000 := by
  unfold sgn
  split <;> omega
/-- In range, and not over 0: the reduced fraction is valid. -/
theorem red_in {n d : Int} (hd : d ≠ 0) (h1 : inR n (-1000000000) 1000000000 = true) (h2 : inR d (-1000000000) 1000000000 = true) : isR (redN n d) (redD n d) = true := by
  obtain ⟨a, b⟩ := inR_true.1 h1
  obtain ⟨c, e⟩ := inR_true.1 h2
  have hg := gcd_pos (n := n) hd
  have s1 := sgn_in (d := d) a b
  have s2 := sgn_in (d := d) c e
  have b1 := div_in hg s1.1 s1.2 (sgn_dvd (Int.gcd_dvd_left n d))
  have b2 := div_in hg s2.1 s2.2 (sgn_dvd (Int.gcd_dvd_right n d))
  refine isR_true.2 ⟨b1.1, b1.2, ?_, b2.2, red_cop hd⟩
  have e2 := red_den (n := n) (d := d)
  have e3 : 0 < sgn d d := by unfold sgn; split <;> omega
  rcases Int.lt_or_le 0 (redD n d) with h | h
  · omega
  · have : redD n d * (Int.gcd n d : Int) ≤ 0 * (Int.gcd n d : Int) := Int.mul_le_mul_of_nonneg_right h (by omega)
    omega
theorem mr_made {n d : Int} (hd : d ≠ 0) (h1 : inR n (-1000000000) 1000000000 = true) (h2 : inR d (-1000000000) 1000000000 = true) : mrN n d = redN n d ∧ mrD n d = redD n d ∧ mrOk n d = true := by
  obtain ⟨e1, e2, e3⟩ := mr_yes h1 h2
  obtain ⟨f1, f2, f3⟩ := mk_true hd (red_in hd h1 h2)
  exact ⟨e1.trans f2, e2.trans f3, e3.trans f1⟩
theorem mr_zero {n d : Int} (hd : d = 0) (h1 : inR n (-1000000000) 1000000000 = true) (h2 : inR d (-1000000000) 1000000000 = true) : mrN n d = 0 ∧ mrD n d = 0 ∧ mrOk n d = false := by
  obtain ⟨e1, e2, e3⟩ := mr_yes h1 h2
  subst hd
  obtain ⟨f1, f2, f3⟩ := mk_zero n
  exact ⟨e1.trans f2, e2.trans f3, e3.trans f1⟩
set_option maxHeartbeats 1600000 in
theorem mkRat_any (n d : Int) (w : World) (_hn : IsI64 n) (_hd : IsI64 d) : Calls Try.prog 19 #[.int .i64 n, .int .i64 d] w (RatRes (mrN n d) (mrD n d) (mrOk n d) w) := by
  by_cases ok : inR n (-1000000000) 1000000000 = true ∧ inR d (-1000000000) 1000000000 = true ∧ d ≠ 0
  · obtain ⟨h1, h2, h3⟩ := ok
    have HM := Lib.hid (mr_made h3 h1 h2)
    obtain ⟨a, b⟩ := inR_true.1 h1
    obtain ⟨c, e⟩ := inR_true.1 h2
    go_enter Try.func19, Try.ntmps19
    go_wp2_with (first | (go_at_call 34; refine (inRange_any _ _ _ _).mono ?_; rintro e w' ⟨rfl, rfl⟩) | (go_at_call 40; refine (reduced_any n d _ h3 (by omega) (by omega) (by omega) (by omega)).mono ?_; rintro e w1 ⟨rfl, hb⟩; have c10 : w1.cell? ⟨w.heap.size, 0, none⟩ = some (.int .i64 0) := (hb.cell (p := ⟨w.heap.size, 0, none⟩) (by simp <;> omega)).trans (by go_simp); have c11 : w1.cell? ⟨w.heap.size, 1, none⟩ = some (.int .i64 0) := (hb.cell (p := ⟨w.heap.size, 1, none⟩) (by simp <;> omega)).trans (by go_simp); have f10 : w1.frozen? ⟨w.heap.size, 0, none⟩ = false := (hb.frozen (p := ⟨w.heap.size, 0, none⟩) (by simp <;> omega)).trans (by go_simp); have f11 : w1.frozen? ⟨w.heap.size, 1, none⟩ = false := (hb.frozen (p := ⟨w.heap.size, 1, none⟩) (by simp <;> omega)).trans (by go_simp); have HB := Lib.hid (Below.trans (show Below w.heap.size w _ by repeat (first | exact Below.refl _ _ | refine Below.alloc ?_ (by simp) _ | refine Below.drew ?_)) (hb.mono (by simp <;> omega))); clear hb))
    refine bodyPost_ret (v := .tuple #[.agg #[.int .i64 (redN n d), .int .i64 (redD n d)], .bool true]) (by simp [results, Try.results19, go_sem, c10, c11]) rfl ⟨by rw [HM.out.1, HM.out.2.1, HM.out.2.2], ?_⟩
    repeat (first | exact HB.out | refine Below.setCell ?_ (by simp) _)
  · have HM : Hid (mrN n d = 0 ∧ mrD n d = 0 ∧ mrOk n d = false) := Lib.hid (by
      cases h1 : inR n (-1000000000) 1000000000
      · exact mr_none (by rw [h1]; rfl)
      · cases h2 : inR d (-1000000000) 1000000000
        · exact mr_none (by rw [h1, h2]; rfl)
        · exact mr_zero (by rcases Classical.em (d = 0) with h | h; exact h; exact absurd ⟨h1, h2, h⟩ ok) h1 h2)
    have HO := Lib.hid ok
    clear ok
    cases h1 : inR n (-1000000000) 1000000000
    · go_enter Try.func19, Try.ntmps19
      go_wp2_with (go_at_call 34; refine (inRange_any _ _ _ _).mono ?_; rintro e w' ⟨rfl, rfl⟩)
      refine bodyPost_ret (v := .tuple #[.agg #[.int .i64 0, .int .i64 0], .bool false]) (by simp [results, Try.results19, go_sem]) rfl ⟨by rw [HM.out.1, HM.out.2.1, HM.out.2.2], ?_⟩
      repeat (first | exact Below.refl _ _ | refine Below.alloc ?_ (by simp) _ | refine Below.setCell ?_ (by simp) _)
    · cases h2 : inR d (-1000000000) 1000000000
      · go_enter Try.func19, Try.ntmps19
        go_wp2_with (go_at_call 34; refine (inRange_any _ _ _ _).mono ?_; rintro e w' ⟨rfl, rfl⟩)
        refine bodyPost_ret (v := .tuple #[.agg #[.int .i64 0, .int .i64 0], .bool false]) (by simp [results, Try.results19, go_sem]) rfl ⟨by rw [HM.out.1, HM.out.2.1, HM.out.2.2], ?_⟩
        repeat (first | exact Below.refl _ _ | refine Below.alloc ?_ (by simp) _ | refine Below.setCell ?_ (by simp) _)
      · have h3 : d = 0 := by rcases Classical.em (d = 0) with h | h; exact h; exact absurd ⟨h1, h2, h⟩ HO.out
        clear HO
        subst h3
        go_enter Try.func19, Try.ntmps19
        go_wp2_with (go_at_call 34; refine (inRange_any _ _ _ _).mono ?_; rintro e w' ⟨rfl, rfl⟩)
        refine bodyPost_ret (v := .tuple #[.agg #[.int .i64 0, .int .i64 0], .bool false]) (by simp [results, Try.results19, go_sem]) rfl ⟨by rw [HM.out.1, HM.out.2.1, HM.out.2.2], ?_⟩
        repeat (first | exact Below.refl _ _ | refine Below.alloc ?_ (by simp) _ | refine Below.setCell ?_ (by simp) _)
/-! ### Sums and products -/
set_option maxHeartbeats 800000 in
theorem plus_any (a b c d : Int) (w : World) (h1 : isR a b = true) (h2 : isR c d = true) : Calls Try.prog 31 #[.agg #[.int .i64 a, .int .i64 b], .agg #[.int .i64 c, .int .i64 d]] w (RatV (a * d + c * b) (b * d) w) := by
  obtain ⟨a0, a1, b0, b1⟩ := isR_bd h1
  obtain ⟨c0, c1, d0, d1⟩ := isR_bd h2
  obtain ⟨p0, q0⟩ := mul_bd (x := a) (y := d) (by omega) (by omega) (by omega) (by omega)
  obtain ⟨p1, q1⟩ := mul_bd (x := c) (y := b) (by omega) (by omega) (by omega) (by omega)
  obtain ⟨p2, q2⟩ := mul_bd (x := b) (y := d) (by omega) (by omega) (by omega) (by omega)
  clear h1 h2
  go_enter Try.func31, Try.ntmps31
  go_wp2
  refine bodyPost_ret (v := .agg #[.int .i64 (a * d + c * b), .int .i64 (b * d)]) (by simp [results, Try.results31, go_sem]) rfl ⟨rfl, ?_⟩
  repeat (first | exact Below.refl _ _ | refine Below.alloc ?_ (by simp <;> omega) _ | refine Below.setCell ?_ (by simp <;> omega) _)
set_option maxHeartbeats 800000 in
theorem times_any (a b c d : Int) (w : World) (h1 : isR a b = true) (h2 : isR c d = true) : Calls Try.prog 33 #[.agg #[.int .i64 a, .int .i64 b], .agg #[.int .i64 c, .int .i64 d]] w (RatV (a * c) (b * d) w) := by
  obtain ⟨a0, a1, b0, b1⟩ := isR_bd h1
  obtain ⟨c0, c1, d0, d1⟩ := isR_bd h2
  obtain ⟨p1, q1⟩ := mul_bd (x := a) (y := c) (by omega) (by omega) (by omega) (by omega)
  obtain ⟨p2, q2⟩ := mul_bd (x := b) (y := d) (by omega) (by omega) (by omega) (by omega)
  clear h1 h2
  go_enter Try.func33, Try.ntmps33
  go_wp2
  refine bodyPost_ret (v := .agg #[.int .i64 (a * c), .int .i64 (b * d)]) (by simp [results, Try.results33, go_sem]) rfl ⟨rfl, ?_⟩
  repeat (first | exact Below.refl _ _ | refine Below.alloc ?_ (by simp <;> omega) _ | refine Below.setCell ?_ (by simp <;> omega) _)
end Go.Proofs.Ytecmfipedpfoaaa
