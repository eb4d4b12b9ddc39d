/- Fractions: the program's made fraction, opposite and comparison. -/
import Derived.Test.YtecmfipedpfoaaaRatP
namespace Go.Proofs.Ytecmfipedpfoaaa
open Go.RowKit
set_option maxHeartbeats 800000 in
theorem negRat_any (a b : Int) (w : World) (ha : IsI64 a) (hb : IsI64 b) : Calls Try.prog 26 #[.agg #[.int .i64 a, .int .i64 b]] w (RatV (negN a b) (negD a b) w) := by
  have HIA := Lib.hid ha
  have HIB := Lib.hid hb
  clear ha hb
  cases hv : isR a b
  · have HN := Lib.hid (neg_none hv)
    go_enter Try.func26, Try.ntmps26
    go_wp2_with fail
    go_at_call 15
    refine (isRat_any a b _ HIA.out HIB.out).mono ?_
    rintro e w1 ⟨rfl, hb1⟩
    have c_w1_00 : w1.cell? ⟨w.heap.size, 0, none⟩ = some (.int .i64 a) := (hb1.cell (p := ⟨w.heap.size, 0, none⟩) (by simp <;> omega)).trans (by go_simp)
    have c_w1_01 : w1.cell? ⟨w.heap.size, 1, none⟩ = some (.int .i64 b) := (hb1.cell (p := ⟨w.heap.size, 1, none⟩) (by simp <;> omega)).trans (by go_simp)
    have c_w1_10 : w1.cell? ⟨w.heap.size + 1, 0, none⟩ = some (.int .i64 0) := (hb1.cell (p := ⟨w.heap.size + 1, 0, none⟩) (by simp <;> omega)).trans (by go_simp)
    have f_w1_10 : w1.frozen? ⟨w.heap.size + 1, 0, none⟩ = false := (hb1.frozen (p := ⟨w.heap.size + 1, 0, none⟩) (by simp <;> omega)).trans (by go_simp)
    have c_w1_11 : w1.cell? ⟨w.heap.size + 1, 1, none⟩ = some (.int .i64 0) := (hb1.cell (p := ⟨w.heap.size + 1, 1, none⟩) (by simp <;> omega)).trans (by go_simp)
    have f_w1_11 : w1.frozen? ⟨w.heap.size + 1, 1, none⟩ = false := (hb1.frozen (p := ⟨w.heap.size + 1, 1, none⟩) (by simp <;> omega)).trans (by go_simp)
    have HB1 := Lib.hid (Below.trans (show Below w.heap.size w _ by repeat (first | exact Below.refl _ _ | refine Below.alloc ?_ (by simp <;> omega) _ | refine Below.drew ?_)) (hb1.mono (by simp <;> omega)))
    clear hb1
    go_wp2
    refine bodyPost_ret (v := .agg #[.int .i64 0, .int .i64 0]) (by simp [results, Try.results26, go_sem, c_w1_10, c_w1_11]) rfl ⟨by rw [HN.out.1, HN.out.2], ?_⟩
    repeat (first | exact HB1.out | refine Below.setCell ?_ (by simp <;> omega) _)
  · have HN := Lib.hid (neg_yes hv)
    obtain ⟨a0, a1, b0, b1⟩ := isR_bd hv
    go_enter Try.func26, Try.ntmps26
    go_wp2_with fail
    go_at_call 15
    refine (isRat_any a b _ HIA.out HIB.out).mono ?_
    rintro e w1 ⟨rfl, hb1⟩
    have c_w1_00 : w1.cell? ⟨w.heap.size, 0, none⟩ = some (.int .i64 a) := (hb1.cell (p := ⟨w.heap.size, 0, none⟩) (by simp <;> omega)).trans (by go_simp)
    have c_w1_01 : w1.cell? ⟨w.heap.size, 1, none⟩ = some (.int .i64 b) := (hb1.cell (p := ⟨w.heap.size, 1, none⟩) (by simp <;> omega)).trans (by go_simp)
    have c_w1_10 : w1.cell? ⟨w.heap.size + 1, 0, none⟩ = some (.int .i64 0) := (hb1.cell (p := ⟨w.heap.size + 1, 0, none⟩) (by simp <;> omega)).trans (by go_simp)
    have f_w1_10 : w1.frozen? ⟨w.heap.size + 1, 0, none⟩ = false := (hb1.frozen (p := ⟨w.heap.size + 1, 0, none⟩) (by simp <;> omega)).trans (by go_simp)
    have c_w1_11 : w1.cell? ⟨w.heap.size + 1, 1, none⟩ = some (.int .i64 0) := (hb1.cell (p := ⟨w.heap.size + 1, 1, none⟩) (by simp <;> omega)).trans (by go_simp)
    have f_w1_11 : w1.frozen? ⟨w.heap.size + 1, 1, none⟩ = false := (hb1.frozen (p := ⟨w.heap.size + 1, 1, none⟩) (by simp <;> omega)).trans (by go_simp)
    have HB1 := Lib.hid (Below.trans (show Below w.heap.size w _ by repeat (first | exact Below.refl _ _ | refine Below.alloc ?_ (by simp <;> omega) _ | refine Below.drew ?_)) (hb1.mono (by simp <;> omega)))
    clear hb1
    go_wp2
    refine bodyPost_ret (v := .agg #[.int .i64 (-a), .int .i64 b]) (by simp [results, Try.results26, go_sem, c_w1_10, c_w1_11]) rfl ⟨by rw [HN.out.1, HN.out.2], ?_⟩
    repeat (first | exact HB1.out | refine Below.setCell ?_ (by simp <;> omega) _)
/-! ### Comparison -/
theorem isNaN_any (x : Int) (w : World) : Calls Try.prog 44 #[.int .i64 x] w fun e w' => e = .returned (.bool false) ∧ w = w' := by
  go_enter Try.func44, Try.ntmps44
  go_wp2
  go_ret
  exact ⟨rfl, rfl⟩
theorem cmpInt_any (x y : Int) (w : World) : Calls Try.prog 36 #[.int .i64 x, .int .i64 y] w fun e w' => e = .returned (.int .i64 (if x < y then -1 else if y < x then 1 else 0)) ∧ w = w' := by
  by_cases l1 : x < y
  · go_enter Try.func36, Try.ntmps36
    go_wp2_with (go_at_call 44; refine (isNaN_any _ _).mono ?_; rintro e w' ⟨rfl, rfl⟩)
    go_ret
    first | exact ⟨rfl, rfl⟩ | exact ⟨ret_int (by rw [if_pos (by omega)]), rfl⟩
  · by_cases l2 : y < x
    · go_enter Try.func36, Try.ntmps36
      go_wp2_with (go_at_call 44; refine (isNaN_any _ _).mono ?_; rintro e w' ⟨rfl, rfl⟩)
      go_ret
      first | exact ⟨rfl, rfl⟩ | exact ⟨ret_int (by rw [if_pos (by omega)]), rfl⟩ | exact ⟨ret_int (by rw [if_neg (by omega), if_pos (by omega)]), rfl⟩
    · go_enter Try.func36, Try.ntmps36
      go_wp2_with (go_at_call 44; refine (isNaN_any _ _).mono ?_; rintro e w' ⟨rfl, rfl⟩)
      go_ret
      first | exact ⟨rfl, rfl⟩ | exact ⟨ret_int (by rw [if_neg (by omega)]), rfl⟩ | exact ⟨ret_int (by rw [if_neg (by omega), if_neg (by omega)]), rfl⟩
theorem cmpIntV_any (x y v : Int) (w : World) (hv : v = if x < y then -1 else if y < x then 1 else 0) : Calls Try.prog 36 #[.int .i64 x, .int .i64 y] w fun e w' => e = .returned (.int .i64 v) ∧ w = w' :=
  hv ▸ cmpInt_any x y w
set_option maxHeartbeats 1600000 in
theorem cmpRat_any (a b c d : Int) (w : World) (ha : IsI64 a) (hb : IsI64 b) (hc : IsI64 c) (hd : IsI64 d) : Calls Try.prog 17 #[.agg #[.int .i64 a, .int .i64 b], .agg #[.int .i64 c, .int .i64 d]] w fun e w' => e = .returned (.int .i64 (cmpV a b c d)) ∧ Below w.heap.size w w' := by
  have HIA := Lib.hid ha
  have HIB := Lib.hid hb
  have HIC := Lib.hid hc
  have HID := Lib.hid hd
  clear ha hb hc hd
  cases hv1 : isR a b
  · have HN := Lib.hid (cmp_none (a := a) (b := b) (c := c) (d := d) (by simp [hv1]))
    go_enter Try.func17, Try.ntmps17
    go_wp2_with fail
    go_at_call 15
    refine (isRat_any a b _ HIA.out HIB.out).mono ?_
    rintro e w1 ⟨rfl, hb1⟩
    have c_w1_00 : w1.cell? ⟨w.heap.size, 0, none⟩ = some (.int .i64 a) := (hb1.cell (p := ⟨w.heap.size, 0, none⟩) (by simp <;> omega)).trans (by go_simp)
    have c_w1_01 : w1.cell? ⟨w.heap.size, 1, none⟩ = some (.int .i64 b) := (hb1.cell (p := ⟨w.heap.size, 1, none⟩) (by simp <;> omega)).trans (by go_simp)
    have c_w1_10 : w1.cell? ⟨w.heap.size + 1, 0, none⟩ = some (.int .i64 c) := (hb1.cell (p := ⟨w.heap.size + 1, 0, none⟩) (by simp <;> omega)).trans (by go_simp)
    have c_w1_11 : w1.cell? ⟨w.heap.size + 1, 1, none⟩ = some (.int .i64 d) := (hb1.cell (p := ⟨w.heap.size + 1, 1, none⟩) (by simp <;> omega)).trans (by go_simp)
    have hz1 : w.heap.size + 1 < w1.heap.size := by have := hb1.size; simp at this; omega
    have HB1 := Lib.hid (Below.trans (show Below w.heap.size w _ by repeat (first | exact Below.refl _ _ | refine Below.alloc ?_ (by simp <;> omega) _ | refine Below.drew ?_)) (hb1.mono (by simp <;> omega)))
    clear hb1
    go_wp2
    go_ret
    exact ⟨ret_int HN.out.symm, HB1.out⟩
  · cases hv2 : isR c d
    · have HN := Lib.hid (cmp_none (a := a) (b := b) (c := c) (d := d) (by simp [hv2]))
      go_enter Try.func17, Try.ntmps17
      go_wp2_with fail
      go_at_call 15
      refine (isRat_any a b _ HIA.out HIB.out).mono ?_
      rintro e w1 ⟨rfl, hb1⟩
      have c_w1_00 : w1.cell? ⟨w.heap.size, 0, none⟩ = some (.int .i64 a) := (hb1.cell (p := ⟨w.heap.size, 0, none⟩) (by simp <;> omega)).trans (by go_simp)
      have c_w1_01 : w1.cell? ⟨w.heap.size, 1, none⟩ = some (.int .i64 b) := (hb1.cell (p := ⟨w.heap.size, 1, none⟩) (by simp <;> omega)).trans (by go_simp)
      have c_w1_10 : w1.cell? ⟨w.heap.size + 1, 0, none⟩ = some (.int .i64 c) := (hb1.cell (p := ⟨w.heap.size + 1, 0, none⟩) (by simp <;> omega)).trans (by go_simp)
      have c_w1_11 : w1.cell? ⟨w.heap.size + 1, 1, none⟩ = some (.int .i64 d) := (hb1.cell (p := ⟨w.heap.size + 1, 1, none⟩) (by simp <;> omega)).trans (by go_simp)
      have hz1 : w.heap.size + 1 < w1.heap.size := by have := hb1.size; simp at this; omega
      have HB1 := Lib.hid (Below.trans (show Below w.heap.size w _ by repeat (first | exact Below.refl _ _ | refine Below.alloc ?_ (by simp <;> omega) _ | refine Below.drew ?_)) (hb1.mono (by simp <;> omega)))
      clear hb1
      go_wp2_with fail
      go_at_call 15
      refine (isRat_any c d _ HIC.out HID.out).mono ?_
      rintro e w2 ⟨rfl, hb2⟩
      have c_w2_00 : w2.cell? ⟨w.heap.size, 0, none⟩ = some (.int .i64 a) := (hb2.cell (p := ⟨w.heap.size, 0, none⟩) (by dsimp only; omega)).trans c_w1_00
      have c_w2_01 : w2.cell? ⟨w.heap.size, 1, none⟩ = some (.int .i64 b) := (hb2.cell (p := ⟨w.heap.size, 1, none⟩) (by dsimp only; omega)).trans c_w1_01
      have c_w2_10 : w2.cell? ⟨w.heap.size + 1, 0, none⟩ = some (.int .i64 c) := (hb2.cell (p := ⟨w.heap.size + 1, 0, none⟩) (by dsimp only; omega)).trans c_w1_10
      have c_w2_11 : w2.cell? ⟨w.heap.size + 1, 1, none⟩ = some (.int .i64 d) := (hb2.cell (p := ⟨w.heap.size + 1, 1, none⟩) (by dsimp only; omega)).trans c_w1_11
      have HB2 := Lib.hid (HB1.out.trans (hb2.mono (by omega)))
      clear hb2
      go_wp2
      go_ret
      exact ⟨ret_int HN.out.symm, HB2.out⟩
    · have HV := Lib.hid (cmp_yes hv1 hv2)
      obtain ⟨k, hk⟩ : ∃ k, k = cmpV a b c d := ⟨_, rfl⟩
      rw [← hk]
      have HK := Lib.hid (hk.trans HV.out)
      clear hk
      obtain ⟨a0, a1, b0, b1⟩ := isR_bd hv1
      obtain ⟨c0, c1, d0, d1⟩ := isR_bd hv2
      obtain ⟨p0, q0⟩ := mul_bd (x := a) (y := d) (by omega) (by omega) (by omega) (by omega)
      obtain ⟨p1, q1⟩ := mul_bd (x := c) (y := b) (by omega) (by omega) (by omega) (by omega)
      go_enter Try.func17, Try.ntmps17
      go_wp2_with fail
      go_at_call 15
      refine (isRat_any a b _ HIA.out HIB.out).mono ?_
      rintro e w1 ⟨rfl, hb1⟩
      have c_w1_00 : w1.cell? ⟨w.heap.size, 0, none⟩ = some (.int .i64 a) := (hb1.cell (p := ⟨w.heap.size, 0, none⟩) (by simp <;> omega)).trans (by go_simp)
      have c_w1_01 : w1.cell? ⟨w.heap.size, 1, none⟩ = some (.int .i64 b) := (hb1.cell (p := ⟨w.heap.size, 1, none⟩) (by simp <;> omega)).trans (by go_simp)
      have c_w1_10 : w1.cell? ⟨w.heap.size + 1, 0, none⟩ = some (.int .i64 c) := (hb1.cell (p := ⟨w.heap.size + 1, 0, none⟩) (by simp <;> omega)).trans (by go_simp)
      have c_w1_11 : w1.cell? ⟨w.heap.size + 1, 1, none⟩ = some (.int .i64 d) := (hb1.cell (p := ⟨w.heap.size + 1, 1, none⟩) (by simp <;> omega)).trans (by go_simp)
      have hz1 : w.heap.size + 1 < w1.heap.size := by have := hb1.size; simp at this; omega
      have HB1 := Lib.hid (Below.trans (show Below w.heap.size w _ by repeat (first | exact Below.refl _ _ | refine Below.alloc ?_ (by simp <;> omega) _ | refine Below.drew ?_)) (hb1.mono (by simp <;> omega)))
      clear hb1
      go_wp2_with fail
      go_at_call 15
      refine (isRat_any c d _ HIC.out HID.out).mono ?_
      rintro e w2 ⟨rfl, hb2⟩
      have c_w2_00 : w2.cell? ⟨w.heap.size, 0, none⟩ = some (.int .i64 a) := (hb2.cell (p := ⟨w.heap.size, 0, none⟩) (by dsimp only; omega)).trans c_w1_00
      have c_w2_01 : w2.cell? ⟨w.heap.size, 1, none⟩ = some (.int .i64 b) := (hb2.cell (p := ⟨w.heap.size, 1, none⟩) (by dsimp only; omega)).trans c_w1_01
      have c_w2_10 : w2.cell? ⟨w.heap.size + 1, 0, none⟩ = some (.int .i64 c) := (hb2.cell (p := ⟨w.heap.size + 1, 0, none⟩) (by dsimp only; omega)).trans c_w1_10
      have c_w2_11 : w2.cell? ⟨w.heap.size + 1, 1, none⟩ = some (.int .i64 d) := (hb2.cell (p := ⟨w.heap.size + 1, 1, none⟩) (by dsimp only; omega)).trans c_w1_11
      have HB2 := Lib.hid (HB1.out.trans (hb2.mono (by omega)))
      clear hb2
      go_wp2_with fail
      go_at_call 36
      refine (cmpIntV_any _ _ k _ HK.out).mono ?_
      rintro e w3 ⟨rfl, rfl⟩
      go_wp2
      go_ret
      exact ⟨rfl, HB2.out⟩
end Go.Proofs.Ytecmfipedpfoaaa
