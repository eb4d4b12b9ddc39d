/- Fractions: the model's opposites, comparisons and made fractions; what the laws do to a fraction. -/
import Derived.Test.YtecmfipedpfoaaaRatA
namespace Go.Proofs.Ytecmfipedpfoaaa
open Go.RowKit
/-- A fraction. -/
def RatV (x y : Int) (w : World) (e : Ending) (w' : World) : Prop := e = .returned (.agg #[.int .i64 x, .int .i64 y]) ∧ Below w.heap.size w w'
theorem neg_yes {a b : Int} (h : isR a b = true) : negN a b = -a ∧ negD a b = b := by
  have v := isR_true.1 h
  unfold negN negD
  rw [if_pos v, if_pos v]
  exact ⟨rfl, rfl⟩
theorem neg_none {a b : Int} (h : isR a b = false) : negN a b = 0 ∧ negD a b = 0 := by
  have v := isR_false.1 h
  unfold negN negD
  rw [if_neg v, if_neg v]
  exact ⟨rfl, rfl⟩
theorem cmp_yes {a b c d : Int} (h1 : isR a b = true) (h2 : isR c d = true) : cmpV a b c d = if a * d < c * b then -1 else if c * b < a * d then 1 else 0 := by
  unfold cmpV
  rw [if_pos ⟨isR_true.1 h1, isR_true.1 h2⟩]
theorem cmp_none {a b c d : Int} (h : ¬ (isR a b = true ∧ isR c d = true)) : cmpV a b c d = 0 := by
  unfold cmpV
  rw [if_neg fun x => h ⟨isR_true.2 x.1, isR_true.2 x.2⟩]
set_option maxHeartbeats 800000 in
theorem specNeg_any (a b : Int) (w : World) : Calls Try.prog 25 #[.agg #[.int .i64 a, .int .i64 b]] w (RatV (negN a b) (negD a b) w) := by
  cases hv : isR a b
  · have HN := Lib.hid (neg_none hv)
    go_enter Try.func25, Try.ntmps25
    go_wp2_with fail
    go_at_call 20
    refine (specIsR_any a b _).mono ?_
    rintro e w1 ⟨rfl, hb1⟩
    have c_w1_00 : w1.cell? ⟨w.heap.size, 0, none⟩ = some (.int .i64 a) := (hb1.cell (p := ⟨w.heap.size, 0, none⟩) (by simp <;> omega)).trans (by go_simp)
    have c_w1_01 : w1.cell? ⟨w.heap.size, 1, none⟩ = some (.int .i64 b) := (hb1.cell (p := ⟨w.heap.size, 1, none⟩) (by simp <;> omega)).trans (by go_simp)
    have c_w1_10 : w1.cell? ⟨w.heap.size + 1, 0, none⟩ = some (.int .i64 0) := (hb1.cell (p := ⟨w.heap.size + 1, 0, none⟩) (by simp <;> omega)).trans (by go_simp)
    have f_w1_10 : w1.frozen? ⟨w.heap.size + 1, 0, none⟩ = false := (hb1.frozen (p := ⟨w.heap.size + 1, 0, none⟩) (by simp <;> omega)).trans (by go_simp)
    have c_w1_11 : w1.cell? ⟨w.heap.size + 1, 1, none⟩ = some (.int .i64 0) := (hb1.cell (p := ⟨w.heap.size + 1, 1, none⟩) (by simp <;> omega)).trans (by go_simp)
    have f_w1_11 : w1.frozen? ⟨w.heap.size + 1, 1, none⟩ = false := (hb1.frozen (p := ⟨w.heap.size + 1, 1, none⟩) (by simp <;> omega)).trans (by go_simp)
    have HB1 := Lib.hid (Below.trans (show Below w.heap.size w _ by repeat (first | exact Below.refl _ _ | refine Below.alloc ?_ (by simp <;> omega) _ | refine Below.drew ?_)) (hb1.mono (by simp <;> omega)))
    clear hb1
    go_wp2
    refine bodyPost_ret (v := .agg #[.int .i64 0, .int .i64 0]) (by simp [results, Try.results25, go_sem, c_w1_10, c_w1_11]) rfl ⟨by rw [HN.out.1, HN.out.2], ?_⟩
    repeat (first | exact HB1.out | refine Below.setCell ?_ (by simp <;> omega) _)
  · have HN := Lib.hid (neg_yes hv)
    obtain ⟨a0, a1, b0, b1⟩ := isR_bd hv
    go_enter Try.func25, Try.ntmps25
    go_wp2_with fail
    go_at_call 20
    refine (specIsR_any a b _).mono ?_
    rintro e w1 ⟨rfl, hb1⟩
    have c_w1_00 : w1.cell? ⟨w.heap.size, 0, none⟩ = some (.int .i64 a) := (hb1.cell (p := ⟨w.heap.size, 0, none⟩) (by simp <;> omega)).trans (by go_simp)
    have c_w1_01 : w1.cell? ⟨w.heap.size, 1, none⟩ = some (.int .i64 b) := (hb1.cell (p := ⟨w.heap.size, 1, none⟩) (by simp <;> omega)).trans (by go_simp)
    have c_w1_10 : w1.cell? ⟨w.heap.size + 1, 0, none⟩ = some (.int .i64 0) := (hb1.cell (p := ⟨w.heap.size + 1, 0, none⟩) (by simp <;> omega)).trans (by go_simp)
    have f_w1_10 : w1.frozen? ⟨w.heap.size + 1, 0, none⟩ = false := (hb1.frozen (p := ⟨w.heap.size + 1, 0, none⟩) (by simp <;> omega)).trans (by go_simp)
    have c_w1_11 : w1.cell? ⟨w.heap.size + 1, 1, none⟩ = some (.int .i64 0) := (hb1.cell (p := ⟨w.heap.size + 1, 1, none⟩) (by simp <;> omega)).trans (by go_simp)
    have f_w1_11 : w1.frozen? ⟨w.heap.size + 1, 1, none⟩ = false := (hb1.frozen (p := ⟨w.heap.size + 1, 1, none⟩) (by simp <;> omega)).trans (by go_simp)
    have HB1 := Lib.hid (Below.trans (show Below w.heap.size w _ by repeat (first | exact Below.refl _ _ | refine Below.alloc ?_ (by simp <;> omega) _ | refine Below.drew ?_)) (hb1.mono (by simp <;> omega)))
    clear hb1
    go_wp2
    refine bodyPost_ret (v := .agg #[.int .i64 (-a), .int .i64 b]) (by simp [results, Try.results25, go_sem, c_w1_10, c_w1_11]) rfl ⟨by rw [HN.out.1, HN.out.2], ?_⟩
    repeat (first | exact HB1.out | refine Below.setCell ?_ (by simp <;> omega) _)
set_option maxHeartbeats 1600000 in
theorem specCmp_any (a b c d : Int) (w : World) : Calls Try.prog 27 #[.agg #[.int .i64 a, .int .i64 b], .agg #[.int .i64 c, .int .i64 d]] w fun e w' => e = .returned (.int .i64 (cmpV a b c d)) ∧ Below w.heap.size w w' := by
  cases hv1 : isR a b
  · have HN := Lib.hid (cmp_none (a := a) (b := b) (c := c) (d := d) (by simp [hv1]))
    go_enter Try.func27, Try.ntmps27
    go_wp2_with fail
    go_at_call 20
    refine (specIsR_any a b _).mono ?_
    rintro e w1 ⟨rfl, hb1⟩
    have c_w1_00 : w1.cell? ⟨w.heap.size, 0, none⟩ = some (.int .i64 a) := (hb1.cell (p := ⟨w.heap.size, 0, none⟩) (by simp <;> omega)).trans (by go_simp)
    have c_w1_01 : w1.cell? ⟨w.heap.size, 1, none⟩ = some (.int .i64 b) := (hb1.cell (p := ⟨w.heap.size, 1, none⟩) (by simp <;> omega)).trans (by go_simp)
    have c_w1_10 : w1.cell? ⟨w.heap.size + 1, 0, none⟩ = some (.int .i64 c) := (hb1.cell (p := ⟨w.heap.size + 1, 0, none⟩) (by simp <;> omega)).trans (by go_simp)
    have c_w1_11 : w1.cell? ⟨w.heap.size + 1, 1, none⟩ = some (.int .i64 d) := (hb1.cell (p := ⟨w.heap.size + 1, 1, none⟩) (by simp <;> omega)).trans (by go_simp)
    have hz1 : w.heap.size + 1 < w1.heap.size := by have := hb1.size; simp at this; omega
    have HB1 := Lib.hid (Below.trans (show Below w.heap.size w _ by repeat (first | exact Below.refl _ _ | refine Below.alloc ?_ (by simp <;> omega) _ | refine Below.drew ?_)) (hb1.mono (by simp <;> omega)))
    clear hb1
    go_wp2
    go_ret
    exact ⟨ret_int HN.out.symm, HB1.out⟩
  · cases hv2 : isR c d
    · have HN := Lib.hid (cmp_none (a := a) (b := b) (c := c) (d := d) (by simp [hv2]))
      go_enter Try.func27, Try.ntmps27
      go_wp2_with fail
      go_at_call 20
      refine (specIsR_any a b _).mono ?_
      rintro e w1 ⟨rfl, hb1⟩
      have c_w1_00 : w1.cell? ⟨w.heap.size, 0, none⟩ = some (.int .i64 a) := (hb1.cell (p := ⟨w.heap.size, 0, none⟩) (by simp <;> omega)).trans (by go_simp)
      have c_w1_01 : w1.cell? ⟨w.heap.size, 1, none⟩ = some (.int .i64 b) := (hb1.cell (p := ⟨w.heap.size, 1, none⟩) (by simp <;> omega)).trans (by go_simp)
      have c_w1_10 : w1.cell? ⟨w.heap.size + 1, 0, none⟩ = some (.int .i64 c) := (hb1.cell (p := ⟨w.heap.size + 1, 0, none⟩) (by simp <;> omega)).trans (by go_simp)
      have c_w1_11 : w1.cell? ⟨w.heap.size + 1, 1, none⟩ = some (.int .i64 d) := (hb1.cell (p := ⟨w.heap.size + 1, 1, none⟩) (by simp <;> omega)).trans (by go_simp)
      have hz1 : w.heap.size + 1 < w1.heap.size := by have := hb1.size; simp at this; omega
      have HB1 := Lib.hid (Below.trans (show Below w.heap.size w _ by repeat (first | exact Below.refl _ _ | refine Below.alloc ?_ (by simp <;> omega) _ | refine Below.drew ?_)) (hb1.mono (by simp <;> omega)))
      clear hb1
      go_wp2_with fail
      go_at_call 20
      refine (specIsR_any c d _).mono ?_
      rintro e w2 ⟨rfl, hb2⟩
      have c_w2_00 : w2.cell? ⟨w.heap.size, 0, none⟩ = some (.int .i64 a) := (hb2.cell (p := ⟨w.heap.size, 0, none⟩) (by dsimp only; omega)).trans c_w1_00
      have c_w2_01 : w2.cell? ⟨w.heap.size, 1, none⟩ = some (.int .i64 b) := (hb2.cell (p := ⟨w.heap.size, 1, none⟩) (by dsimp only; omega)).trans c_w1_01
      have c_w2_10 : w2.cell? ⟨w.heap.size + 1, 0, none⟩ = some (.int .i64 c) := (hb2.cell (p := ⟨w.heap.size + 1, 0, none⟩) (by dsimp only; omega)).trans c_w1_10
      have c_w2_11 : w2.cell? ⟨w.heap.size + 1, 1, none⟩ = some (.int .i64 d) := (hb2.cell (p := ⟨w.heap.size + 1, 1, none⟩) (by dsimp only; omega)).trans c_w1_11
      have HB2 := Lib.hid (HB1.out.trans (hb2.mono (by omega)))
      clear hb2
      go_wp2
      go_ret
      exact ⟨ret_int HN.out.symm, HB2.out⟩
    · have HV := Lib.hid (cmp_yes hv1 hv2)
      obtain ⟨a0, a1, b0, b1⟩ := isR_bd hv1
      obtain ⟨c0, c1, d0, d1⟩ := isR_bd hv2
      obtain ⟨p0, q0⟩ := mul_bd (x := a) (y := d) (by omega) (by omega) (by omega) (by omega)
      obtain ⟨p1, q1⟩ := mul_bd (x := c) (y := b) (by omega) (by omega) (by omega) (by omega)
      go_enter Try.func27, Try.ntmps27
      go_wp2_with fail
      go_at_call 20
      refine (specIsR_any a b _).mono ?_
      rintro e w1 ⟨rfl, hb1⟩
      have c_w1_00 : w1.cell? ⟨w.heap.size, 0, none⟩ = some (.int .i64 a) := (hb1.cell (p := ⟨w.heap.size, 0, none⟩) (by simp <;> omega)).trans (by go_simp)
      have c_w1_01 : w1.cell? ⟨w.heap.size, 1, none⟩ = some (.int .i64 b) := (hb1.cell (p := ⟨w.heap.size, 1, none⟩) (by simp <;> omega)).trans (by go_simp)
      have c_w1_10 : w1.cell? ⟨w.heap.size + 1, 0, none⟩ = some (.int .i64 c) := (hb1.cell (p := ⟨w.heap.size + 1, 0, none⟩) (by simp <;> omega)).trans (by go_simp)
      have c_w1_11 : w1.cell? ⟨w.heap.size + 1, 1, none⟩ = some (.int .i64 d) := (hb1.cell (p := ⟨w.heap.size + 1, 1, none⟩) (by simp <;> omega)).trans (by go_simp)
      have hz1 : w.heap.size + 1 < w1.heap.size := by have := hb1.size; simp at this; omega
      have HB1 := Lib.hid (Below.trans (show Below w.heap.size w _ by repeat (first | exact Below.refl _ _ | refine Below.alloc ?_ (by simp <;> omega) _ | refine Below.drew ?_)) (hb1.mono (by simp <;> omega)))
      clear hb1
      go_wp2_with fail
      go_at_call 20
      refine (specIsR_any c d _).mono ?_
      rintro e w2 ⟨rfl, hb2⟩
      have c_w2_00 : w2.cell? ⟨w.heap.size, 0, none⟩ = some (.int .i64 a) := (hb2.cell (p := ⟨w.heap.size, 0, none⟩) (by dsimp only; omega)).trans c_w1_00
      have c_w2_01 : w2.cell? ⟨w.heap.size, 1, none⟩ = some (.int .i64 b) := (hb2.cell (p := ⟨w.heap.size, 1, none⟩) (by dsimp only; omega)).trans c_w1_01
      have c_w2_10 : w2.cell? ⟨w.heap.size + 1, 0, none⟩ = some (.int .i64 c) := (hb2.cell (p := ⟨w.heap.size + 1, 0, none⟩) (by dsimp only; omega)).trans c_w1_10
      have c_w2_11 : w2.cell? ⟨w.heap.size + 1, 1, none⟩ = some (.int .i64 d) := (hb2.cell (p := ⟨w.heap.size + 1, 1, none⟩) (by dsimp only; omega)).trans c_w1_11
      have HB2 := Lib.hid (HB1.out.trans (hb2.mono (by omega)))
      clear hb2
      by_cases l1 : a * d < c * b
      · go_wp2
        go_ret
        exact ⟨ret_int (by rw [HV.out, if_pos l1]), HB2.out⟩
      · by_cases l2 : c * b < a * d
        · go_wp2
          go_ret
          exact ⟨ret_int (by rw [HV.out, if_neg (by omega), if_pos l2]), HB2.out⟩
        · go_wp2
          go_ret
          exact ⟨ret_int (by rw [HV.out, if_neg (by omega), if_neg (by omega)]), HB2.out⟩
def mrOk (n d : Int) : Bool := inR n (-1000000000) 1000000000 && (inR d (-1000000000) 1000000000 && mkOk n d)
def mrN (n d : Int) : Int := if inR n (-1000000000) 1000000000 && inR d (-1000000000) 1000000000 then mkN n d else 0
def mrD (n d : Int) : Int := if inR n (-1000000000) 1000000000 && inR d (-1000000000) 1000000000 then mkD n d else 0
theorem mr_yes {n d : Int} (h1 : inR n (-1000000000) 1000000000 = true) (h2 : inR d (-1000000000) 1000000000 = true) : mrN n d = mkN n d ∧ mrD n d = mkD n d ∧ mrOk n d = mkOk n d := by
  simp [mrN, mrD, mrOk, h1, h2]
theorem mr_none {n d : Int} (h : (inR n (-1000000000) 1000000000 && inR d (-1000000000) 1000000000) = false) : mrN n d = 0 ∧ mrD n d = 0 ∧ mrOk n d = false := by
  unfold mrN mrD mrOk
  rw [← Bool.and_assoc, h]
  simp
set_option maxHeartbeats 800000 in
theorem specMr_any (n d : Int) (w : World) : Calls Try.prog 22 #[.int .i64 n, .int .i64 d] w (RatRes (mrN n d) (mrD n d) (mrOk n d) w) := by
  cases h1 : inR n (-1000000000) 1000000000
  · have HN := Lib.hid (mr_none (n := n) (d := d) (by simp [h1]))
    go_enter Try.func22, Try.ntmps22
    go_wp2_with (go_at_call 41; refine (l1In_any _ _ _ _).mono ?_; rintro e w' ⟨rfl, rfl⟩)
    exact bodyPost_ret (v := .tuple #[.agg #[.int .i64 0, .int .i64 0], .bool false]) (by simp [results, Try.results22, go_sem]) rfl ⟨by rw [HN.out.1, HN.out.2.1, HN.out.2.2], (Below.refl _ _).alloc (Nat.le_refl _) _⟩
  · cases h2 : inR d (-1000000000) 1000000000
    · have HN := Lib.hid (mr_none (n := n) (d := d) (by simp [h2]))
      go_enter Try.func22, Try.ntmps22
      go_wp2_with (go_at_call 41; refine (l1In_any _ _ _ _).mono ?_; rintro e w' ⟨rfl, rfl⟩)
      exact bodyPost_ret (v := .tuple #[.agg #[.int .i64 0, .int .i64 0], .bool false]) (by simp [results, Try.results22, go_sem]) rfl ⟨by rw [HN.out.1, HN.out.2.1, HN.out.2.2], (Below.refl _ _).alloc (Nat.le_refl _) _⟩
    · have HV := Lib.hid (mr_yes h1 h2)
      obtain ⟨n0, n1⟩ := inR_true.1 h1
      obtain ⟨d0, d1⟩ := inR_true.1 h2
      obtain ⟨x, hx⟩ : ∃ x, x = mrN n d := ⟨_, rfl⟩
      obtain ⟨y, hy⟩ : ∃ y, y = mrD n d := ⟨_, rfl⟩
      obtain ⟨t, ht⟩ : ∃ t, t = mrOk n d := ⟨_, rfl⟩
      rw [← hx, ← hy, ← ht]
      have HX := Lib.hid hx
      have HY := Lib.hid hy
      have HT := Lib.hid ht
      clear hx hy ht
      go_enter Try.func22, Try.ntmps22
      go_wp2_with (go_at_call 41; refine (l1In_any _ _ _ _).mono ?_; rintro e w' ⟨rfl, rfl⟩)
      go_at_call 32
      refine (specMkV_any n d x y t _ (by omega) (by omega) (by omega) (by omega) (by rw [HX.out, HV.out.1]) (by rw [HY.out, HV.out.2.1]) (by rw [HT.out, HV.out.2.2])).mono ?_
      rintro e w1 ⟨rfl, hb1⟩
      have c_w1_00 : w1.cell? ⟨w.heap.size, 0, none⟩ = some (.int .i64 0) := (hb1.cell (p := ⟨w.heap.size, 0, none⟩) (by simp <;> omega)).trans (by go_simp)
      have f_w1_00 : w1.frozen? ⟨w.heap.size, 0, none⟩ = false := (hb1.frozen (p := ⟨w.heap.size, 0, none⟩) (by simp <;> omega)).trans (by go_simp)
      have c_w1_01 : w1.cell? ⟨w.heap.size, 1, none⟩ = some (.int .i64 0) := (hb1.cell (p := ⟨w.heap.size, 1, none⟩) (by simp <;> omega)).trans (by go_simp)
      have f_w1_01 : w1.frozen? ⟨w.heap.size, 1, none⟩ = false := (hb1.frozen (p := ⟨w.heap.size, 1, none⟩) (by simp <;> omega)).trans (by go_simp)
      have HB1 := Lib.hid (Below.trans (show Below w.heap.size w _ by repeat (first | exact Below.refl _ _ | refine Below.alloc ?_ (by simp <;> omega) _ | refine Below.drew ?_)) (hb1.mono (by simp <;> omega)))
      clear hb1
      go_wp2
      refine bodyPost_ret (v := .tuple #[.agg #[.int .i64 x, .int .i64 y], .bool t]) (by simp [results, Try.results22, go_sem, c_w1_00, c_w1_01]) rfl ⟨rfl, ?_⟩
      repeat (first | exact HB1.out | refine Below.setCell ?_ (by simp <;> omega) _)
/-! What the laws do to a fraction. -/
theorem toRat_any (x y : Int) (w : World) : Calls Try.prog 21 #[.agg #[.int .i64 x, .int .i64 y]] w (RatV x y w) := by
  go_enter Try.func21, Try.ntmps21
  go_wp2
  refine bodyPost_ret (v := .agg #[.int .i64 x, .int .i64 y]) (by simp [results, Try.results21, go_sem]) rfl ⟨rfl, ?_⟩
  repeat (first | exact Below.refl _ _ | refine Below.setCell ?_ (by simp <;> omega) _ | refine Below.alloc ?_ (by simp <;> omega) _)
theorem eqRat_yes (x y : Int) (w : World) : Calls Try.prog 23 #[.agg #[.int .i64 x, .int .i64 y], .agg #[.int .i64 x, .int .i64 y]] w fun e w' => e = .returned (.bool true) ∧ Below w.heap.size w w' := by
  go_enter Try.func23, Try.ntmps23
  go_wp2
  go_ret
  exact ⟨rfl, ((Below.refl _ _).alloc (Nat.le_refl _) _).alloc (by simp) _⟩
end Go.Proofs.Ytecmfipedpfoaaa
