/- Fractions: the model's sums, products, opposites and comparisons. -/
import Derived.Test.YtecmfipedpfoaaaRatS
namespace Go.Proofs.Ytecmfipedpfoaaa
open Go.RowKit
theorem isR_bd {n d : Int} (h : isR n d = true) : -1000000000 ≤ n ∧ n ≤ 1000000000 ∧ 1 ≤ d ∧ d ≤ 1000000000 := by
  have := isR_true.1 h
  exact ⟨this.1, this.2.1, this.2.2.1, this.2.2.2.1⟩
theorem mul_bd {x y : Int} (h1 : -1000000000 ≤ x) (h2 : x ≤ 1000000000) (h3 : -1000000000 ≤ y) (h4 : y ≤ 1000000000) : -1000000000000000000 ≤ x * y ∧ x * y ≤ 1000000000000000000 := by
  have h : (x * y).natAbs ≤ 1000000000 * 1000000000 := by
    rw [Int.natAbs_mul]
    exact Nat.mul_le_mul (by omega) (by omega)
  omega
def addOk (a b c d : Int) : Bool := decide (AddOk a b c d)
def mulOk (a b c d : Int) : Bool := decide (MulOk a b c d)
theorem add_yes {a b c d : Int} (h1 : isR a b = true) (h2 : isR c d = true) : addN a b c d = mkN (a * d + c * b) (b * d) ∧ addD a b c d = mkD (a * d + c * b) (b * d) ∧ addOk a b c d = mkOk (a * d + c * b) (b * d) := by
  have v1 := isR_true.1 h1
  have v2 := isR_true.1 h2
  unfold addN addD addOk mkOk
  by_cases h : MkOk (a * d + c * b) (b * d)
  · have ok : AddOk a b c d := ⟨v1, v2, h⟩
    rw [if_pos ok, if_pos ok]
    exact ⟨rfl, rfl, by simp [ok, h]⟩
  · have no : ¬ AddOk a b c d := fun x => h x.2.2
    rw [if_neg no, if_neg no]
    exact ⟨(mk_no h).1.symm, (mk_no h).2.symm, by simp [no, h]⟩
theorem add_none {a b c d : Int} (h : ¬ (isR a b = true ∧ isR c d = true)) : addN a b c d = 0 ∧ addD a b c d = 0 ∧ addOk a b c d = false := by
  have no : ¬ AddOk a b c d := fun x => h ⟨isR_true.2 x.1, isR_true.2 x.2.1⟩
  unfold addN addD addOk
  rw [if_neg no, if_neg no]
  exact ⟨rfl, rfl, by simp [no]⟩
theorem mul_yes {a b c d : Int} (h1 : isR a b = true) (h2 : isR c d = true) : mulN a b c d = mkN (a * c) (b * d) ∧ mulD a b c d = mkD (a * c) (b * d) ∧ mulOk a b c d = mkOk (a * c) (b * d) := by
  have v1 := isR_true.1 h1
  have v2 := isR_true.1 h2
  unfold mulN mulD mulOk mkOk
  by_cases h : MkOk (a * c) (b * d)
  · have ok : MulOk a b c d := ⟨v1, v2, h⟩
    rw [if_pos ok, if_pos ok]
    exact ⟨rfl, rfl, by simp [ok, h]⟩
  · have no : ¬ MulOk a b c d := fun x => h x.2.2
    rw [if_neg no, if_neg no]
    exact ⟨(mk_no h).1.symm, (mk_no h).2.symm, by simp [no, h]⟩
theorem mul_none {a b c d : Int} (h : ¬ (isR a b = true ∧ isR c d = true)) : mulN a b c d = 0 ∧ mulD a b c d = 0 ∧ mulOk a b c d = false := by
  have no : ¬ MulOk a b c d := fun x => h ⟨isR_true.2 x.1, isR_true.2 x.2.1⟩
  unfold mulN mulD mulOk
  rw [if_neg no, if_neg no]
  exact ⟨rfl, rfl, by simp [no]⟩
/-- The number that a product or a sum is, under a name. -/
theorem specMkV_any (n d x y : Int) (b : Bool) (w : World) (h0 : -4000000000000000000 ≤ n) (h1 : n ≤ 4000000000000000000) (h2 : -4000000000000000000 ≤ d) (h3 : d ≤ 4000000000000000000) (hx : x = mkN n d) (hy : y = mkD n d) (hb : b = mkOk n d) :
    Calls Try.prog 32 #[.int .i64 n, .int .i64 d] w (RatRes x y b w) := by
  subst hx hy hb
  exact specMk_any n d w h0 h1 h2 h3
set_option maxHeartbeats 1600000 in
theorem specAdd_any (a b c d : Int) (w : World) : Calls Try.prog 13 #[.agg #[.int .i64 a, .int .i64 b], .agg #[.int .i64 c, .int .i64 d]] w (RatRes (addN a b c d) (addD a b c d) (addOk a b c d) w) := by
  obtain ⟨x, hx⟩ : ∃ x, x = addN a b c d := ⟨_, rfl⟩
  obtain ⟨y, hy⟩ : ∃ y, y = addD a b c d := ⟨_, rfl⟩
  obtain ⟨t, ht⟩ : ∃ t, t = addOk a b c d := ⟨_, rfl⟩
  rw [← hx, ← hy, ← ht]
  have HX := Lib.hid hx
  have HY := Lib.hid hy
  have HT := Lib.hid ht
  clear hx hy ht
  cases hv1 : isR a b
  · have HN := Lib.hid (add_none (a := a) (b := b) (c := c) (d := d) (by simp [hv1]))
    go_enter Try.func13, Try.ntmps13
    go_wp2_with fail
    go_at_call 20
    refine (specIsR_any a b _).mono ?_
    rintro e w1 ⟨rfl, hb1⟩
    have c_w1_00 : w1.cell? ⟨w.heap.size, 0, none⟩ = some (.int .i64 a) := (hb1.cell (p := ⟨w.heap.size, 0, none⟩) (by simp <;> omega)).trans (by go_simp)
    have c_w1_01 : w1.cell? ⟨w.heap.size, 1, none⟩ = some (.int .i64 b) := (hb1.cell (p := ⟨w.heap.size, 1, none⟩) (by simp <;> omega)).trans (by go_simp)
    have c_w1_10 : w1.cell? ⟨w.heap.size + 1, 0, none⟩ = some (.int .i64 c) := (hb1.cell (p := ⟨w.heap.size + 1, 0, none⟩) (by simp <;> omega)).trans (by go_simp)
    have c_w1_11 : w1.cell? ⟨w.heap.size + 1, 1, none⟩ = some (.int .i64 d) := (hb1.cell (p := ⟨w.heap.size + 1, 1, none⟩) (by simp <;> omega)).trans (by go_simp)
    have c_w1_20 : w1.cell? ⟨w.heap.size + 2, 0, none⟩ = some (.int .i64 0) := (hb1.cell (p := ⟨w.heap.size + 2, 0, none⟩) (by simp <;> omega)).trans (by go_simp)
    have f_w1_20 : w1.frozen? ⟨w.heap.size + 2, 0, none⟩ = false := (hb1.frozen (p := ⟨w.heap.size + 2, 0, none⟩) (by simp <;> omega)).trans (by go_simp)
    have c_w1_21 : w1.cell? ⟨w.heap.size + 2, 1, none⟩ = some (.int .i64 0) := (hb1.cell (p := ⟨w.heap.size + 2, 1, none⟩) (by simp <;> omega)).trans (by go_simp)
    have f_w1_21 : w1.frozen? ⟨w.heap.size + 2, 1, none⟩ = false := (hb1.frozen (p := ⟨w.heap.size + 2, 1, none⟩) (by simp <;> omega)).trans (by go_simp)
    have hz1 : w.heap.size + 2 < w1.heap.size := by have := hb1.size; simp at this; omega
    have HB1 := Lib.hid (Below.trans (show Below w.heap.size w _ by repeat (first | exact Below.refl _ _ | refine Below.alloc ?_ (by simp <;> omega) _ | refine Below.drew ?_)) (hb1.mono (by simp <;> omega)))
    clear hb1
    go_wp2
    refine bodyPost_ret (v := .tuple #[.agg #[.int .i64 0, .int .i64 0], .bool false]) (by simp [results, Try.results13, go_sem, c_w1_20, c_w1_21]) rfl ⟨by rw [HX.out, HY.out, HT.out, HN.out.1, HN.out.2.1, HN.out.2.2], ?_⟩
    repeat (first | exact HB1.out | refine Below.setCell ?_ (by simp <;> omega) _)
  · cases hv2 : isR c d
    · have HN := Lib.hid (add_none (a := a) (b := b) (c := c) (d := d) (by simp [hv2]))
      go_enter Try.func13, Try.ntmps13
      go_wp2_with fail
      go_at_call 20
      refine (specIsR_any a b _).mono ?_
      rintro e w1 ⟨rfl, hb1⟩
      have c_w1_00 : w1.cell? ⟨w.heap.size, 0, none⟩ = some (.int .i64 a) := (hb1.cell (p := ⟨w.heap.size, 0, none⟩) (by simp <;> omega)).trans (by go_simp)
      have c_w1_01 : w1.cell? ⟨w.heap.size, 1, none⟩ = some (.int .i64 b) := (hb1.cell (p := ⟨w.heap.size, 1, none⟩) (by simp <;> omega)).trans (by go_simp)
      have c_w1_10 : w1.cell? ⟨w.heap.size + 1, 0, none⟩ = some (.int .i64 c) := (hb1.cell (p := ⟨w.heap.size + 1, 0, none⟩) (by simp <;> omega)).trans (by go_simp)
      have c_w1_11 : w1.cell? ⟨w.heap.size + 1, 1, none⟩ = some (.int .i64 d) := (hb1.cell (p := ⟨w.heap.size + 1, 1, none⟩) (by simp <;> omega)).trans (by go_simp)
      have c_w1_20 : w1.cell? ⟨w.heap.size + 2, 0, none⟩ = some (.int .i64 0) := (hb1.cell (p := ⟨w.heap.size + 2, 0, none⟩) (by simp <;> omega)).trans (by go_simp)
      have f_w1_20 : w1.frozen? ⟨w.heap.size + 2, 0, none⟩ = false := (hb1.frozen (p := ⟨w.heap.size + 2, 0, none⟩) (by simp <;> omega)).trans (by go_simp)
      have c_w1_21 : w1.cell? ⟨w.heap.size + 2, 1, none⟩ = some (.int .i64 0) := (hb1.cell (p := ⟨w.heap.size + 2, 1, none⟩) (by simp <;> omega)).trans (by go_simp)
      have f_w1_21 : w1.frozen? ⟨w.heap.size + 2, 1, none⟩ = false := (hb1.frozen (p := ⟨w.heap.size + 2, 1, none⟩) (by simp <;> omega)).trans (by go_simp)
      have hz1 : w.heap.size + 2 < w1.heap.size := by have := hb1.size; simp at this; omega
      have HB1 := Lib.hid (Below.trans (show Below w.heap.size w _ by repeat (first | exact Below.refl _ _ | refine Below.alloc ?_ (by simp <;> omega) _ | refine Below.drew ?_)) (hb1.mono (by simp <;> omega)))
      clear hb1
      go_wp2_with fail
      go_at_call 20
      refine (specIsR_any c d _).mono ?_
      rintro e w2 ⟨rfl, hb2⟩
      have c_w2_00 : w2.cell? ⟨w.heap.size, 0, none⟩ = some (.int .i64 a) := (hb2.cell (p := ⟨w.heap.size, 0, none⟩) (by dsimp only; omega)).trans c_w1_00
      have c_w2_01 : w2.cell? ⟨w.heap.size, 1, none⟩ = some (.int .i64 b) := (hb2.cell (p := ⟨w.heap.size, 1, none⟩) (by dsimp only; omega)).trans c_w1_01
      have c_w2_10 : w2.cell? ⟨w.heap.size + 1, 0, none⟩ = some (.int .i64 c) := (hb2.cell (p := ⟨w.heap.size + 1, 0, none⟩) (by dsimp only; omega)).trans c_w1_10
      have c_w2_11 : w2.cell? ⟨w.heap.size + 1, 1, none⟩ = some (.int .i64 d) := (hb2.cell (p := ⟨w.heap.size + 1, 1, none⟩) (by dsimp only; omega)).trans c_w1_11
      have c_w2_20 : w2.cell? ⟨w.heap.size + 2, 0, none⟩ = some (.int .i64 0) := (hb2.cell (p := ⟨w.heap.size + 2, 0, none⟩) (by dsimp only; omega)).trans c_w1_20
      have f_w2_20 : w2.frozen? ⟨w.heap.size + 2, 0, none⟩ = false := (hb2.frozen (p := ⟨w.heap.size + 2, 0, none⟩) (by dsimp only; omega)).trans f_w1_20
      have c_w2_21 : w2.cell? ⟨w.heap.size + 2, 1, none⟩ = some (.int .i64 0) := (hb2.cell (p := ⟨w.heap.size + 2, 1, none⟩) (by dsimp only; omega)).trans c_w1_21
      have f_w2_21 : w2.frozen? ⟨w.heap.size + 2, 1, none⟩ = false := (hb2.frozen (p := ⟨w.heap.size + 2, 1, none⟩) (by dsimp only; omega)).trans f_w1_21
      have hz2 : w.heap.size + 2 < w2.heap.size := Nat.lt_of_lt_of_le hz1 hb2.size
      have HB2 := Lib.hid (HB1.out.trans (hb2.mono (by omega)))
      clear hb2
      go_wp2
      refine bodyPost_ret (v := .tuple #[.agg #[.int .i64 0, .int .i64 0], .bool false]) (by simp [results, Try.results13, go_sem, c_w2_20, c_w2_21]) rfl ⟨by rw [HX.out, HY.out, HT.out, HN.out.1, HN.out.2.1, HN.out.2.2], ?_⟩
      repeat (first | exact HB2.out | refine Below.setCell ?_ (by simp <;> omega) _)
    · have HV := Lib.hid (add_yes hv1 hv2)
      obtain ⟨a0, a1, b0, b1⟩ := isR_bd hv1
      obtain ⟨c0, c1, d0, d1⟩ := isR_bd hv2
      obtain ⟨p0, q0⟩ := mul_bd (x := a) (y := d) (by omega) (by omega) (by omega) (by omega)
      obtain ⟨p1, q1⟩ := mul_bd (x := c) (y := b) (by omega) (by omega) (by omega) (by omega)
      obtain ⟨p2, q2⟩ := mul_bd (x := b) (y := d) (by omega) (by omega) (by omega) (by omega)
      go_enter Try.func13, Try.ntmps13
      go_wp2_with fail
      go_at_call 20
      refine (specIsR_any a b _).mono ?_
      rintro e w1 ⟨rfl, hb1⟩
      have c_w1_00 : w1.cell? ⟨w.heap.size, 0, none⟩ = some (.int .i64 a) := (hb1.cell (p := ⟨w.heap.size, 0, none⟩) (by simp <;> omega)).trans (by go_simp)
      have c_w1_01 : w1.cell? ⟨w.heap.size, 1, none⟩ = some (.int .i64 b) := (hb1.cell (p := ⟨w.heap.size, 1, none⟩) (by simp <;> omega)).trans (by go_simp)
      have c_w1_10 : w1.cell? ⟨w.heap.size + 1, 0, none⟩ = some (.int .i64 c) := (hb1.cell (p := ⟨w.heap.size + 1, 0, none⟩) (by simp <;> omega)).trans (by go_simp)
      have c_w1_11 : w1.cell? ⟨w.heap.size + 1, 1, none⟩ = some (.int .i64 d) := (hb1.cell (p := ⟨w.heap.size + 1, 1, none⟩) (by simp <;> omega)).trans (by go_simp)
      have c_w1_20 : w1.cell? ⟨w.heap.size + 2, 0, none⟩ = some (.int .i64 0) := (hb1.cell (p := ⟨w.heap.size + 2, 0, none⟩) (by simp <;> omega)).trans (by go_simp)
      have f_w1_20 : w1.frozen? ⟨w.heap.size + 2, 0, none⟩ = false := (hb1.frozen (p := ⟨w.heap.size + 2, 0, none⟩) (by simp <;> omega)).trans (by go_simp)
      have c_w1_21 : w1.cell? ⟨w.heap.size + 2, 1, none⟩ = some (.int .i64 0) := (hb1.cell (p := ⟨w.heap.size + 2, 1, none⟩) (by simp <;> omega)).trans (by go_simp)
      have f_w1_21 : w1.frozen? ⟨w.heap.size + 2, 1, none⟩ = false := (hb1.frozen (p := ⟨w.heap.size + 2, 1, none⟩) (by simp <;> omega)).trans (by go_simp)
      have hz1 : w.heap.size + 2 < w1.heap.size := by have := hb1.size; simp at this; omega
      have HB1 := Lib.hid (Below.trans (show Below w.heap.size w _ by repeat (first | exact Below.refl _ _ | refine Below.alloc ?_ (by simp <;> omega) _ | refine Below.drew ?_)) (hb1.mono (by simp <;> omega)))
      clear hb1
      go_wp2_with fail
      go_at_call 20
      refine (specIsR_any c d _).mono ?_
      rintro e w2 ⟨rfl, hb2⟩
      have c_w2_00 : w2.cell? ⟨w.heap.size, 0, none⟩ = some (.int .i64 a) := (hb2.cell (p := ⟨w.heap.size, 0, none⟩) (by dsimp only; omega)).trans c_w1_00
      have c_w2_01 : w2.cell? ⟨w.heap.size, 1, none⟩ = some (.int .i64 b) := (hb2.cell (p := ⟨w.heap.size, 1, none⟩) (by dsimp only; omega)).trans c_w1_01
      have c_w2_10 : w2.cell? ⟨w.heap.size + 1, 0, none⟩ = some (.int .i64 c) := (hb2.cell (p := ⟨w.heap.size + 1, 0, none⟩) (by dsimp only; omega)).trans c_w1_10
      have c_w2_11 : w2.cell? ⟨w.heap.size + 1, 1, none⟩ = some (.int .i64 d) := (hb2.cell (p := ⟨w.heap.size + 1, 1, none⟩) (by dsimp only; omega)).trans c_w1_11
      have c_w2_20 : w2.cell? ⟨w.heap.size + 2, 0, none⟩ = some (.int .i64 0) := (hb2.cell (p := ⟨w.heap.size + 2, 0, none⟩) (by dsimp only; omega)).trans c_w1_20
      have f_w2_20 : w2.frozen? ⟨w.heap.size + 2, 0, none⟩ = false := (hb2.frozen (p := ⟨w.heap.size + 2, 0, none⟩) (by dsimp only; omega)).trans f_w1_20
      have c_w2_21 : w2.cell? ⟨w.heap.size + 2, 1, none⟩ = some (.int .i64 0) := (hb2.cell (p := ⟨w.heap.size + 2, 1, none⟩) (by dsimp only; omega)).trans c_w1_21
      have f_w2_21 : w2.frozen? ⟨w.heap.size + 2, 1, none⟩ = false := (hb2.frozen (p := ⟨w.heap.size + 2, 1, none⟩) (by dsimp only; omega)).trans f_w1_21
      have hz2 : w.heap.size + 2 < w2.heap.size := Nat.lt_of_lt_of_le hz1 hb2.size
      have HB2 := Lib.hid (HB1.out.trans (hb2.mono (by omega)))
      clear hb2
      go_wp2_with fail
      go_at_call 32
      refine (specMkV_any (a * d + c * b) (b * d) x y t _ (by omega) (by omega) (by omega) (by omega) (by rw [HX.out, HV.out.1]) (by rw [HY.out, HV.out.2.1]) (by rw [HT.out, HV.out.2.2])).mono ?_
      rintro e w3 ⟨rfl, hb3⟩
      have c_w3_20 : w3.cell? ⟨w.heap.size + 2, 0, none⟩ = some (.int .i64 0) := (hb3.cell (p := ⟨w.heap.size + 2, 0, none⟩) (by dsimp only; omega)).trans c_w2_20
      have f_w3_20 : w3.frozen? ⟨w.heap.size + 2, 0, none⟩ = false := (hb3.frozen (p := ⟨w.heap.size + 2, 0, none⟩) (by dsimp only; omega)).trans f_w2_20
      have c_w3_21 : w3.cell? ⟨w.heap.size + 2, 1, none⟩ = some (.int .i64 0) := (hb3.cell (p := ⟨w.heap.size + 2, 1, none⟩) (by dsimp only; omega)).trans c_w2_21
      have f_w3_21 : w3.frozen? ⟨w.heap.size + 2, 1, none⟩ = false := (hb3.frozen (p := ⟨w.heap.size + 2, 1, none⟩) (by dsimp only; omega)).trans f_w2_21
      have HB3 := Lib.hid (HB2.out.trans (hb3.mono (by omega)))
      clear hb3
      go_wp2
      refine bodyPost_ret (v := .tuple #[.agg #[.int .i64 x, .int .i64 y], .bool t]) (by simp [results, Try.results13, go_sem, c_w3_20, c_w3_21]) rfl ⟨rfl, ?_⟩
      repeat (first | exact HB3.out | refine Below.setCell ?_ (by simp <;> omega) _)
set_option maxHeartbeats 1600000 in
theorem specMul_any (a b c d : Int) (w : World) : Calls Try.prog 24 #[.agg #[.int .i64 a, .int .i64 b], .agg #[.int .i64 c, .int .i64 d]] w (RatRes (mulN a b c d) (mulD a b c d) (mulOk a b c d) w) := by
  obtain ⟨x, hx⟩ : ∃ x, x = mulN a b c d := ⟨_, rfl⟩
  obtain ⟨y, hy⟩ : ∃ y, y = mulD a b c d := ⟨_, rfl⟩
  obtain ⟨t, ht⟩ : ∃ t, t = mulOk a b c d := ⟨_, rfl⟩
  rw [← hx, ← hy, ← ht]
  have HX := Lib.hid hx
  have HY := Lib.hid hy
  have HT := Lib.hid ht
  clear hx hy ht
  cases hv1 : isR a b
  · have HN := Lib.hid (mul_none (a := a) (b := b) (c := c) (d := d) (by simp [hv1]))
    go_enter Try.func24, Try.ntmps24
    go_wp2_with fail
    go_at_call 20
    refine (specIsR_any a b _).mono ?_
    rintro e w1 ⟨rfl, hb1⟩
    have c_w1_00 : w1.cell? ⟨w.heap.size, 0, none⟩ = some (.int .i64 a) := (hb1.cell (p := ⟨w.heap.size, 0, none⟩) (by simp <;> omega)).trans (by go_simp)
    have c_w1_01 : w1.cell? ⟨w.heap.size, 1, none⟩ = some (.int .i64 b) := (hb1.cell (p := ⟨w.heap.size, 1, none⟩) (by simp <;> omega)).trans (by go_simp)
    have c_w1_10 : w1.cell? ⟨w.heap.size + 1, 0, none⟩ = some (.int .i64 c) := (hb1.cell (p := ⟨w.heap.size + 1, 0, none⟩) (by simp <;> omega)).trans (by go_simp)
    have c_w1_11 : w1.cell? ⟨w.heap.size + 1, 1, none⟩ = some (.int .i64 d) := (hb1.cell (p := ⟨w.heap.size + 1, 1, none⟩) (by simp <;> omega)).trans (by go_simp)
    have c_w1_20 : w1.cell? ⟨w.heap.size + 2, 0, none⟩ = some (.int .i64 0) := (hb1.cell (p := ⟨w.heap.size + 2, 0, none⟩) (by simp <;> omega)).trans (by go_simp)
    have f_w1_20 : w1.frozen? ⟨w.heap.size + 2, 0, none⟩ = false := (hb1.frozen (p := ⟨w.heap.size + 2, 0, none⟩) (by simp <;> omega)).trans (by go_simp)
    have c_w1_21 : w1.cell? ⟨w.heap.size + 2, 1, none⟩ = some (.int .i64 0) := (hb1.cell (p := ⟨w.heap.size + 2, 1, none⟩) (by simp <;> omega)).trans (by go_simp)
    have f_w1_21 : w1.frozen? ⟨w.heap.size + 2, 1, none⟩ = false := (hb1.frozen (p := ⟨w.heap.size + 2, 1, none⟩) (by simp <;> omega)).trans (by go_simp)
    have hz1 : w.heap.size + 2 < w1.heap.size := by have := hb1.size; simp at this; omega
    have HB1 := Lib.hid (Below.trans (show Below w.heap.size w _ by repeat (first | exact Below.refl _ _ | refine Below.alloc ?_ (by simp <;> omega) _ | refine Below.drew ?_)) (hb1.mono (by simp <;> omega)))
    clear hb1
    go_wp2
    refine bodyPost_ret (v := .tuple #[.agg #[.int .i64 0, .int .i64 0], .bool false]) (by simp [results, Try.results24, go_sem, c_w1_20, c_w1_21]) rfl ⟨by rw [HX.out, HY.out, HT.out, HN.out.1, HN.out.2.1, HN.out.2.2], ?_⟩
    repeat (first | exact HB1.out | refine Below.setCell ?_ (by simp <;> omega) _)
  · cases hv2 : isR c d
    · have HN := Lib.hid (mul_none (a := a) (b := b) (c := c) (d := d) (by simp [hv2]))
      go_enter Try.func24, Try.ntmps24
      go_wp2_with fail
      go_at_call 20
      refine (specIsR_any a b _).mono ?_
      rintro e w1 ⟨rfl, hb1⟩
      have c_w1_00 : w1.cell? ⟨w.heap.size, 0, none⟩ = some (.int .i64 a) := (hb1.cell (p := ⟨w.heap.size, 0, none⟩) (by simp <;> omega)).trans (by go_simp)
      have c_w1_01 : w1.cell? ⟨w.heap.size, 1, none⟩ = some (.int .i64 b) := (hb1.cell (p := ⟨w.heap.size, 1, none⟩) (by simp <;> omega)).trans (by go_simp)
      have c_w1_10 : w1.cell? ⟨w.heap.size + 1, 0, none⟩ = some (.int .i64 c) := (hb1.cell (p := ⟨w.heap.size + 1, 0, none⟩) (by simp <;> omega)).trans (by go_simp)
      have c_w1_11 : w1.cell? ⟨w.heap.size + 1, 1, none⟩ = some (.int .i64 d) := (hb1.cell (p := ⟨w.heap.size + 1, 1, none⟩) (by simp <;> omega)).trans (by go_simp)
      have c_w1_20 : w1.cell? ⟨w.heap.size + 2, 0, none⟩ = some (.int .i64 0) := (hb1.cell (p := ⟨w.heap.size + 2, 0, none⟩) (by simp <;> omega)).trans (by go_simp)
      have f_w1_20 : w1.frozen? ⟨w.heap.size + 2, 0, none⟩ = false := (hb1.frozen (p := ⟨w.heap.size + 2, 0, none⟩) (by simp <;> omega)).trans (by go_simp)
      have c_w1_21 : w1.cell? ⟨w.heap.size + 2, 1, none⟩ = some (.int .i64 0) := (hb1.cell (p := ⟨w.heap.size + 2, 1, none⟩) (by simp <;> omega)).trans (by go_simp)
      have f_w1_21 : w1.frozen? ⟨w.heap.size + 2, 1, none⟩ = false := (hb1.frozen (p := ⟨w.heap.size + 2, 1, none⟩) (by simp <;> omega)).trans (by go_simp)
      have hz1 : w.heap.size + 2 < w1.heap.size := by have := hb1.size; simp at this; omega
      have HB1 := Lib.hid (Below.trans (show Below w.heap.size w _ by repeat (first | exact Below.refl _ _ | refine Below.alloc ?_ (by simp <;> omega) _ | refine Below.drew ?_)) (hb1.mono (by simp <;> omega)))
      clear hb1
      go_wp2_with fail
      go_at_call 20
      refine (specIsR_any c d _).mono ?_
      rintro e w2 ⟨rfl, hb2⟩
      have c_w2_00 : w2.cell? ⟨w.heap.size, 0, none⟩ = some (.int .i64 a) := (hb2.cell (p := ⟨w.heap.size, 0, none⟩) (by dsimp only; omega)).trans c_w1_00
      have c_w2_01 : w2.cell? ⟨w.heap.size, 1, none⟩ = some (.int .i64 b) := (hb2.cell (p := ⟨w.heap.size, 1, none⟩) (by dsimp only; omega)).trans c_w1_01
      have c_w2_10 : w2.cell? ⟨w.heap.size + 1, 0, none⟩ = some (.int .i64 c) := (hb2.cell (p := ⟨w.heap.size + 1, 0, none⟩) (by dsimp only; omega)).trans c_w1_10
      have c_w2_11 : w2.cell? ⟨w.heap.size + 1, 1, none⟩ = some (.int .i64 d) := (hb2.cell (p := ⟨w.heap.size + 1, 1, none⟩) (by dsimp only; omega)).trans c_w1_11
      have c_w2_20 : w2.cell? ⟨w.heap.size + 2, 0, none⟩ = some (.int .i64 0) := (hb2.cell (p := ⟨w.heap.size + 2, 0, none⟩) (by dsimp only; omega)).trans c_w1_20
      have f_w2_20 : w2.frozen? ⟨w.heap.size + 2, 0, none⟩ = false := (hb2.frozen (p := ⟨w.heap.size + 2, 0, none⟩) (by dsimp only; omega)).trans f_w1_20
      have c_w2_21 : w2.cell? ⟨w.heap.size + 2, 1, none⟩ = some (.int .i64 0) := (hb2.cell (p := ⟨w.heap.size + 2, 1, none⟩) (by dsimp only; omega)).trans c_w1_21
      have f_w2_21 : w2.frozen? ⟨w.heap.size + 2, 1, none⟩ = false := (hb2.frozen (p := ⟨w.heap.size + 2, 1, none⟩) (by dsimp only; omega)).trans f_w1_21
      have hz2 : w.heap.size + 2 < w2.heap.size := Nat.lt_of_lt_of_le hz1 hb2.size
      have HB2 := Lib.hid (HB1.out.trans (hb2.mono (by omega)))
      clear hb2
      go_wp2
      refine bodyPost_ret (v := .tuple #[.agg #[.int .i64 0, .int .i64 0], .bool false]) (by simp [results, Try.results24, go_sem, c_w2_20, c_w2_21]) rfl ⟨by rw [HX.out, HY.out, HT.out, HN.out.1, HN.out.2.1, HN.out.2.2], ?_⟩
      repeat (first | exact HB2.out | refine Below.setCell ?_ (by simp <;> omega) _)
    · have HV := Lib.hid (mul_yes hv1 hv2)
      obtain ⟨a0, a1, b0, b1⟩ := isR_bd hv1
      obtain ⟨c0, c1, d0, d1⟩ := isR_bd hv2
      obtain ⟨p0, q0⟩ := mul_bd (x := a) (y := c) (by omega) (by omega) (by omega) (by omega)
      obtain ⟨p1, q1⟩ := mul_bd (x := b) (y := d) (by omega) (by omega) (by omega) (by omega)
      go_enter Try.func24, Try.ntmps24
      go_wp2_with fail
      go_at_call 20
      refine (specIsR_any a b _).mono ?_
      rintro e w1 ⟨rfl, hb1⟩
      have c_w1_00 : w1.cell? ⟨w.heap.size, 0, none⟩ = some (.int .i64 a) := (hb1.cell (p := ⟨w.heap.size, 0, none⟩) (by simp <;> omega)).trans (by go_simp)
      have c_w1_01 : w1.cell? ⟨w.heap.size, 1, none⟩ = some (.int .i64 b) := (hb1.cell (p := ⟨w.heap.size, 1, none⟩) (by simp <;> omega)).trans (by go_simp)
      have c_w1_10 : w1.cell? ⟨w.heap.size + 1, 0, none⟩ = some (.int .i64 c) := (hb1.cell (p := ⟨w.heap.size + 1, 0, none⟩) (by simp <;> omega)).trans (by go_simp)
      have c_w1_11 : w1.cell? ⟨w.heap.size + 1, 1, none⟩ = some (.int .i64 d) := (hb1.cell (p := ⟨w.heap.size + 1, 1, none⟩) (by simp <;> omega)).trans (by go_simp)
      have c_w1_20 : w1.cell? ⟨w.heap.size + 2, 0, none⟩ = some (.int .i64 0) := (hb1.cell (p := ⟨w.heap.size + 2, 0, none⟩) (by simp <;> omega)).trans (by go_simp)
      have f_w1_20 : w1.frozen? ⟨w.heap.size + 2, 0, none⟩ = false := (hb1.frozen (p := ⟨w.heap.size + 2, 0, none⟩) (by simp <;> omega)).trans (by go_simp)
      have c_w1_21 : w1.cell? ⟨w.heap.size + 2, 1, none⟩ = some (.int .i64 0) := (hb1.cell (p := ⟨w.heap.size + 2, 1, none⟩) (by simp <;> omega)).trans (by go_simp)
      have f_w1_21 : w1.frozen? ⟨w.heap.size + 2, 1, none⟩ = false := (hb1.frozen (p := ⟨w.heap.size + 2, 1, none⟩) (by simp <;> omega)).trans (by go_simp)
      have hz1 : w.heap.size + 2 < w1.heap.size := by have := hb1.size; simp at this; omega
      have HB1 := Lib.hid (Below.trans (show Below w.heap.size w _ by repeat (first | exact Below.refl _ _ | refine Below.alloc ?_ (by simp <;> omega) _ | refine Below.drew ?_)) (hb1.mono (by simp <;> omega)))
      clear hb1
      go_wp2_with fail
      go_at_call 20
      refine (specIsR_any c d _).mono ?_
      rintro e w2 ⟨rfl, hb2⟩
      have c_w2_00 : w2.cell? ⟨w.heap.size, 0, none⟩ = some (.int .i64 a) := (hb2.cell (p := ⟨w.heap.size, 0, none⟩) (by dsimp only; omega)).trans c_w1_00
      have c_w2_01 : w2.cell? ⟨w.heap.size, 1, none⟩ = some (.int .i64 b) := (hb2.cell (p := ⟨w.heap.size, 1, none⟩) (by dsimp only; omega)).trans c_w1_01
      have c_w2_10 : w2.cell? ⟨w.heap.size + 1, 0, none⟩ = some (.int .i64 c) := (hb2.cell (p := ⟨w.heap.size + 1, 0, none⟩) (by dsimp only; omega)).trans c_w1_10
      have c_w2_11 : w2.cell? ⟨w.heap.size + 1, 1, none⟩ = some (.int .i64 d) := (hb2.cell (p := ⟨w.heap.size + 1, 1, none⟩) (by dsimp only; omega)).trans c_w1_11
      have c_w2_20 : w2.cell? ⟨w.heap.size + 2, 0, none⟩ = some (.int .i64 0) := (hb2.cell (p := ⟨w.heap.size + 2, 0, none⟩) (by dsimp only; omega)).trans c_w1_20
      have f_w2_20 : w2.frozen? ⟨w.heap.size + 2, 0, none⟩ = false := (hb2.frozen (p := ⟨w.heap.size + 2, 0, none⟩) (by dsimp only; omega)).trans f_w1_20
      have c_w2_21 : w2.cell? ⟨w.heap.size + 2, 1, none⟩ = some (.int .i64 0) := (hb2.cell (p := ⟨w.heap.size + 2, 1, none⟩) (by dsimp only; omega)).trans c_w1_21
      have f_w2_21 : w2.frozen? ⟨w.heap.size + 2, 1, none⟩ = false := (hb2.frozen (p := ⟨w.heap.size + 2, 1, none⟩) (by dsimp only; omega)).trans f_w1_21
      have hz2 : w.heap.size + 2 < w2.heap.size := Nat.lt_of_lt_of_le hz1 hb2.size
      have HB2 := Lib.hid (HB1.out.trans (hb2.mono (by omega)))
      clear hb2
      go_wp2_with fail
      go_at_call 32
      refine (specMkV_any (a * c) (b * d) x y t _ (by omega) (by omega) (by omega) (by omega) (by rw [HX.out, HV.out.1]) (by rw [HY.out, HV.out.2.1]) (by rw [HT.out, HV.out.2.2])).mono ?_
      rintro e w3 ⟨rfl, hb3⟩
      have c_w3_20 : w3.cell? ⟨w.heap.size + 2, 0, none⟩ = some (.int .i64 0) := (hb3.cell (p := ⟨w.heap.size + 2, 0, none⟩) (by dsimp only; omega)).trans c_w2_20
      have f_w3_20 : w3.frozen? ⟨w.heap.size + 2, 0, none⟩ = false := (hb3.frozen (p := ⟨w.heap.size + 2, 0, none⟩) (by dsimp only; omega)).trans f_w2_20
      have c_w3_21 : w3.cell? ⟨w.heap.size + 2, 1, none⟩ = some (.int .i64 0) := (hb3.cell (p := ⟨w.heap.size + 2, 1, none⟩) (by dsimp only; omega)).trans c_w2_21
      have f_w3_21 : w3.frozen? ⟨w.heap.size + 2, 1, none⟩ = false := (hb3.frozen (p := ⟨w.heap.size + 2, 1, none⟩) (by dsimp only; omega)).trans f_w2_21
      have HB3 := Lib.hid (HB2.out.trans (hb3.mono (by omega)))
      clear hb3
      go_wp2
      refine bodyPost_ret (v := .tuple #[.agg #[.int .i64 x, .int .i64 y], .bool t]) (by simp [results, Try.results24, go_sem, c_w3_20, c_w3_21]) rfl ⟨rfl, ?_⟩
      repeat (first | exact HB3.out | refine Below.setCell ?_ (by simp <;> omega) _)
end Go.Proofs.Ytecmfipedpfoaaa
