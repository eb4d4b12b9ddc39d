/- Fractions: the program's greatest divisor and its check. -/
import Derived.Test.YtedkeobhcpbigaaCmpI
import Derived.Test.YtedkeobhcpbigaaRatA
import Derived.Test.YtedkeobhcpbigaaPair
import Derived.Deep.QuietTactic
namespace Go.Proofs.Ytedkeobhcpbigaa
open Go.RowKit
theorem tgcd_step {G : Nat} {X Y : Int} (h : Int.gcd X Y = G) : Int.gcd Y (X.tmod Y) = G := by
  rw [← h]
  unfold Int.gcd
  rw [Int.natAbs_tmod, Nat.gcd_comm, ← Nat.gcd_rec, Nat.gcd_comm]
theorem tgcd_end {G : Nat} {X : Int} (h : Int.gcd X 0 = G) : (X.natAbs : Int) = (G : Int) := by
  rw [Int.gcd_zero_right] at h
  omega
theorem tmod_abs {X Y : Int} (h : Y ≠ 0) : -(Y.natAbs : Int) < X.tmod Y ∧ X.tmod Y < (Y.natAbs : Int) := by
  have e := Int.natAbs_tmod X Y
  have l := Nat.mod_lt X.natAbs (show 0 < Y.natAbs by omega)
  omega
set_option maxHeartbeats 800000 in
theorem prgGcd_any (a b : Int) (w : World) (ha0 : -4000000000000000000 ≤ a) (ha1 : a ≤ 4000000000000000000) (hb0 : -4000000000000000000 ≤ b) (hb1 : b ≤ 4000000000000000000) :
    Calls Try.prog 99 #[.int .i64 a, .int .i64 b] w fun e w' => e = .returned (.int .i64 (Int.gcd a b : Int)) ∧ Below w.heap.size w w' := by
  go_enter Try.func99, Try.ntmps99
  go_wp2
  go_loopw [0, 1] (fun p q wr => ∃ X Y : Int, p = .int .i64 X ∧ q = .int .i64 Y ∧ -4000000000000000000 ≤ X ∧ X ≤ 4000000000000000000 ∧ -4000000000000000000 ≤ Y ∧ Y ≤ 4000000000000000000 ∧ Hid (Int.gcd X Y = Int.gcd a b) ∧ Below w.heap.size w wr) (fun _ q _ => (intOf q).natAbs)
  case atStart => exact ⟨a, b, rfl, rfl, ha0, ha1, hb0, hb1, Lib.hid rfl, Below.refl _ _⟩
  case round =>
    obtain ⟨X, Y, rfl, rfl, hX0, hX1, hY0, hY1, HE, hb⟩ := hrel
    have HB := Lib.hid hb
    clear hb
    by_cases hne : Y = 0
    · subst hne
      have HF := Lib.hid (tgcd_end HE.out)
      by_cases hn : X < 0
      · go_wp2
        go_ret
        exact ⟨ret_int (by have := HF.out; omega), HB.out⟩
      · go_wp2
        go_ret
        exact ⟨ret_int (by have := HF.out; omega), HB.out⟩
    · obtain ⟨z, hz⟩ : ∃ z, X.tmod Y = z := ⟨_, rfl⟩
      have HS := Lib.hid (hz ▸ tgcd_step HE.out)
      have hm := tmod_abs (X := X) hne
      rw [hz] at hm
      have HM := Lib.hid hm
      have z0 : -4000000000000000000 ≤ z := by omega
      have z1 : z ≤ 4000000000000000000 := by omega
      clear hm
      go_wp2_with fail
      go_quiet (fail)
      go_wp2
      go_roundw
      case rel => exact ⟨Y, z, rfl, by go_num, hY0, hY1, z0, z1, HS, below_drewN HB.out _⟩
      case measure => have := HM.out; simp [intOf]; omega
end Go.Proofs.Ytedkeobhcpbigaa
/- Fractions: the program's made fraction, opposite and comparison. -/
namespace Go.Proofs.Ytedkeobhcpbigaa
open Go.RowKit
/-! ### Comparison -/
end Go.Proofs.Ytedkeobhcpbigaa
/- Fractions: the program's reduced fraction. -/
namespace Go.Proofs.Ytedkeobhcpbigaa
open Go.RowKit
/-- The sign taken over by the divisor. -/
structure Cut (n d g q x y : Int) : Prop where
  gcd : (Int.gcd n d : Int) = g
  pos : 0 < g
  sgn : q = if d < 0 then -g else g
  num : n.tdiv q = x
  den : d.tdiv q = y
  x0 : -4000000000000000000 ≤ x
  x1 : x ≤ 4000000000000000000
  y0 : -4000000000000000000 ≤ y
  y1 : y ≤ 4000000000000000000
  g1 : g ≤ 4000000000000000000
  redN : redN n d = x
  redD : redD n d = y
theorem gcd_top {n d : Int} (h : d ≠ 0) (h0 : -4000000000000000000 ≤ d) (h1 : d ≤ 4000000000000000000) : (Int.gcd n d : Int) ≤ 4000000000000000000 := by
  have h2 : Int.gcd n d ∣ d.natAbs := Int.gcd_dvd_natAbs_right n d
  have h3 := Nat.le_of_dvd (by omega) h2
  omega
theorem cut_any {n d : Int} (hd : d ≠ 0) (h0 : -4000000000000000000 ≤ n) (h1 : n ≤ 4000000000000000000) (h2 : -4000000000000000000 ≤ d) (h3 : d ≤ 4000000000000000000) : ∃ g q x y, Cut n d g q x y := by
  have ht := gcd_top (n := n) hd h2 h3
  by_cases hneg : d < 0
  · obtain ⟨g, x, y, N⟩ := normal_neg (n := n) (d := d) hneg h0 h1 h2
    have eg : (Int.gcd n d : Int) = g := by rw [← N.gcd, Int.neg_gcd, Int.gcd_neg]
    exact ⟨g, -g, x, y, eg, N.pos, by rw [if_pos hneg], by rw [Int.tdiv_neg, ← Int.neg_tdiv]; exact N.num, by rw [Int.tdiv_neg, ← Int.neg_tdiv]; exact N.den, N.x0, N.x1, N.y0, N.y1, by omega, N.redN, N.redD⟩
  · obtain ⟨g, x, y, N⟩ := normal_pos (n := n) (d := d) (by omega) h0 h1 h3
    exact ⟨g, g, x, y, N.gcd, N.pos, by rw [if_neg hneg], N.num, N.den, N.x0, N.x1, N.y0, N.y1, by have := N.gcd; omega, N.redN, N.redD⟩
theorem prgGcdV_any (a b g : Int) (w : World) (hg : (Int.gcd a b : Int) = g) (ha0 : -4000000000000000000 ≤ a) (ha1 : a ≤ 4000000000000000000) (hb0 : -4000000000000000000 ≤ b) (hb1 : b ≤ 4000000000000000000) :
    Calls Try.prog 99 #[.int .i64 a, .int .i64 b] w fun e w' => e = .returned (.int .i64 g) ∧ Below w.heap.size w w' :=
  hg ▸ prgGcd_any a b w ha0 ha1 hb0 hb1
set_option maxHeartbeats 1600000 in
theorem reduced_any (n d : Int) (w : World) (hd : d ≠ 0) (h0 : -4000000000000000000 ≤ n) (h1 : n ≤ 4000000000000000000) (h2 : -4000000000000000000 ≤ d) (h3 : d ≤ 4000000000000000000) :
    Calls Try.prog 86 #[.agg #[.int .i64 n, .int .i64 d]] w (RatV (redN n d) (redD n d) w) := by
  obtain ⟨g, q, x, y, N⟩ := cut_any (n := n) (d := d) hd h0 h1 h2 h3
  have HN := Lib.hid N
  obtain ⟨hg1, hg, hq, hnum, hden, hx0, hx1, hy0, hy1, hgt, hr1, hr2⟩ := N
  have HQ := Lib.hid hq
  have HD := Lib.hid hd
  clear hg1 hr1 hr2 hq hd
  have hwx : IntKind.i64.wrap x = x := IntWalk.i64_in _ (by omega)
  have hwy : IntKind.i64.wrap y = y := IntWalk.i64_in _ (by omega)
  by_cases hneg : d < 0
  · have hgq : -g = q := by rw [HQ.out, if_pos hneg]
    go_enter Try.func86, Try.ntmps86
    go_wp2_with fail
    go_at_call 99
    refine (prgGcdV_any n d g _ HN.out.gcd h0 h1 h2 h3).mono ?_
    rintro e w1 ⟨rfl, hb⟩
    have c00 : w1.cell? ⟨w.heap.size, 0, none⟩ = some (.int .i64 n) := (hb.cell (p := ⟨w.heap.size, 0, none⟩) (by simp <;> omega)).trans (by go_simp)
    have c01 : w1.cell? ⟨w.heap.size, 1, none⟩ = some (.int .i64 d) := (hb.cell (p := ⟨w.heap.size, 1, none⟩) (by simp <;> omega)).trans (by go_simp)
    have f10 : w1.frozen? ⟨w.heap.size + 1, 0, none⟩ = false := (hb.frozen (p := ⟨w.heap.size + 1, 0, none⟩) (by simp <;> omega)).trans (by go_simp)
    have f11 : w1.frozen? ⟨w.heap.size + 1, 1, none⟩ = false := (hb.frozen (p := ⟨w.heap.size + 1, 1, none⟩) (by simp <;> omega)).trans (by go_simp)
    have c10 : w1.cell? ⟨w.heap.size + 1, 0, none⟩ = some (.int .i64 0) := (hb.cell (p := ⟨w.heap.size + 1, 0, none⟩) (by simp <;> omega)).trans (by go_simp)
    have c11 : w1.cell? ⟨w.heap.size + 1, 1, none⟩ = some (.int .i64 0) := (hb.cell (p := ⟨w.heap.size + 1, 1, none⟩) (by simp <;> omega)).trans (by go_simp)
    have hz : w.heap.size + 1 < w1.heap.size := by have := hb.size; simp at this; omega
    have HB := Lib.hid (Below.trans (show Below w.heap.size w _ by repeat (first | exact Below.refl _ _ | refine Below.alloc ?_ (by simp) _ | refine Below.drew ?_)) (hb.mono (by simp; omega)))
    clear hb
    go_wp2_with fail
    have hq0 : ¬ q = 0 := by omega
    go_region
    all_goals
      go_wp2
      refine bodyPost_ret (v := .agg #[.int .i64 x, .int .i64 y]) (by simp [results, Try.results86, go_sem, c10, c11]) rfl ⟨by rw [HN.out.redN, HN.out.redD], ?_⟩
      repeat (first | exact HB.out | refine Below.setCell ?_ (by simp) _ | refine Below.drew ?_)
  · have hgq : g = q := by rw [HQ.out, if_neg hneg]
    subst hgq
    go_enter Try.func86, Try.ntmps86
    go_wp2_with fail
    go_at_call 99
    refine (prgGcdV_any n d g _ HN.out.gcd h0 h1 h2 h3).mono ?_
    rintro e w1 ⟨rfl, hb⟩
    have c00 : w1.cell? ⟨w.heap.size, 0, none⟩ = some (.int .i64 n) := (hb.cell (p := ⟨w.heap.size, 0, none⟩) (by simp <;> omega)).trans (by go_simp)
    have c01 : w1.cell? ⟨w.heap.size, 1, none⟩ = some (.int .i64 d) := (hb.cell (p := ⟨w.heap.size, 1, none⟩) (by simp <;> omega)).trans (by go_simp)
    have f10 : w1.frozen? ⟨w.heap.size + 1, 0, none⟩ = false := (hb.frozen (p := ⟨w.heap.size + 1, 0, none⟩) (by simp <;> omega)).trans (by go_simp)
    have f11 : w1.frozen? ⟨w.heap.size + 1, 1, none⟩ = false := (hb.frozen (p := ⟨w.heap.size + 1, 1, none⟩) (by simp <;> omega)).trans (by go_simp)
    have c10 : w1.cell? ⟨w.heap.size + 1, 0, none⟩ = some (.int .i64 0) := (hb.cell (p := ⟨w.heap.size + 1, 0, none⟩) (by simp <;> omega)).trans (by go_simp)
    have c11 : w1.cell? ⟨w.heap.size + 1, 1, none⟩ = some (.int .i64 0) := (hb.cell (p := ⟨w.heap.size + 1, 1, none⟩) (by simp <;> omega)).trans (by go_simp)
    have hz : w.heap.size + 1 < w1.heap.size := by have := hb.size; simp at this; omega
    have HB := Lib.hid (Below.trans (show Below w.heap.size w _ by repeat (first | exact Below.refl _ _ | refine Below.alloc ?_ (by simp) _ | refine Below.drew ?_)) (hb.mono (by simp; omega)))
    clear hb
    go_wp2_with fail
    have hq0 : ¬ g = 0 := by omega
    go_region
    all_goals
      go_wp2
      refine bodyPost_ret (v := .agg #[.int .i64 x, .int .i64 y]) (by simp [results, Try.results86, go_sem, c10, c11]) rfl ⟨by rw [HN.out.redN, HN.out.redD], ?_⟩
      repeat (first | exact HB.out | refine Below.setCell ?_ (by simp) _ | refine Below.drew ?_)
end Go.Proofs.Ytedkeobhcpbigaa
/- Fractions: the program's made fraction, its sums and its products. -/
namespace Go.Proofs.Ytedkeobhcpbigaa
open Go.RowKit
theorem red_cop {n d : Int} (hd : d ≠ 0) : Int.gcd (redN n d) (redD n d) = 1 := by
  have hp := Int.gcd_pos_of_ne_zero_right n hd
  have h := Int.gcd_ediv_gcd_ediv_gcd hp
  unfold redN redD sgn
  by_cases hneg : d < 0
  · rw [if_pos hneg, if_pos hneg, Int.neg_ediv_of_dvd (Int.gcd_dvd_left n d), Int.neg_ediv_of_dvd (Int.gcd_dvd_right n d), Int.neg_gcd, Int.gcd_neg]
    exact h
  · rw [if_neg hneg, if_neg hneg]
    exact h
theorem div_in {m g : Int} (hg : 0 < g) (h0 : -1000000000 ≤ m) (h1 : m ≤ 1000000000) (hd : g ∣ m) : -1000000000 ≤ m / g ∧ m / g ≤ 1000000000 := by
  obtain ⟨k, rfl⟩ := hd
  rw [Int.mul_ediv_cancel_left _ (by omega)]
  rcases Int.lt_or_le k 0 with h | h
  · have : g * k ≤ 1 * k := Int.mul_le_mul_of_nonpos_right (by omega) (by omega)
    omega
  · have : 1 * k ≤ g * k := Int.mul_le_mul_of_nonneg_right (by omega) (by omega)
    omega
theorem sgn_in {d n : Int} (h0 : -1000000000 ≤ n) (h1 : n ≤ 1000000000) : -1000000000 ≤ sgn d n ∧ sgn d n ≤ 1000000000 := by
  unfold sgn
  split <;> omega
/-- In range, and not over 0: the reduced fraction is valid. -/
theorem red_in {n d : Int} (hd : d ≠ 0) (h1 : inR n (-1000000000) 1000000000 = true) (h2 : inR d (-1000000000) 1000000000 = true) : isR (redN n d) (redD n d) = true := by
  obtain ⟨a, b⟩ := inR_true.1 h1
  obtain ⟨c, e⟩ := inR_true.1 h2
  have hg := gcd_pos (n := n) hd
  have s1 := sgn_in (d := d) a b
  have s2 := sgn_in (d := d) c e
  have b1 := div_in hg s1.1 s1.2 (sgn_dvd (Int.gcd_dvd_left n d))
  have b2 := div_in hg s2.1 s2.2 (sgn_dvd (Int.gcd_dvd_right n d))
  refine isR_true.2 ⟨b1.1, b1.2, ?_, b2.2, red_cop hd⟩
  have e2 := red_den (n := n) (d := d)
  have e3 : 0 < sgn d d := by unfold sgn; split <;> omega
  rcases Int.lt_or_le 0 (redD n d) with h | h
  · omega
  · have : redD n d * (Int.gcd n d : Int) ≤ 0 * (Int.gcd n d : Int) := Int.mul_le_mul_of_nonneg_right h (by omega)
    omega
theorem mr_made {n d : Int} (hd : d ≠ 0) (h1 : inR n (-1000000000) 1000000000 = true) (h2 : inR d (-1000000000) 1000000000 = true) : mrN n d = redN n d ∧ mrD n d = redD n d ∧ mrOk n d = true := by
  obtain ⟨e1, e2, e3⟩ := mr_yes h1 h2
  obtain ⟨f1, f2, f3⟩ := mk_true hd (red_in hd h1 h2)
  exact ⟨e1.trans f2, e2.trans f3, e3.trans f1⟩
theorem mr_zero {n d : Int} (hd : d = 0) (h1 : inR n (-1000000000) 1000000000 = true) (h2 : inR d (-1000000000) 1000000000 = true) : mrN n d = 0 ∧ mrD n d = 0 ∧ mrOk n d = false := by
  obtain ⟨e1, e2, e3⟩ := mr_yes h1 h2
  subst hd
  obtain ⟨f1, f2, f3⟩ := mk_zero n
  exact ⟨e1.trans f2, e2.trans f3, e3.trans f1⟩
set_option maxHeartbeats 1600000 in
theorem mkRat_any (n d : Int) (w : World) (_hn : IsI64 n) (_hd : IsI64 d) : Calls Try.prog 64 #[.int .i64 n, .int .i64 d] w (RatRes (mrN n d) (mrD n d) (mrOk n d) w) := by
  by_cases ok : inR n (-1000000000) 1000000000 = true ∧ inR d (-1000000000) 1000000000 = true ∧ d ≠ 0
  · obtain ⟨h1, h2, h3⟩ := ok
    have HM := Lib.hid (mr_made h3 h1 h2)
    obtain ⟨a, b⟩ := inR_true.1 h1
    obtain ⟨c, e⟩ := inR_true.1 h2
    go_enter Try.func64, Try.ntmps64
    go_wp2_with (first | (go_at_call 43; refine (inRange_any _ _ _ _).mono ?_; rintro e w' ⟨rfl, rfl⟩) | (go_at_call 86; refine (reduced_any n d _ h3 (by omega) (by omega) (by omega) (by omega)).mono ?_; rintro e w1 ⟨rfl, hb⟩; have c10 : w1.cell? ⟨w.heap.size, 0, none⟩ = some (.int .i64 0) := (hb.cell (p := ⟨w.heap.size, 0, none⟩) (by simp <;> omega)).trans (by go_simp); have c11 : w1.cell? ⟨w.heap.size, 1, none⟩ = some (.int .i64 0) := (hb.cell (p := ⟨w.heap.size, 1, none⟩) (by simp <;> omega)).trans (by go_simp); have f10 : w1.frozen? ⟨w.heap.size, 0, none⟩ = false := (hb.frozen (p := ⟨w.heap.size, 0, none⟩) (by simp <;> omega)).trans (by go_simp); have f11 : w1.frozen? ⟨w.heap.size, 1, none⟩ = false := (hb.frozen (p := ⟨w.heap.size, 1, none⟩) (by simp <;> omega)).trans (by go_simp); have HB := Lib.hid (Below.trans (show Below w.heap.size w _ by repeat (first | exact Below.refl _ _ | refine Below.alloc ?_ (by simp) _ | refine Below.drew ?_)) (hb.mono (by simp <;> omega))); clear hb))
    refine bodyPost_ret (v := .tuple #[.agg #[.int .i64 (redN n d), .int .i64 (redD n d)], .bool true]) (by simp [results, Try.results64, go_sem, c10, c11]) rfl ⟨by rw [HM.out.1, HM.out.2.1, HM.out.2.2], ?_⟩
    repeat (first | exact HB.out | refine Below.setCell ?_ (by simp) _)
  · have HM : Hid (mrN n d = 0 ∧ mrD n d = 0 ∧ mrOk n d = false) := Lib.hid (by
      cases h1 : inR n (-1000000000) 1000000000
      · exact mr_none (by rw [h1]; rfl)
      · cases h2 : inR d (-1000000000) 1000000000
        · exact mr_none (by rw [h1, h2]; rfl)
        · exact mr_zero (by rcases Classical.em (d = 0) with h | h; exact h; exact absurd ⟨h1, h2, h⟩ ok) h1 h2)
    have HO := Lib.hid ok
    clear ok
    cases h1 : inR n (-1000000000) 1000000000
    · go_enter Try.func64, Try.ntmps64
      go_wp2_with (go_at_call 43; refine (inRange_any _ _ _ _).mono ?_; rintro e w' ⟨rfl, rfl⟩)
      refine bodyPost_ret (v := .tuple #[.agg #[.int .i64 0, .int .i64 0], .bool false]) (by simp [results, Try.results64, go_sem]) rfl ⟨by rw [HM.out.1, HM.out.2.1, HM.out.2.2], ?_⟩
      repeat (first | exact Below.refl _ _ | refine Below.alloc ?_ (by simp) _ | refine Below.setCell ?_ (by simp) _)
    · cases h2 : inR d (-1000000000) 1000000000
      · go_enter Try.func64, Try.ntmps64
        go_wp2_with (go_at_call 43; refine (inRange_any _ _ _ _).mono ?_; rintro e w' ⟨rfl, rfl⟩)
        refine bodyPost_ret (v := .tuple #[.agg #[.int .i64 0, .int .i64 0], .bool false]) (by simp [results, Try.results64, go_sem]) rfl ⟨by rw [HM.out.1, HM.out.2.1, HM.out.2.2], ?_⟩
        repeat (first | exact Below.refl _ _ | refine Below.alloc ?_ (by simp) _ | refine Below.setCell ?_ (by simp) _)
      · have h3 : d = 0 := by rcases Classical.em (d = 0) with h | h; exact h; exact absurd ⟨h1, h2, h⟩ HO.out
        clear HO
        subst h3
        go_enter Try.func64, Try.ntmps64
        go_wp2_with (go_at_call 43; refine (inRange_any _ _ _ _).mono ?_; rintro e w' ⟨rfl, rfl⟩)
        refine bodyPost_ret (v := .tuple #[.agg #[.int .i64 0, .int .i64 0], .bool false]) (by simp [results, Try.results64, go_sem]) rfl ⟨by rw [HM.out.1, HM.out.2.1, HM.out.2.2], ?_⟩
        repeat (first | exact Below.refl _ _ | refine Below.alloc ?_ (by simp) _ | refine Below.setCell ?_ (by simp) _)
/-! ### Sums and products -/
end Go.Proofs.Ytedkeobhcpbigaa
/- Fractions: the program's sums and products, through a bound method. -/
namespace Go.Proofs.Ytedkeobhcpbigaa
open Go.RowKit
theorem below_alloc3 (W : World) (x y z : Obj) : Below W.heap.size W (((W.alloc x).alloc y).alloc z) :=
  (((Below.refl _ _).alloc (Nat.le_refl _) x).alloc (by simp) y).alloc (by simp <;> omega) z
theorem below_next {W w w' : World} (h : Below W.heap.size W w) (hb : Below w.heap.size w w') : Below W.heap.size W w' := h.trans (hb.mono h.size)
theorem below_allocN {W w : World} (h : Below W.heap.size W w) (o : Obj) : Below W.heap.size W (w.alloc o) := h.alloc h.size o

end Go.Proofs.Ytedkeobhcpbigaa
