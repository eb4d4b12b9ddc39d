/- Fractions: the program's greatest divisor and its check. -/
import Derived.Test.YthcinjlghhfhmaaRatA
import Derived.Test.YthcinjlghhfhmaaPair
import Derived.Deep.QuietTactic
namespace Go.Proofs.Ythcinjlghhfhmaa
open Go.RowKit
theorem tgcd_step {G : Nat} {X Y : Int} (h : Int.gcd X Y = G) : Int.gcd Y (X.tmod Y) = G := by
  rw [← h]
  unfold Int.gcd
  rw [Int.natAbs_tmod, Nat.gcd_comm, ← Nat.gcd_rec, Nat.gcd_comm]
theorem tgcd_end {G : Nat} {X : Int} (h : Int.gcd X 0 = G) : (X.natAbs : Int) = (G : Int) := by
  rw [Int.gcd_zero_right] at h
  omega
theorem tmod_abs {X Y : Int} (h : Y ≠ 0) : -(Y.natAbs : Int) < X.tmod Y ∧ X.tmod Y < (Y.natAbs : Int) := by
  have e := Int.natAbs_tmod X Y
  have l := Nat.mod_lt X.natAbs (show 0 < Y.natAbs by omega)
  omega
end Go.Proofs.Ythcinjlghhfhmaa
/- Fractions: the program's made fraction, opposite and comparison. -/
namespace Go.Proofs.Ythcinjlghhfhmaa
open Go.RowKit
/-! ### Comparison -/
end Go.Proofs.Ythcinjlghhfhmaa
/- Fractions: the program's reduced fraction. -/
namespace Go.Proofs.Ythcinjlghhfhmaa
open Go.RowKit
/-- The sign taken over by the divisor. -/
structure Cut (n d g q x y : Int) : Prop where
  gcd : (Int.gcd n d : Int) = g
  pos : 0 < g
  sgn : q = if d < 0 then -g else g
  num : n.tdiv q = x
  den : d.tdiv q = y
  x0 : -4000000000000000000 ≤ x
  x1 : x ≤ 4000000000000000000
  y0 : -4000000000000000000 ≤ y
  y1 : y ≤ 4000000000000000000
  g1 : g ≤ 4000000000000000000
  redN : redN n d = x
  redD : redD n d = y
theorem gcd_top {n d : Int} (h : d ≠ 0) (h0 : -4000000000000000000 ≤ d) (h1 : d ≤ 4000000000000000000) : (Int.gcd n d : Int) ≤ 4000000000000000000 := by
  have h2 : Int.gcd n d ∣ d.natAbs := Int.gcd_dvd_natAbs_right n d
  have h3 := Nat.le_of_dvd (by omega) h2
  omega
theorem cut_any {n d : Int} (hd : d ≠ 0) (h0 : -4000000000000000000 ≤ n) (h1 : n ≤ 4000000000000000000) (h2 : -4000000000000000000 ≤ d) (h3 : d ≤ 4000000000000000000) : ∃ g q x y, Cut n d g q x y := by
  have ht := gcd_top (n := n) hd h2 h3
  by_cases hneg : d < 0
  · obtain ⟨g, x, y, N⟩ := normal_neg (n := n) (d := d) hneg h0 h1 h2
    have eg : (Int.gcd n d : Int) = g := by rw [← N.gcd, Int.neg_gcd, Int.gcd_neg]
    exact ⟨g, -g, x, y, eg, N.pos, by rw [if_pos hneg], by rw [Int.tdiv_neg, ← Int.neg_tdiv]; exact N.num, by rw [Int.tdiv_neg, ← Int.neg_tdiv]; exact N.den, N.x0, N.x1, N.y0, N.y1, by omega, N.redN, N.redD⟩
  · obtain ⟨g, x, y, N⟩ := normal_pos (n := n) (d := d) (by omega) h0 h1 h3
    exact ⟨g, g, x, y, N.gcd, N.pos, by rw [if_neg hneg], N.num, N.den, N.x0, N.x1, N.y0, N.y1, by have := N.gcd; omega, N.redN, N.redD⟩
end Go.Proofs.Ythcinjlghhfhmaa
/- Fractions: the program's made fraction, its sums and its products. -/
namespace Go.Proofs.Ythcinjlghhfhmaa
open Go.RowKit
theorem red_cop {n d : Int} (hd : d ≠ 0) : Int.gcd (redN n d) (redD n d) = 1 := by
  have hp := Int.gcd_pos_of_ne_zero_right n hd
  have h := Int.gcd_ediv_gcd_ediv_gcd hp
  unfold redN redD sgn
  by_cases hneg : d < 0
  · rw [if_pos hneg, if_pos hneg, Int.neg_ediv_of_dvd (Int.gcd_dvd_left n d), Int.neg_ediv_of_dvd (Int.gcd_dvd_right n d), Int.neg_gcd, Int.gcd_neg]
    exact h
  · rw [if_neg hneg, if_neg hneg]
    exact h
theorem div_in {m g : Int} (hg : 0 < g) (h0 : -1000000000 ≤ m) (h1 : m ≤ 1000000000) (hd : g ∣ m) : -1000000000 ≤ m / g ∧ m / g ≤ 1000000000 := by
  obtain ⟨k, rfl⟩ := hd
  rw [Int.mul_ediv_cancel_left _ (by omega)]
  rcases Int.lt_or_le k 0 with h | h
  · have : g * k ≤ 1 * k := Int.mul_le_mul_of_nonpos_right (by omega) (by omega)
    omega
  · have : 1 * k ≤ g * k := Int.mul_le_mul_of_nonneg_right (by omega) (by omega)
    omega
theorem sgn_in {d n : Int} (h0 : -1000000000 ≤ n) (h1 : n ≤ 1000000000) : -1000000000 ≤ sgn d n ∧ sgn d n ≤ 1000000000 := by
  unfold sgn
  split <;> omega
/-- In range, and not over 0: the reduced fraction is valid. -/
theorem red_in {n d : Int} (hd : d ≠ 0) (h1 : inR n (-1000000000) 1000000000 = true) (h2 : inR d (-1000000000) 1000000000 = true) : isR (redN n d) (redD n d) = true := by
  obtain ⟨a, b⟩ := inR_true.1 h1
  obtain ⟨c, e⟩ := inR_true.1 h2
  have hg := gcd_pos (n := n) hd
  have s1 := sgn_in (d := d) a b
  have s2 := sgn_in (d := d) c e
  have b1 := div_in hg s1.1 s1.2 (sgn_dvd (Int.gcd_dvd_left n d))
  have b2 := div_in hg s2.1 s2.2 (sgn_dvd (Int.gcd_dvd_right n d))
  refine isR_true.2 ⟨b1.1, b1.2, ?_, b2.2, red_cop hd⟩
  have e2 := red_den (n := n) (d := d)
  have e3 : 0 < sgn d d := by unfold sgn; split <;> omega
  rcases Int.lt_or_le 0 (redD n d) with h | h
  · omega
  · have : redD n d * (Int.gcd n d : Int) ≤ 0 * (Int.gcd n d : Int) := Int.mul_le_mul_of_nonneg_right h (by omega)
    omega
theorem mr_made {n d : Int} (hd : d ≠ 0) (h1 : inR n (-1000000000) 1000000000 = true) (h2 : inR d (-1000000000) 1000000000 = true) : mrN n d = redN n d ∧ mrD n d = redD n d ∧ mrOk n d = true := by
  obtain ⟨e1, e2, e3⟩ := mr_yes h1 h2
  obtain ⟨f1, f2, f3⟩ := mk_true hd (red_in hd h1 h2)
  exact ⟨e1.trans f2, e2.trans f3, e3.trans f1⟩
theorem mr_zero {n d : Int} (hd : d = 0) (h1 : inR n (-1000000000) 1000000000 = true) (h2 : inR d (-1000000000) 1000000000 = true) : mrN n d = 0 ∧ mrD n d = 0 ∧ mrOk n d = false := by
  obtain ⟨e1, e2, e3⟩ := mr_yes h1 h2
  subst hd
  obtain ⟨f1, f2, f3⟩ := mk_zero n
  exact ⟨e1.trans f2, e2.trans f3, e3.trans f1⟩
/-! ### Sums and products -/
end Go.Proofs.Ythcinjlghhfhmaa
/- Fractions: the program's sums and products, through a bound method. -/
namespace Go.Proofs.Ythcinjlghhfhmaa
open Go.RowKit
theorem below_alloc3 (W : World) (x y z : Obj) : Below W.heap.size W (((W.alloc x).alloc y).alloc z) :=
  (((Below.refl _ _).alloc (Nat.le_refl _) x).alloc (by simp) y).alloc (by simp <;> omega) z
theorem below_next {W w w' : World} (h : Below W.heap.size W w) (hb : Below w.heap.size w w') : Below W.heap.size W w' := h.trans (hb.mono h.size)
theorem below_allocN {W w : World} (h : Below W.heap.size W w) (o : Obj) : Below W.heap.size W (w.alloc o) := h.alloc h.size o

end Go.Proofs.Ythcinjlghhfhmaa
