/- How the model clears a column of a row. -/
import Derived.Test.YthcinjlghhfhmaaLead
import Derived.Test.YthcinjlghhfhmaaStepSl
import Derived.Deep.RegionHeld3
import Derived.Test.YthcinjlghhfhmaaMat
import Derived.Test.YthcinjlghhfhmaaRatI
namespace Go.Proofs.Ythcinjlghhfhmaa
open Go.RowKit
theorem mul_fit {x y A B C : Int} (hx : -A ≤ x ∧ x ≤ A) (hy : -B ≤ y ∧ y ≤ B) (hA : 0 ≤ A) (hB : 0 ≤ B) (hC : A * B = C) : -C ≤ x * y ∧ x * y ≤ C := by
  have h : (x * y).natAbs ≤ A.toNat * B.toNat := by
    rw [Int.natAbs_mul]
    exact Nat.mul_le_mul (by omega) (by omega)
  have h2 : ((A.toNat * B.toNat : Nat) : Int) = C := by
    rw [← hC, Int.natCast_mul]
    congr 1 <;> omega
  omega
/-- The products and their difference stay in range. -/
theorem comb_fit {x y u t : Int} (hx : -2000000000 ≤ x ∧ x ≤ 2000000000) (hy : -2000000000 ≤ y ∧ y ≤ 2000000000) (hu : -1000000000 ≤ u ∧ u ≤ 1000000000) (ht : -1000000000 ≤ t ∧ t ≤ 1000000000) :
    (-2000000000000000000 ≤ x * u ∧ x * u ≤ 2000000000000000000) ∧ (-2000000000000000000 ≤ y * t ∧ y * t ≤ 2000000000000000000) ∧ -4000000000000000000 ≤ x * u - y * t ∧ x * u - y * t ≤ 4000000000000000000 := by
  have h1 := mul_fit hx hu (by decide) (by decide) (C := 2000000000000000000) (by decide)
  have h2 := mul_fit hy ht (by decide) (by decide) (C := 2000000000000000000) (by decide)
  refine ⟨h1, h2, ?_, ?_⟩ <;> omega
theorem combL_fit {a p : List Int} {k : Nat} (ha : Fit 2000000000 a) (hp : Fit 2000000000 p) (hak : -1000000000 ≤ vec a k ∧ vec a k ≤ 1000000000) (hpk : -1000000000 ≤ vec p k ∧ vec p k ≤ 1000000000) : Fit 4000000000000000000 (combL a p k) := by
  intro j
  rcases Nat.lt_or_ge j a.length with hj | hj
  · rw [combL_at hj]
    exact (comb_fit (ha j) (hp j) hpk hak).2.2
  · rw [vec_beyond (by rw [combL_len]; exact hj)]
    decide
theorem combL_next {a p : List Int} {k j : Nat} (hj : j < a.length) : (combL a p k).take j ++ [vec a j * vec p k - vec p j * vec a k] = (combL a p k).take (j + 1) := by
  rw [List.take_succ_eq_append_getElem (by rw [combL_len]; exact hj)]
  have := combL_at (p := p) (k := k) hj
  rw [← this]
  simp [vec, List.getD, combL_len, hj]
end Go.Proofs.Ythcinjlghhfhmaa
/- How the program makes a row tidy in place. -/
namespace Go.Proofs.Ythcinjlghhfhmaa
open Go.RowKit
theorem startV_lead {zs : List Int} (h : leadL zs < zs.length) : startV zs = (leadL zs : Int) := by unfold startV; rw [if_neg (by omega)]
theorem startV_none {zs : List Int} (h : leadL zs = zs.length) : startV zs = -1 := by unfold startV; rw [if_pos h]
end Go.Proofs.Ythcinjlghhfhmaa
/- How the program clears a column of a row in place. -/
namespace Go.Proofs.Ythcinjlghhfhmaa
open Go.RowKit
end Go.Proofs.Ythcinjlghhfhmaa
