/- Fractions: the model's sums, products, opposites and comparisons. -/
import Derived.Test.YtbclnklejleobaaRatS
namespace Go.Proofs.Ytbclnklejleobaa
open Go.RowKit
theorem isR_bd {n d : Int} (h : isR n d = true) : -1000000000 ≤ n ∧ n ≤ 1000000000 ∧ 1 ≤ d ∧ d ≤ 1000000000 := by
  have := isR_true.1 h
  exact ⟨this.1, this.2.1, this.2.2.1, this.2.2.2.1⟩
theorem mul_bd {x y : Int} (h1 : -1000000000 ≤ x) (h2 : x ≤ 1000000000) (h3 : -1000000000 ≤ y) (h4 : y ≤ 1000000000) : -1000000000000000000 ≤ x * y ∧ x * y ≤ 1000000000000000000 := by
  have h : (x * y).natAbs ≤ 1000000000 * 1000000000 := by
    rw [Int.natAbs_mul]
    exact Nat.mul_le_mul (by omega) (by omega)
  omega
def addOk (a b c d : Int) : Bool := decide (AddOk a b c d)
def mulOk (a b c d : Int) : Bool := decide (MulOk a b c d)
theorem add_yes {a b c d : Int} (h1 : isR a b = true) (h2 : isR c d = true) : addN a b c d = mkN (a * d + c * b) (b * d) ∧ addD a b c d = mkD (a * d + c * b) (b * d) ∧ addOk a b c d = mkOk (a * d + c * b) (b * d) := by
  have v1 := isR_true.1 h1
  have v2 := isR_true.1 h2
  unfold addN addD addOk mkOk
  by_cases h : MkOk (a * d + c * b) (b * d)
  · have ok : AddOk a b c d := ⟨v1, v2, h⟩
    rw [if_pos ok, if_pos ok]
    exact ⟨rfl, rfl, by simp [ok, h]⟩
  · have no : ¬ AddOk a b c d := fun x => h x.2.2
    rw [if_neg no, if_neg no]
    exact ⟨(mk_no h).1.symm, (mk_no h).2.symm, by simp [no, h]⟩
theorem add_none {a b c d : Int} (h : ¬ (isR a b = true ∧ isR c d = true)) : addN a b c d = 0 ∧ addD a b c d = 0 ∧ addOk a b c d = false := by
  have no : ¬ AddOk a b c d := fun x => h ⟨isR_true.2 x.1, isR_true.2 x.2.1⟩
  unfold addN addD addOk
  rw [if_neg no, if_neg no]
  exact ⟨rfl, rfl, by simp [no]⟩
theorem mul_yes {a b c d : Int} (h1 : isR a b = true) (h2 : isR c d = true) : mulN a b c d = mkN (a * c) (b * d) ∧ mulD a b c d = mkD (a * c) (b * d) ∧ mulOk a b c d = mkOk (a * c) (b * d) := by
  have v1 := isR_true.1 h1
  have v2 := isR_true.1 h2
  unfold mulN mulD mulOk mkOk
  by_cases h : MkOk (a * c) (b * d)
  · have ok : MulOk a b c d := ⟨v1, v2, h⟩
    rw [if_pos ok, if_pos ok]
    exact ⟨rfl, rfl, by simp [ok, h]⟩
  · have no : ¬ MulOk a b c d := fun x => h x.2.2
    rw [if_neg no, if_neg no]
    exact ⟨(mk_no h).1.symm, (mk_no h).2.symm, by simp [no, h]⟩
theorem mul_none {a b c d : Int} (h : ¬ (isR a b = true ∧ isR c d = true)) : mulN a b c d = 0 ∧ mulD a b c d = 0 ∧ mulOk a b c d = false := by
  have no : ¬ MulOk a b c d := fun x => h ⟨isR_true.2 x.1, isR_true.2 x.2.1⟩
  unfold mulN mulD mulOk
  rw [if_neg no, if_neg no]
  exact ⟨rfl, rfl, by simp [no]⟩
end Go.Proofs.Ytbclnklejleobaa
