/- Fractions: the model's opposites, comparisons and made fractions; what the laws do to a fraction. -/
import Derived.Test.YtbclnklejleobaaRatA
namespace Go.Proofs.Ytbclnklejleobaa
open Go.RowKit
/-- A fraction. -/
def RatV (x y : Int) (w : World) (e : Ending) (w' : World) : Prop := e = .returned (.agg #[.int .i64 x, .int .i64 y]) ∧ Below w.heap.size w w'
theorem neg_yes {a b : Int} (h : isR a b = true) : negN a b = -a ∧ negD a b = b := by
  have v := isR_true.1 h
  unfold negN negD
  rw [if_pos v, if_pos v]
  exact ⟨rfl, rfl⟩
theorem neg_none {a b : Int} (h : isR a b = false) : negN a b = 0 ∧ negD a b = 0 := by
  have v := isR_false.1 h
  unfold negN negD
  rw [if_neg v, if_neg v]
  exact ⟨rfl, rfl⟩
theorem cmp_yes {a b c d : Int} (h1 : isR a b = true) (h2 : isR c d = true) : cmpV a b c d = if a * d < c * b then -1 else if c * b < a * d then 1 else 0 := by
  unfold cmpV
  rw [if_pos ⟨isR_true.1 h1, isR_true.1 h2⟩]
theorem cmp_none {a b c d : Int} (h : ¬ (isR a b = true ∧ isR c d = true)) : cmpV a b c d = 0 := by
  unfold cmpV
  rw [if_neg fun x => h ⟨isR_true.2 x.1, isR_true.2 x.2⟩]
def mrOk (n d : Int) : Bool := inR n (-1000000000) 1000000000 && (inR d (-1000000000) 1000000000 && mkOk n d)
def mrN (n d : Int) : Int := if inR n (-1000000000) 1000000000 && inR d (-1000000000) 1000000000 then mkN n d else 0
def mrD (n d : Int) : Int := if inR n (-1000000000) 1000000000 && inR d (-1000000000) 1000000000 then mkD n d else 0
theorem mr_yes {n d : Int} (h1 : inR n (-1000000000) 1000000000 = true) (h2 : inR d (-1000000000) 1000000000 = true) : mrN n d = mkN n d ∧ mrD n d = mkD n d ∧ mrOk n d = mkOk n d := by
  simp [mrN, mrD, mrOk, h1, h2]
theorem mr_none {n d : Int} (h : (inR n (-1000000000) 1000000000 && inR d (-1000000000) 1000000000) = false) : mrN n d = 0 ∧ mrD n d = 0 ∧ mrOk n d = false := by
  unfold mrN mrD mrOk
  rw [← Bool.and_assoc, h]
  simp
/-! What the laws do to a fraction. -/
end Go.Proofs.Ytbclnklejleobaa
