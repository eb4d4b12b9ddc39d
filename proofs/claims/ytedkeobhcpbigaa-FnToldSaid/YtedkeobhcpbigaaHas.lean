/- Whether a number is in a list, the model's. -/
import Derived.Test.YtedkeobhcpbigaaSlA
import Derived.Test.YtedkeobhcpbigaaIntW
namespace Go.Proofs.Ytedkeobhcpbigaa
open Go.RowKit
theorem next_all {P : Nat → Prop} {k : Nat} (h : ∀ j, j < k → P j) (h1 : P k) : ∀ j, j < k + 1 → P j := fun j hj => by
  rcases Nat.lt_or_eq_of_le (Nat.lt_succ_iff.1 hj) with h2 | h2
  · exact h j h2
  · rw [h2]; exact h1
def hasB (zs : List Int) (x : Int) : Bool := decide (x ∈ zs)
theorem hasB_yes {zs : List Int} {x : Int} {k : Nat} (hk : k < zs.length) (h : zs.getD k 0 = x) : hasB zs x = true := by
  unfold hasB
  rw [← h]
  exact decide_eq_true (getD_mem hk)
theorem hasB_no {zs : List Int} {x : Int} (h : ∀ j, j < zs.length → ¬ zs.getD j 0 = x) : hasB zs x = false := by
  unfold hasB
  refine decide_eq_false fun hm => ?_
  obtain ⟨j, hj, e⟩ := List.getElem_of_mem hm
  exact h j hj (by simp [List.getD, hj, e])
end Go.Proofs.Ytedkeobhcpbigaa
