/- MatrixOf: in plain words, and the model's. -/
import Derived.Test.YtjckcggjmcaaoaaSlQ
import Derived.Test.YtjckcggjmcaaoaaAppM
import Derived.Test.YtjckcggjmcaaoaaNetR
import Derived.Test.YtjckcggjmcaaoaaSlW
namespace Go.Proofs.Ytjckcggjmcaaoaa
open Go.RowKit
/-- A row for each probe. -/
def matQ (ps : List Prb) (n : Int) (k : Nat) : List (List Int) := (ps.take k).map fun p => rowA p.2.2 n
theorem matQ_zero (ps : List Prb) (n : Int) : matQ ps n 0 = [] := rfl
theorem matQ_succ {ps : List Prb} {n : Int} {k : Nat} (h : k < ps.length) : matQ ps n (k + 1) = matQ ps n k ++ [rowA (prb ps k).2.2 n] := by
  unfold matQ
  rw [List.take_add_one, List.map_append]
  congr 1
  simp [prb, List.getD, h]
theorem rowA_six (p : List Int) (n : Int) : (rowA p n).length ≤ 6 := by
  unfold rowA
  split
  · rename_i h
    have := inR_true.1 h
    rw [rowL_len]
    omega
  · exact Nat.zero_le _
theorem matQ_small {ps : List Prb} {len : Nat} (h : SmallM (pathsOf ps)) (hl : ps.length = len) (n : Int) : SmallW (matQ ps n len) := by
  have e : (matQ ps n len).length = len := by simp [matQ]; omega
  have hr : ∀ i, i < (matQ ps n len).length → (row (matQ ps n len) i).length ≤ 6 := fun i hi => by
    have hi2 : i < ps.length := by omega
    have : row (matQ ps n len) i = rowA (prb ps i).2.2 n := by
      subst hl
      simp [row, matQ, prb, List.getD, hi2]
    rw [this]
    exact rowA_six _ _
  have ht := tot_cap hr len (by omega)
  unfold SmallM at h
  rw [pathsOf_len] at h
  unfold SmallW
  rw [e]
  omega
end Go.Proofs.Ytjckcggjmcaaoaa
