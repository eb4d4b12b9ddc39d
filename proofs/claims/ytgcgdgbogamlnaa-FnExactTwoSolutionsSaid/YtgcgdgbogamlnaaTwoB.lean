/- How long two solutions are. -/
import Derived.Test.YtgcgdgbogamlnaaTwoP
import Derived.Test.YtgcgdgbogamlnaaLawR6
namespace Go.Proofs.Ytgcgdgbogamlnaa
open Go.RowKit
theorem twoX_le (ms : List (List Int)) (vs z : List Int) : (twoX ms vs z).length ≤ 6 := by
  unfold twoX
  split
  · exact solL_le _ _ _
  · exact Nat.zero_le _
theorem twoY_le (ms : List (List Int)) (vs z : List Int) : (twoY ms vs z).length ≤ 6 := by
  unfold twoY
  split
  · rename_i h
    rw [plusL_len]
    unfold twoB at h
    exact (aug_ok (solv_sys (Bool.and_eq_true _ _ ▸ h).1)).fine.q6
  · exact Nat.zero_le _
end Go.Proofs.Ytgcgdgbogamlnaa
