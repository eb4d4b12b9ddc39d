/- Groups of addresses are small. -/
import Derived.Test.YtgninjdnfidpcaaAlG
import Derived.Test.YtgninjdnfidpcaaSlW
namespace Go.Proofs.Ytgninjdnfidpcaa
open Go.RowKit
theorem grp_le {xs : List (Int × Int × Int)} : (grpV xs).length ≤ 12 ∧ ∀ k, (row (grpV xs) k).length ≤ 12 := by
  cases h : areR xs
  · rw [grp_none h]
    exact ⟨by simp, fun k => by simp [row]⟩
  · have h1 := grpK_small xs (addr_asc xs) (Nat.le_refl _)
    rw [List.take_length] at h1
    have h2 := addr_len xs
    have h3 := (areR_true.1 h).2
    unfold grpV
    rw [if_pos h]
    exact ⟨by omega, fun k => by have := h1.2 k; omega⟩
theorem grp_smallW (xs : List (Int × Int × Int)) : SmallW (grpV xs) := by
  obtain ⟨h1, h2⟩ := grp_le (xs := xs)
  have h3 := tot_cap (fun i _ => h2 i) (grpV xs).length (Nat.le_refl _)
  unfold SmallW
  omega
end Go.Proofs.Ytgninjdnfidpcaa
