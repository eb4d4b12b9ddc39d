/- The guard of the general laws. -/
import Derived.Test.YtgninjdnfidpcaaIntW
namespace Go.Proofs.Ytgninjdnfidpcaa
open Go.RowKit
theorem big_no (W : World) (a : Option Addr) (len cap : Nat) (hl : len ≤ 1048576) : Calls Try.prog 12 #[.slice a len cap] W fun e w' => e = .returned (.bool false) ∧ W = w' := by
  go_enter Try.func12, Try.ntmps12
  go_wp2
  go_ret
  exact ⟨ret_bool (by simp; omega), rfl⟩
theorem big_yes (W : World) (a : Option Addr) (len cap : Nat) (hl : ¬ len ≤ 1048576) : Calls Try.prog 12 #[.slice a len cap] W fun e w' => e = .returned (.bool true) ∧ W = w' := by
  go_enter Try.func12, Try.ntmps12
  go_wp2
  go_ret
  exact ⟨ret_bool (by simp; omega), rfl⟩
end Go.Proofs.Ytgninjdnfidpcaa
