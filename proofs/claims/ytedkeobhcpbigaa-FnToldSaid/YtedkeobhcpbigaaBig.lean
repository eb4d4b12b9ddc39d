/- The guard of the general laws. -/
import Derived.Test.YtedkeobhcpbigaaIntW
namespace Go.Proofs.Ytedkeobhcpbigaa
open Go.RowKit
theorem big_no (W : World) (a : Option Addr) (len cap : Nat) (hl : len ≤ 1048576) : Calls Try.prog 10 #[.slice a len cap] W fun e w' => e = .returned (.bool false) ∧ W = w' := by
  go_enter Try.func10, Try.ntmps10
  go_wp2
  go_ret
  exact ⟨ret_bool (by simp; omega), rfl⟩
theorem big_yes (W : World) (a : Option Addr) (len cap : Nat) (hl : ¬ len ≤ 1048576) : Calls Try.prog 10 #[.slice a len cap] W fun e w' => e = .returned (.bool true) ∧ W = w' := by
  go_enter Try.func10, Try.ntmps10
  go_wp2
  go_ret
  exact ⟨ret_bool (by simp; omega), rfl⟩
end Go.Proofs.Ytedkeobhcpbigaa
