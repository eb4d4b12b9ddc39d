/- The guard of the general laws. -/
import Derived.Test.YtbjjgcfmdlinaaaIntW
namespace Go.Proofs.Ytbjjgcfmdlinaaa
open Go.RowKit
theorem big_no (W : World) (a : Option Addr) (len cap : Nat) (hl : len ≤ 1048576) : Calls Try.prog 9 #[.slice a len cap] W fun e w' => e = .returned (.bool false) ∧ W = w' := by
  go_enter Try.func9, Try.ntmps9
  go_wp2
  go_ret
  exact ⟨ret_bool (by simp; omega), rfl⟩
theorem big_yes (W : World) (a : Option Addr) (len cap : Nat) (hl : ¬ len ≤ 1048576) : Calls Try.prog 9 #[.slice a len cap] W fun e w' => e = .returned (.bool true) ∧ W = w' := by
  go_enter Try.func9, Try.ntmps9
  go_wp2
  go_ret
  exact ⟨ret_bool (by simp; omega), rfl⟩
end Go.Proofs.Ytbjjgcfmdlinaaa
