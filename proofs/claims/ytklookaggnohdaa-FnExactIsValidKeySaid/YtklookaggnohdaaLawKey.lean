/- The walk of the law on IsValidKey. -/
import Derived.Test.YtklookaggnohdaaKeyed
namespace Go.Proofs.Ytklookaggnohdaa
open Go.RowKit
theorem lawIsValidKey_walk (n0 : Int) (W : World) (_ : (Lit.int .i64 n0).wf = true) : Calls Try.prog 7 #[.int .i64 n0] W fun e W' => e = .returned (.bool true) ∧ Below W.heap.size W W' := by
  go_enter Try.func7, Try.ntmps7
  go_wp2_with (first | (go_at_call 30; refine (specKey_any _ _).mono ?_; rintro e w' ⟨rfl, rfl⟩) | (go_at_call 24; refine (key_any _ _).mono ?_; rintro e w' ⟨rfl, rfl⟩))
  go_ret
  exact ⟨rfl, Below.refl _ _⟩
end Go.Proofs.Ytklookaggnohdaa
