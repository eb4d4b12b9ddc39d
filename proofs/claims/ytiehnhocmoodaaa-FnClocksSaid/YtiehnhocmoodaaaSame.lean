/- Equal slices are found the same; a byte of the law's input, or its substitute. -/
import Derived.Test.YtiehnhocmoodaaaSlA
import Derived.Test.YtiehnhocmoodaaaDrawNum
import Derived.Test.YtiehnhocmoodaaaBig
namespace Go.Proofs.Ytiehnhocmoodaaa
open Go.RowKit
def RetTrue (W : World) (e : Ending) (w' : World) : Prop := e = .returned (.bool true) ∧ Below W.heap.size W w'
theorem at_any (W : World) (B : Nat) (a : Option Addr) (len cap : Nat) (i : Int) (hl : len ≤ 1048576) (hi0 : 0 ≤ i) (hi1 : i ≤ 1000000) (hc : CodeAt W B a len) : Calls Try.prog 11 #[.slice a len cap, .int .i64 i] W fun e w' => ∃ x : Int, (0 ≤ x ∧ x ≤ 255) ∧ e = .returned (.int .i64 x) ∧ W = w' := by
  by_cases h : i < len
  · rcases hc with h0 | ⟨b, off, rfl, _, hcell⟩
    · omega
    · obtain ⟨c, hcc, hc0, hc1⟩ := hcell i.toNat (by omega)
      clear hcell
      go_enter Try.func11, Try.ntmps11
      go_wp2
      go_ret
      exact ⟨c, ⟨hc0, hc1⟩, rfl, rfl⟩
  · clear hc
    go_enter Try.func11, Try.ntmps11
    go_wp2
    go_ret
    exact ⟨_, ⟨Int.emod_nonneg _ (by decide), by have := Int.emod_lt_of_pos (i * 31 + (len : Int) * 7) (show (0 : Int) < 256 by decide); omega⟩, rfl, rfl⟩
end Go.Proofs.Ytiehnhocmoodaaa
