/- Draws of chapter 5: a matrix and a row. -/
import Derived.Test.YtedkeobhcpbigaaDrawM
import Derived.Test.YtedkeobhcpbigaaIntW
import Derived.Test.YtedkeobhcpbigaaStepSl
import Derived.Deep.RegionHeld3
import Derived.IntWalk
namespace Go.Proofs.Ytedkeobhcpbigaa
open Go.RowKit
/-- A matrix, or what is none, and a row. -/
def GotMR (w : World) (e : Ending) (w' : World) : Prop :=
  ∃ (ms : List (List Int)) (a : Option Addr) (len cap : Nat) (zs : List Int) (b : Option Addr) (lb cb : Nat), SmallM ms ∧ len ≤ 13 ∧ (1 ≤ lb ∧ lb ≤ 6) ∧ e = .returned (.tuple #[.slice a len cap, .slice b lb cb]) ∧ OwnM w' w.heap.size w'.heap.size a len cap ms ∧ Own .i64 3 w' w.heap.size w'.heap.size b lb cb zs ∧ Below w.heap.size w w'
theorem mid_bd (s : Int) : -2 ≤ maxV (-2) (minV 2 s) ∧ maxV (-2) (minV 2 s) ≤ 2 := by
  unfold maxV minV
  split <;> split <;> omega
end Go.Proofs.Ytedkeobhcpbigaa
