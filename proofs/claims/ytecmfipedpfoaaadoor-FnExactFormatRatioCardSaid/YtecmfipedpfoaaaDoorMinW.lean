import Derived.Test.YtecmfipedpfoaaaDoorIntW
import Derived.OpenShut
import Derived.Outline
import Derived.LoopTactic
namespace Go.Proofs.YtecmfipedpfoaaaDoor
open Go.RowKit
def minV (a b : Int) : Int := if b < a then b else a
def maxV (a b : Int) : Int := if a < b then b else a
theorem specMax_any (a b : Int) (w : World) : Calls Tryd.prog 16 #[.int .i64 a, .int .i64 b] w fun e w' => e = .returned (.int .i64 (maxV a b)) ∧ w = w' := by
  by_cases h : a < b
  · go_enter Tryd.func16, Tryd.ntmps16
    go_wp2
    go_ret
    exact ⟨ret_int (by unfold maxV; rw [if_pos (by omega)]), rfl⟩
  · go_enter Tryd.func16, Tryd.ntmps16
    go_wp2
    go_ret
    exact ⟨ret_int (by unfold maxV; rw [if_neg (by omega)]), rfl⟩
end Go.Proofs.YtecmfipedpfoaaaDoor
