/- What the library's package-level variables hold, kept by every call that only makes new blocks. -/
import Derived.Test.YtbclnklejleobaaDoorProg
import Derived.WalkKit
import Derived.ProofKit
import Derived.WalkSmall
import Derived.Lib.LaidTab
import Derived.Lib.ItoaNum
namespace Go.Proofs.YtbclnklejleobaaDoor
open Go.RowKit
theorem gPow : Tryd.prog.globalNamed "internal/strconv.uint64pow10" = some 1 := by kernel_rfl
/-- The table of powers, and that there is a block beyond it. -/
def HasTab (W : World) : Prop := Lib.TabIs Tryd.prog W "internal/strconv.uint64pow10" .u64 Lib.pow10Tab ∧ 1 < W.heap.size
theorem HasTab.below {W W' : World} (h : HasTab W) (hb : Below W.heap.size W W') : HasTab W' :=
  ⟨var?_below hb gPow h.2 h.1, Nat.lt_of_lt_of_le h.2 hb.size⟩
end Go.Proofs.YtbclnklejleobaaDoor
