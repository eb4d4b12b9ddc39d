/- What the library's package-level variables hold, kept by every call that only makes new blocks. -/
import Derived.Test.YtjijcnkgdmjnoaaDoorProg
import Derived.WalkKit
import Derived.ProofKit
import Derived.WalkSmall
import Derived.Lib.LaidTab
import Derived.Lib.ItoaNum
namespace Go.Proofs.YtjijcnkgdmjnoaaDoor
open Go.RowKit
theorem gPow : Tryd.prog.globalNamed "internal/strconv.uint64pow10" = some 2 := by kernel_rfl
theorem gSyn : Tryd.prog.globalNamed "strconv.ErrSyntax" = some 0 := by kernel_rfl
theorem gRan : Tryd.prog.globalNamed "strconv.ErrRange" = some 1 := by kernel_rfl
/-- The table of powers, and that there is a block beyond it. -/
def HasTab (W : World) : Prop := Lib.TabIs Tryd.prog W "internal/strconv.uint64pow10" .u64 Lib.pow10Tab ∧ 2 < W.heap.size
theorem HasTab.below {W W' : World} (h : HasTab W) (hb : Below W.heap.size W W') : HasTab W' :=
  ⟨var?_below hb gPow h.2 h.1, Nat.lt_of_lt_of_le h.2 hb.size⟩
def HasErrs (W : World) : Prop := (∃ tp p, W.var? Tryd.prog "strconv.ErrSyntax" = some #[.iface tp p]) ∧ (∃ tp p, W.var? Tryd.prog "strconv.ErrRange" = some #[.iface tp p]) ∧ 0 < W.heap.size ∧ 1 < W.heap.size
theorem HasErrs.below {W W' : World} (h : HasErrs W) (hb : Below W.heap.size W W') : HasErrs W' := by -- 0
  obtain ⟨⟨t1, p1, h1⟩, ⟨t2, p2, h2⟩, g1, g2⟩ := h
  exact ⟨⟨t1, p1, var?_below hb gSyn g1 h1⟩, ⟨t2, p2, var?_below hb gRan g2 h2⟩, Nat.lt_of_lt_of_le g1 hb.size, Nat.lt_of_lt_of_le g2 hb.size⟩
end Go.Proofs.YtjijcnkgdmjnoaaDoor
