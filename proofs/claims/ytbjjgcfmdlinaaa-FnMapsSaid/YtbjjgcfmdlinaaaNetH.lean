/- Lists without repeats; whether a path is one; the row of a path. -/
import Derived.Test.YtbjjgcfmdlinaaaNetE
import Derived.Test.YtbjjgcfmdlinaaaMapI
import Derived.Test.YtbjjgcfmdlinaaaSlA
import Derived.Test.YtbjjgcfmdlinaaaHas
import Derived.Test.YtbjjgcfmdlinaaaTwP
namespace Go.Proofs.Ytbjjgcfmdlinaaa
open Go.RowKit
def isPathB (ls : List (Int × Int)) (p : List Int) (a b : Int) : Bool := decide p.Nodup && (decide (endV ls p a = b) && (decide (0 ≤ b) || decide (p.length = 0)))
theorem path_dup {ls : List (Int × Int)} {p : List Int} {a b : Int} (h : ¬ p.Nodup) : isPathB ls p a b = false := by
  unfold isPathB
  rw [decide_eq_false h]
  rfl
theorem path_nodup {ls : List (Int × Int)} {p : List Int} {a b : Int} (h : p.Nodup) : isPathB ls p a b = (decide (endV ls p a = b) && (decide (0 ≤ b) || decide (p.length = 0))) := by
  unfold isPathB
  rw [decide_eq_true h]
  rfl
theorem Sees.cut {k : IntKind} {w : World} {a : Option Addr} {len m : Nat} {zs : List Int} (h : Sees k w a len zs) (hm : m ≤ len) : Sees k w a m (zs.take m) := by
  obtain ⟨h1, h2, h3⟩ := h
  refine ⟨by rw [List.length_take, h1]; omega, fun n hn => h2 n (List.mem_of_mem_take hn), ?_⟩
  rcases h3 with h3 | ⟨b, off, ha, hlt, hc⟩
  · exact .inl (by omega)
  · refine .inr ⟨b, off, ha, hlt, fun j hj => ?_⟩
    rw [hc j (by omega)]
    simp [List.getD, hj]
theorem ret_boolV {a b : Bool} (h : a = b) : Ending.returned (.bool a) = .returned (.bool b) := by rw [h]
end Go.Proofs.Ytbjjgcfmdlinaaa
