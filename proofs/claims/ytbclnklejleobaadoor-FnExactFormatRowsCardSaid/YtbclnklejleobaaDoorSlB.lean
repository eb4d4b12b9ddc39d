/- What the laws do to slices of bytes: copy, compare, mark, look for the marks. -/
import Derived.Test.YtbclnklejleobaaDoorSl
import Derived.OpenShut
import Derived.Outline
import Derived.LoopTactic
import Derived.Deep.QuietTactic
import Derived.BigQuiet
import Derived.WalkSmall
namespace Go.Proofs.YtbclnklejleobaaDoor
open Go.RowKit
theorem info_u8 : (Tryd.prog.info? 5).map (fun i => (i.zero, i.size, i.bytes)) = some (some (.int .u8 0), 1, 1) := by kernel_rfl
theorem made_row (k : IntKind) (w : World) (lo len g : Nat) (e : TypeId) (h : w.ownsRow lo e 1 (.slice (some ⟨g, 0, none⟩) len len) len (madeCells (Value.int k 0).cells (len * 1)).toList) : Own k e w lo w.heap.size (some ⟨g, 0, none⟩) len len (List.replicate len 0) := by
  refine own_of (n := len) ?_ ?_
  · rw [List.map_replicate]
    have : (Value.int k 0).cells = #[Value.int k 0] := rfl
    rw [this, toList_madeCells_one, Nat.mul_one] at h
    exact h
  · intro n hn
    rw [List.mem_replicate] at hn
    obtain ⟨_, rfl⟩ := hn
    cases k <;> decide
/-- The marks from m on. -/
def marks8 (m : Int) (n : Nat) : List Int := (List.range n).map (fun (j : Nat) => (m + (j : Int)) % 256)
theorem marks8_len (m : Int) (n : Nat) : (marks8 m n).length = n := by simp [marks8]
theorem marks8_at (m : Int) (n j : Nat) (h : j < n) : (marks8 m n).getD j 0 = (m + j) % 256 := by simp [marks8, List.getD, h]
theorem marks8_wf (m : Int) (n : Nat) : ∀ x ∈ marks8 m n, (Lit.int .u8 x).wf = true := by
  intro x hx
  obtain ⟨j, _, rfl⟩ := List.mem_map.1 hx
  exact WalkArith.wf_u8 (by omega)
end Go.Proofs.YtbclnklejleobaaDoor
