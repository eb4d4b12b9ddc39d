/- ProbeFor: in plain words, and the model's. -/
import Derived.Test.YtjckcggjmcaaoaaSlQ
import Derived.Test.YtjckcggjmcaaoaaRouM
namespace Go.Proofs.Ytjckcggjmcaaoaa
open Go.RowKit
noncomputable def probeV (n : Int) (ls : List (Int × Int)) (x y : Int) : Prb × Bool := if routeV n ls x y = [] then ((0, 0, []), false) else ((x, y, routeV n ls x y), true)
theorem probeV_no {n : Int} {ls : List (Int × Int)} {x y : Int} (h : (routeV n ls x y).length = 0) : probeV n ls x y = ((0, 0, []), false) := by
  unfold probeV
  rw [if_pos (List.eq_nil_of_length_eq_zero h)]
theorem probeV_yes {n : Int} {ls : List (Int × Int)} {x y : Int} (h : ¬ (routeV n ls x y).length = 0) : probeV n ls x y = ((x, y, routeV n ls x y), true) := by
  unfold probeV
  rw [if_neg (fun e => h (by rw [e]; rfl))]
/-- What a call leaves that makes a probe and says whether there is one. -/
def MadePB (q : Prb × Bool) (w : World) (E : Ending) (w' : World) : Prop :=
  ∃ a len cap, E = .returned (.tuple #[.agg #[.int .i64 q.1.1, .int .i64 q.1.2.1, .slice a len cap], .bool q.2]) ∧ Own .i64 3 w' w.heap.size w'.heap.size a len cap q.1.2.2 ∧ Below w.heap.size w w'
end Go.Proofs.Ytjckcggjmcaaoaa
