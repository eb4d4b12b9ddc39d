/- cmp.Compare of two integers. -/
import Derived.Test.YtbjjgcfmdlinaaaIntW
import Derived.Test.YtbjjgcfmdlinaaaSlA
namespace Go.Proofs.Ytbjjgcfmdlinaaa
open Go.RowKit
theorem isNaN_any (x : Int) (w : World) : Calls Try.prog 86 #[.int .i64 x] w fun e w' => e = .returned (.bool false) ∧ w = w' := by
  go_enter Try.func86, Try.ntmps86
  go_wp2
  go_ret
  exact ⟨rfl, rfl⟩
theorem cmpInt_any (x y : Int) (w : World) : Calls Try.prog 70 #[.int .i64 x, .int .i64 y] w fun e w' => e = .returned (.int .i64 (if x < y then -1 else if y < x then 1 else 0)) ∧ w = w' := by
  by_cases l1 : x < y
  · go_enter Try.func70, Try.ntmps70
    go_wp2_with (go_at_call 86; refine (isNaN_any _ _).mono ?_; rintro e w' ⟨rfl, rfl⟩)
    go_ret
    first | exact ⟨rfl, rfl⟩ | exact ⟨ret_int (by rw [if_pos (by omega)]), rfl⟩
  · by_cases l2 : y < x
    · go_enter Try.func70, Try.ntmps70
      go_wp2_with (go_at_call 86; refine (isNaN_any _ _).mono ?_; rintro e w' ⟨rfl, rfl⟩)
      go_ret
      first | exact ⟨rfl, rfl⟩ | exact ⟨ret_int (by rw [if_pos (by omega)]), rfl⟩ | exact ⟨ret_int (by rw [if_neg (by omega), if_pos (by omega)]), rfl⟩
    · go_enter Try.func70, Try.ntmps70
      go_wp2_with (go_at_call 86; refine (isNaN_any _ _).mono ?_; rintro e w' ⟨rfl, rfl⟩)
      go_ret
      first | exact ⟨rfl, rfl⟩ | exact ⟨ret_int (by rw [if_neg (by omega)]), rfl⟩ | exact ⟨ret_int (by rw [if_neg (by omega), if_neg (by omega)]), rfl⟩
theorem cmpIntV_any (x y v : Int) (w : World) (hv : v = if x < y then -1 else if y < x then 1 else 0) : Calls Try.prog 70 #[.int .i64 x, .int .i64 y] w fun e w' => e = .returned (.int .i64 v) ∧ w = w' :=
  hv ▸ cmpInt_any x y w
end Go.Proofs.Ytbjjgcfmdlinaaa
