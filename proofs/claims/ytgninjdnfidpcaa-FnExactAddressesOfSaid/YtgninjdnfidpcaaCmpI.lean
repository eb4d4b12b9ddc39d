/- cmp.Compare of two integers. -/
import Derived.Test.YtgninjdnfidpcaaIntW
import Derived.Test.YtgninjdnfidpcaaSlA
namespace Go.Proofs.Ytgninjdnfidpcaa
open Go.RowKit
theorem isNaN_any (x : Int) (w : World) : Calls Try.prog 111 #[.int .i64 x] w fun e w' => e = .returned (.bool false) ∧ w = w' := by
  go_enter Try.func111, Try.ntmps111
  go_wp2
  go_ret
  exact ⟨rfl, rfl⟩
theorem cmpInt_any (x y : Int) (w : World) : Calls Try.prog 100 #[.int .i64 x, .int .i64 y] w fun e w' => e = .returned (.int .i64 (if x < y then -1 else if y < x then 1 else 0)) ∧ w = w' := by
  by_cases l1 : x < y
  · go_enter Try.func100, Try.ntmps100
    go_wp2_with (go_at_call 111; refine (isNaN_any _ _).mono ?_; rintro e w' ⟨rfl, rfl⟩)
    go_ret
    first | exact ⟨rfl, rfl⟩ | exact ⟨ret_int (by rw [if_pos (by omega)]), rfl⟩
  · by_cases l2 : y < x
    · go_enter Try.func100, Try.ntmps100
      go_wp2_with (go_at_call 111; refine (isNaN_any _ _).mono ?_; rintro e w' ⟨rfl, rfl⟩)
      go_ret
      first | exact ⟨rfl, rfl⟩ | exact ⟨ret_int (by rw [if_pos (by omega)]), rfl⟩ | exact ⟨ret_int (by rw [if_neg (by omega), if_pos (by omega)]), rfl⟩
    · go_enter Try.func100, Try.ntmps100
      go_wp2_with (go_at_call 111; refine (isNaN_any _ _).mono ?_; rintro e w' ⟨rfl, rfl⟩)
      go_ret
      first | exact ⟨rfl, rfl⟩ | exact ⟨ret_int (by rw [if_neg (by omega)]), rfl⟩ | exact ⟨ret_int (by rw [if_neg (by omega), if_neg (by omega)]), rfl⟩
theorem cmpIntV_any (x y v : Int) (w : World) (hv : v = if x < y then -1 else if y < x then 1 else 0) : Calls Try.prog 100 #[.int .i64 x, .int .i64 y] w fun e w' => e = .returned (.int .i64 v) ∧ w = w' :=
  hv ▸ cmpInt_any x y w
end Go.Proofs.Ytgninjdnfidpcaa
