/- The greatest common divisor: the model's. -/
import Derived.Test.YtbclnklejleobaaMinW
import Derived.Test.YtbclnklejleobaaRat
namespace Go.Proofs.Ytbclnklejleobaa
open Go.RowKit
def natI (a : Int) : Int := (a.natAbs : Int)
theorem maxV_abs (a : Int) : maxV a (-a) = natI a := by
  unfold maxV natI
  split <;> omega
/-- The greater of a number and its opposite. -/
def AbsV (a : Int) (w : World) (e : Ending) (w' : World) : Prop := ∃ x : Int, x = natI a ∧ 0 ≤ x ∧ x ≤ 4000000000000000000 ∧ e = .returned (.int .i64 x) ∧ w = w'
theorem specAbs_any (a : Int) (w : World) (h0 : -4000000000000000000 ≤ a) (h1 : a ≤ 4000000000000000000) : Calls Try.prog 67 #[.int .i64 a, .int .i64 (-a)] w (AbsV a w) :=
  (specMax_any a (-a) w).mono fun _ _ ⟨he, hw⟩ => ⟨_, rfl, by unfold natI; omega, by unfold natI; omega, by rw [he, maxV_abs], hw⟩
/-- Euclid's step. -/
def Euclid (G : Nat) (x y : Int) : Prop := Nat.gcd x.toNat y.toNat = G
theorem euclid_step {G : Nat} {x y : Int} (h : Euclid G x y) (hx : 0 ≤ x) (hy : 0 < y) : Euclid G y (x % y) := by
  unfold Euclid at *
  have e : (x % y).toNat = x.toNat % y.toNat := Int.toNat_emod hx (Int.le_of_lt hy)
  rw [e, Nat.gcd_comm, ← Nat.gcd_rec, Nat.gcd_comm]
  exact h
theorem euclid_end {G : Nat} {x y : Int} (h : Euclid G x y) (hx : 0 ≤ x) (hy : y ≤ 0) : x = (G : Int) := by
  unfold Euclid at h
  have : y.toNat = 0 := by omega
  rw [this, Nat.gcd_zero_right] at h
  omega
set_option maxHeartbeats 800000 in
theorem specGcd_any (a b : Int) (w : World) (ha0 : -4000000000000000000 ≤ a) (ha1 : a ≤ 4000000000000000000) (hb0 : -4000000000000000000 ≤ b) (hb1 : b ≤ 4000000000000000000) :
    Calls Try.prog 70 #[.int .i64 a, .int .i64 b] w fun e w' => e = .returned (.int .i64 (Int.gcd a b : Int)) ∧ w = w' := by
  go_enter Try.func70, Try.ntmps70
  go_wp2_with fail
  go_at_call 67
  refine (specAbs_any a w ha0 ha1).mono ?_
  rintro e w' ⟨x, hx, hx0, hx1, rfl, rfl⟩
  have HX := Lib.hid hx
  clear hx
  go_wp2_with fail
  go_at_call 67
  refine (specAbs_any b w hb0 hb1).mono ?_
  rintro e w' ⟨y, hy, hy0, hy1, rfl, rfl⟩
  have HG : Hid (Euclid (Int.gcd a b) x y) := Lib.hid (by rw [HX.out, hy]; unfold Euclid natI; simp [Int.gcd])
  clear hy
  go_wp2_with fail
  go_loop [0, 1] (fun p q => ∃ X Y : Int, p = .int .i64 X ∧ q = .int .i64 Y ∧ 0 ≤ X ∧ X ≤ 4000000000000000000 ∧ 0 ≤ Y ∧ Y ≤ 4000000000000000000 ∧ Euclid (Int.gcd a b) X Y) (fun _ q => (intOf q).toNat)
  case atStart => exact ⟨x, y, rfl, rfl, hx0, hx1, hy0, hy1, HG.out⟩
  case round =>
    obtain ⟨X, Y, rfl, rfl, hX0, hX1, hY0, hY1, hE⟩ := hrel
    have HE := Lib.hid hE
    clear hE
    by_cases hlt : 0 < Y
    · have hm0 := Int.emod_nonneg X (show Y ≠ 0 by omega)
      have hm1 := Int.emod_lt_of_pos X hlt
      have HS := Lib.hid (euclid_step HE.out hX0 hlt)
      go_wp2
      go_round
      case rel => exact ⟨Y, X % Y, rfl, rfl, hY0, hY1, hm0, by omega, HS.out⟩
      case measure => simp [intOf]; omega
    · have HF := Lib.hid (euclid_end HE.out hX0 (by omega))
      go_wp2
      go_ret
      exact ⟨ret_int HF.out, rfl⟩
end Go.Proofs.Ytbclnklejleobaa
