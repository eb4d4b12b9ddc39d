/- Fractions: the program's greatest divisor and its check. -/
import Derived.Test.YtbclnklejleobaaRatN
import Derived.Test.YtbclnklejleobaaPair
import Derived.Deep.QuietTactic
namespace Go.Proofs.Ytbclnklejleobaa
open Go.RowKit
theorem tgcd_step {G : Nat} {X Y : Int} (h : Int.gcd X Y = G) : Int.gcd Y (X.tmod Y) = G := by
  rw [← h]
  unfold Int.gcd
  rw [Int.natAbs_tmod, Nat.gcd_comm, ← Nat.gcd_rec, Nat.gcd_comm]
theorem tgcd_end {G : Nat} {X : Int} (h : Int.gcd X 0 = G) : (X.natAbs : Int) = (G : Int) := by
  rw [Int.gcd_zero_right] at h
  omega
theorem tmod_abs {X Y : Int} (h : Y ≠ 0) : -(Y.natAbs : Int) < X.tmod Y ∧ X.tmod Y < (Y.natAbs : Int) := by
  have e := Int.natAbs_tmod X Y
  have l := Nat.mod_lt X.natAbs (show 0 < Y.natAbs by omega)
  omega
set_option maxHeartbeats 800000 in
theorem prgGcd_any (a b : Int) (w : World) (ha0 : -4000000000000000000 ≤ a) (ha1 : a ≤ 4000000000000000000) (hb0 : -4000000000000000000 ≤ b) (hb1 : b ≤ 4000000000000000000) :
    Calls Try.prog 75 #[.int .i64 a, .int .i64 b] w fun e w' => e = .returned (.int .i64 (Int.gcd a b : Int)) ∧ Below w.heap.size w w' := by
  go_enter Try.func75, Try.ntmps75
  go_wp2
  go_loopw [0, 1] (fun p q wr => ∃ X Y : Int, p = .int .i64 X ∧ q = .int .i64 Y ∧ -4000000000000000000 ≤ X ∧ X ≤ 4000000000000000000 ∧ -4000000000000000000 ≤ Y ∧ Y ≤ 4000000000000000000 ∧ Hid (Int.gcd X Y = Int.gcd a b) ∧ Below w.heap.size w wr) (fun _ q _ => (intOf q).natAbs)
  case atStart => exact ⟨a, b, rfl, rfl, ha0, ha1, hb0, hb1, Lib.hid rfl, Below.refl _ _⟩
  case round =>
    obtain ⟨X, Y, rfl, rfl, hX0, hX1, hY0, hY1, HE, hb⟩ := hrel
    have HB := Lib.hid hb
    clear hb
    by_cases hne : Y = 0
    · subst hne
      have HF := Lib.hid (tgcd_end HE.out)
      by_cases hn : X < 0
      · go_wp2
        go_ret
        exact ⟨ret_int (by have := HF.out; omega), HB.out⟩
      · go_wp2
        go_ret
        exact ⟨ret_int (by have := HF.out; omega), HB.out⟩
    · obtain ⟨z, hz⟩ : ∃ z, X.tmod Y = z := ⟨_, rfl⟩
      have HS := Lib.hid (hz ▸ tgcd_step HE.out)
      have hm := tmod_abs (X := X) hne
      rw [hz] at hm
      have HM := Lib.hid hm
      have z0 : -4000000000000000000 ≤ z := by omega
      have z1 : z ≤ 4000000000000000000 := by omega
      clear hm
      go_wp2_with fail
      go_quiet (fail)
      go_wp2
      go_roundw
      case rel => exact ⟨Y, z, rfl, by go_num, hY0, hY1, z0, z1, HS, below_drewN HB.out _⟩
      case measure => have := HM.out; simp [intOf]; omega
end Go.Proofs.Ytbclnklejleobaa
