/- Fractions: the program's greatest divisor and its check. -/
import Derived.Test.YtecmfipedpfoaaaDoorRatN
import Derived.Test.YtecmfipedpfoaaaDoorPair
import Derived.Deep.QuietTactic
namespace Go.Proofs.YtecmfipedpfoaaaDoor
open Go.RowKit
theorem tgcd_step {G : Nat} {X Y : Int} (h : Int.gcd X Y = G) : Int.gcd Y (X.tmod Y) = G := by
  rw [← h]
  unfold Int.gcd
  rw [Int.natAbs_tmod, Nat.gcd_comm, ← Nat.gcd_rec, Nat.gcd_comm]
theorem tgcd_end {G : Nat} {X : Int} (h : Int.gcd X 0 = G) : (X.natAbs : Int) = (G : Int) := by
  rw [Int.gcd_zero_right] at h
  omega
theorem tmod_abs {X Y : Int} (h : Y ≠ 0) : -(Y.natAbs : Int) < X.tmod Y ∧ X.tmod Y < (Y.natAbs : Int) := by
  have e := Int.natAbs_tmod X Y
  have l := Nat.mod_lt X.natAbs (show 0 < Y.natAbs by omega)
  omega
set_option maxHeartbeats 800000 in
theorem prgGcd_any (a b : Int) (w : World) (ha0 : -4000000000000000000 ≤ a) (ha1 : a ≤ 4000000000000000000) (hb0 : -4000000000000000000 ≤ b) (hb1 : b ≤ 4000000000000000000) :
    Calls Tryd.prog 14 #[.int .i64 a, .int .i64 b] w fun e w' => e = .returned (.int .i64 (Int.gcd a b : Int)) ∧ Below w.heap.size w w' := by
  go_enter Tryd.func14, Tryd.ntmps14
  go_wp2
  go_loopw [0, 1] (fun p q wr => ∃ X Y : Int, p = .int .i64 X ∧ q = .int .i64 Y ∧ -4000000000000000000 ≤ X ∧ X ≤ 4000000000000000000 ∧ -4000000000000000000 ≤ Y ∧ Y ≤ 4000000000000000000 ∧ Hid (Int.gcd X Y = Int.gcd a b) ∧ Below w.heap.size w wr) (fun _ q _ => (intOf q).natAbs)
  case atStart => exact ⟨a, b, rfl, rfl, ha0, ha1, hb0, hb1, Lib.hid rfl, Below.refl _ _⟩
  case round =>
    obtain ⟨X, Y, rfl, rfl, hX0, hX1, hY0, hY1, HE, hb⟩ := hrel
    have HB := Lib.hid hb
    clear hb
    by_cases hne : Y = 0
    · subst hne
      have HF := Lib.hid (tgcd_end HE.out)
      by_cases hn : X < 0
      · go_wp2
        go_ret
        exact ⟨ret_int (by have := HF.out; omega), HB.out⟩
      · go_wp2
        go_ret
        exact ⟨ret_int (by have := HF.out; omega), HB.out⟩
    · obtain ⟨z, hz⟩ : ∃ z, X.tmod Y = z := ⟨_, rfl⟩
      have HS := Lib.hid (hz ▸ tgcd_step HE.out)
      have hm := tmod_abs (X := X) hne
      rw [hz] at hm
      have HM := Lib.hid hm
      have z0 : -4000000000000000000 ≤ z := by omega
      have z1 : z ≤ 4000000000000000000 := by omega
      clear hm
      go_wp2_with fail
      go_quiet (fail)
      go_wp2
      go_roundw
      case rel => exact ⟨Y, z, rfl, by go_num, hY0, hY1, z0, z1, HS, below_drewN HB.out _⟩
      case measure => have := HM.out; simp [intOf]; omega
set_option maxHeartbeats 800000 in
theorem isRat_any (n d : Int) (w : World) (_hn : IsI64 n) (_hd : IsI64 d) : Calls Tryd.prog 9 #[.agg #[.int .i64 n, .int .i64 d]] w fun e w' => e = .returned (.bool (isR n d)) ∧ Below w.heap.size w w' := by
  cases h1 : inR n (-1000000000) 1000000000
  · have HE := Lib.hid (isR_num (d := d) h1)
    go_enter Tryd.func9, Tryd.ntmps9
    go_wp2_with (go_at_call 13; refine (inRange_any _ _ _ _).mono ?_; rintro e w' ⟨rfl, rfl⟩)
    go_ret
    exact ⟨ret_bool HE.out.symm, (Below.refl _ _).alloc (Nat.le_refl _) _⟩
  · cases h2 : inR d 1 1000000000
    · have HE := Lib.hid (isR_den (n := n) h2)
      go_enter Tryd.func9, Tryd.ntmps9
      go_wp2_with (go_at_call 13; refine (inRange_any _ _ _ _).mono ?_; rintro e w' ⟨rfl, rfl⟩)
      go_ret
      exact ⟨ret_bool HE.out.symm, (Below.refl _ _).alloc (Nat.le_refl _) _⟩
    · have HE := Lib.hid (gcd_bool n d h1 h2)
      obtain ⟨a, b⟩ := inR_true.1 h1
      obtain ⟨c, f⟩ := inR_true.1 h2
      go_enter Tryd.func9, Tryd.ntmps9
      go_wp2_with (first | (go_at_call 13; refine (inRange_any _ _ _ _).mono ?_; rintro e w' ⟨rfl, rfl⟩) | (go_at_call 14; refine (prgGcd_any _ _ _ (by omega) (by omega) (by omega) (by omega)).mono ?_; rintro e w1 ⟨rfl, hb⟩; have HB := Lib.hid hb; clear hb))
      go_ret
      exact ⟨ret_bool HE.out, (Below.trans (show Below w.heap.size w _ by repeat (first | exact Below.refl _ _ | refine Below.alloc ?_ (by simp <;> omega) _ | refine Below.drew ?_)) (HB.out.mono (by simp <;> omega)))⟩
end Go.Proofs.YtecmfipedpfoaaaDoor
