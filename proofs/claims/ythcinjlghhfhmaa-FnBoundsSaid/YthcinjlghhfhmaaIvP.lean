/- The program's chapter on clocks. -/
import Derived.Test.YthcinjlghhfhmaaIvA
import Derived.Test.YthcinjlghhfhmaaDraw
import Derived.Test.YthcinjlghhfhmaaRow
namespace Go.Proofs.Ythcinjlghhfhmaa
open Go.RowKit
theorem isV_no {x y : Int} (h : ¬ (-100000 ≤ x ∧ y ≤ 100000 ∧ x ≤ y)) : isV x y = false := by
  cases hv : isV x y
  · rfl
  · exact absurd (isV_true.1 hv) h
theorem ivQ_any (x y : Int) (w : World) : Calls Try.prog 15 #[.agg #[.int .i64 x, .int .i64 y]] w fun e w' => e = .returned (.bool (isV x y)) ∧ Below w.heap.size w w' := by
  by_cases h1 : -100000 ≤ x
  · by_cases h2 : x ≤ y
    · have HE : Hid (decide (y ≤ 100000) = isV x y) := Lib.hid (by
        by_cases h3 : y ≤ 100000
        · rw [decide_eq_true h3, isV_true.2 ⟨h1, h3, h2⟩]
        · rw [decide_eq_false h3, isV_no (by omega)])
      go_enter Try.func15, Try.ntmps15
      go_wp2
      go_ret
      exact ⟨ret_bool HE.out, (Below.refl _ _).alloc (Nat.le_refl _) _⟩
    · have HE : Hid (false = isV x y) := Lib.hid (isV_no (by omega)).symm
      go_enter Try.func15, Try.ntmps15
      go_wp2
      go_ret
      exact ⟨ret_bool HE.out, (Below.refl _ _).alloc (Nat.le_refl _) _⟩
  · have HE : Hid (false = isV x y) := Lib.hid (isV_no (by omega)).symm
    go_enter Try.func15, Try.ntmps15
    go_wp2
    go_ret
    exact ⟨ret_bool HE.out, (Below.refl _ _).alloc (Nat.le_refl _) _⟩
/-- The program's interval from two bounds. -/
def ivLo (x y : Int) : Int := if isV x y = true then x else 0
def ivHi (x y : Int) : Int := if isV x y = true then y else 0
theorem isStP_any (n : Int) (w : World) : Calls Try.prog 65 #[.int .i64 n] w fun e w' => e = .returned (.bool (inR n 0 100000)) ∧ w = w' := by
  go_enter Try.func65, Try.ntmps65
  go_wp2_with (go_at_call 39; refine (inRange_any _ _ _ _).mono ?_; rintro e w' ⟨rfl, rfl⟩)
  go_ret
  exact ⟨rfl, rfl⟩
theorem andB4 {a b c d : Bool} : (a && (b && (c && d))) = true ↔ a = true ∧ b = true ∧ c = true ∧ d = true := by cases a <;> cases b <;> cases c <;> cases d <;> simp
def fLo (xs : List (Int × Int)) : Int := ((allK xs xs.length).getD (0, 0)).1
def fHi (xs : List (Int × Int)) : Int := ((allK xs xs.length).getD (0, 0)).2
def fOk (xs : List (Int × Int)) : Bool := (allK xs xs.length).isSome
theorem f_stop {xs : List (Int × Int)} {k : Nat} (h : allK xs k = none) : fLo xs = 0 ∧ fHi xs = 0 ∧ fOk xs = false := by
  unfold fLo fHi fOk
  rw [allK_none h]
  exact ⟨rfl, rfl, rfl⟩
theorem f_end {xs : List (Int × Int)} {p q : Int} (h : allK xs xs.length = some (p, q)) : fLo xs = p ∧ fHi xs = q ∧ fOk xs = true := by
  unfold fLo fHi fOk
  rw [h]
  exact ⟨rfl, rfl, rfl⟩
theorem ivP_any (x y : Int) (w : World) (_ : IsI64 x) (_ : IsI64 y) : Calls Try.prog 15 #[.agg #[.int .i64 x, .int .i64 y]] w fun e w' => e = .returned (.bool (isV x y)) ∧ Below w.heap.size w w' := ivQ_any x y w
end Go.Proofs.Ythcinjlghhfhmaa
