/- Intervals: plain words, and the model's. -/
import Derived.Test.YthcinjlghhfhmaaIntW
import Derived.Test.YthcinjlghhfhmaaPair
import Derived.Deep.RegionHeld3
import Derived.Deep.DeepCutAuto
import Derived.Tactics2
namespace Go.Proofs.Ythcinjlghhfhmaa
open Go.RowKit
def isV (lo hi : Int) : Bool := inR lo (-100000) 100000 && (inR hi (-100000) 100000 && decide (lo ≤ hi))
theorem isV_true {lo hi : Int} : isV lo hi = true ↔ -100000 ≤ lo ∧ hi ≤ 100000 ∧ lo ≤ hi := by
  unfold isV
  simp only [Bool.and_eq_true, inR_true, decide_eq_true_eq]
  omega
/-- What a call leaves that gives an interval and says whether there is one. -/
def IvRes (x y : Int) (t : Bool) (w : World) (e : Ending) (w' : World) : Prop := e = .returned (.tuple #[.agg #[.int .i64 x, .int .i64 y], .bool t]) ∧ Below w.heap.size w w'
def IvV (x y : Int) (w : World) (e : Ending) (w' : World) : Prop := e = .returned (.agg #[.int .i64 x, .int .i64 y]) ∧ Below w.heap.size w w'
theorem toIv_any (x y : Int) (w : World) : Calls Try.prog 45 #[.agg #[.int .i64 x, .int .i64 y]] w (IvV x y w) := by
  go_enter Try.func45, Try.ntmps45
  go_wp2
  refine bodyPost_ret (v := .agg #[.int .i64 x, .int .i64 y]) (by simp [results, Try.results45, go_sem]) rfl ⟨rfl, ?_⟩
  repeat (first | exact Below.refl _ _ | refine Below.setCell ?_ (by simp <;> omega) _ | refine Below.alloc ?_ (by simp <;> omega) _)
theorem eqIv_yes (x y : Int) (w : World) : Calls Try.prog 51 #[.agg #[.int .i64 x, .int .i64 y], .agg #[.int .i64 x, .int .i64 y]] w fun e w' => e = .returned (.bool true) ∧ Below w.heap.size w w' := by
  go_enter Try.func51, Try.ntmps51
  go_wp2
  go_ret
  exact ⟨rfl, ((Below.refl _ _).alloc (Nat.le_refl _) _).alloc (by simp) _⟩
theorem specIv_any (x y : Int) (w : World) : Calls Try.prog 43 #[.agg #[.int .i64 x, .int .i64 y]] w fun e w' => e = .returned (.bool (isV x y)) ∧ Below w.heap.size w w' := by
  cases hx : inR x (-100000) 100000
  · have HX := Lib.hid hx
    have HE : Hid (false = isV x y) := Lib.hid (by unfold isV; rw [hx]; rfl)
    clear hx
    go_enter Try.func43, Try.ntmps43
    go_wp2_with (go_at_call 42; refine (l1In_any _ _ _ _).mono ?_; rw [HX.out]; rintro e w' ⟨rfl, rfl⟩)
    go_ret
    exact ⟨ret_bool HE.out, (Below.refl _ _).alloc (Nat.le_refl _) _⟩
  · have HX := Lib.hid hx
    cases hy : inR y (-100000) 100000
    · have HY := Lib.hid hy
      have HE : Hid (false = isV x y) := Lib.hid (by unfold isV; rw [hx, hy]; rfl)
      clear hx hy
      go_enter Try.func43, Try.ntmps43
      go_wp2_with (go_at_call 42; refine (l1In_any _ _ _ _).mono ?_; (first | rw [HX.out] | rw [HY.out]); rintro e w' ⟨rfl, rfl⟩)
      go_ret
      exact ⟨ret_bool HE.out, (Below.refl _ _).alloc (Nat.le_refl _) _⟩
    · have HY := Lib.hid hy
      have HE : Hid (decide (x ≤ y) = isV x y) := Lib.hid (by unfold isV; rw [hx, hy]; rfl)
      clear hx hy
      go_enter Try.func43, Try.ntmps43
      go_wp2_with (go_at_call 42; refine (l1In_any _ _ _ _).mono ?_; (first | rw [HX.out] | rw [HY.out]); rintro e w' ⟨rfl, rfl⟩)
      go_ret
      exact ⟨ret_bool HE.out, (Below.refl _ _).alloc (Nat.le_refl _) _⟩
def meetOk (a b c d : Int) : Bool := isV a b && (isV c d && isV (maxV a c) (minV b d))
def meetLo (a b c d : Int) : Int := if meetOk a b c d = true then maxV a c else 0
def meetHi (a b c d : Int) : Int := if meetOk a b c d = true then minV b d else 0
theorem meet_no {a b c d : Int} (h : meetOk a b c d = false) : meetLo a b c d = 0 ∧ meetHi a b c d = 0 := by simp [meetLo, meetHi, h]
theorem meet_yes {a b c d : Int} (h : meetOk a b c d = true) : meetLo a b c d = maxV a c ∧ meetHi a b c d = minV b d := by simp [meetLo, meetHi, h]
/-- A new interval lies in a block of its own. -/
def CutV (W0 : World) (N D : Int) (s : Value) (wx : World) : Prop := ∃ g : Nat, s = .pointer (some ⟨g, 0, none⟩) ∧ PairAt wx g N D ∧ Below W0.heap.size W0 wx
theorem pair_putV {w : World} {g : Nat} {x y : Int} (h : PairAt w g x y) (n d : Int) : PairAt ((w.setCell ⟨g, 0, none⟩ (.int .i64 n)).setCell ⟨g, 1, none⟩ (.int .i64 d)) g n d := by
  obtain ⟨h0, h1, h2, h3, h4⟩ := h
  exact ⟨by go_simp, by go_simp, by go_simp, by go_simp, by simpa [World.setCell] using h4⟩
theorem below_allocV {B : Nat} {W W' : World} (h : Below B W W') (hB : B ≤ W.heap.size) (o : Obj) : Below B W (W'.alloc o) := h.alloc (Nat.le_trans hB h.size) o
def widV (x y : Int) : Int := if isV x y = true then y - x else -1
def offOk (s r b h : Int) : Bool := inR s 0 100000 && (inR r 0 100000 && (inR b 0 100000 && (inR h 0 100000 && decide (b - h ≤ r - s))))
def offLo (s r b h : Int) : Int := if offOk s r b h = true then b - h else 0
def offHi (s r b h : Int) : Int := if offOk s r b h = true then r - s else 0
theorem off_no {s r b h : Int} (q : offOk s r b h = false) : offLo s r b h = 0 ∧ offHi s r b h = 0 := by simp [offLo, offHi, q]
theorem off_yes {s r b h : Int} (q : offOk s r b h = true) : offLo s r b h = b - h ∧ offHi s r b h = r - s := by simp [offLo, offHi, q]
def oneOk (s r x y : Int) : Bool := inR s 0 100000 && (inR r 0 100000 && (isV x y && isV (maxV 0 (r - s - y)) (r - s - x)))
def oneLo (s r x y : Int) : Int := if oneOk s r x y = true then maxV 0 (r - s - y) else 0
def oneHi (s r x y : Int) : Int := if oneOk s r x y = true then r - s - x else 0
theorem one_no {s r x y : Int} (h : oneOk s r x y = false) : oneLo s r x y = 0 ∧ oneHi s r x y = 0 := by simp [oneLo, oneHi, h]
theorem one_yes {s r x y : Int} (h : oneOk s r x y = true) : oneLo s r x y = maxV 0 (r - s - y) ∧ oneHi s r x y = r - s - x := by simp [oneLo, oneHi, h]
end Go.Proofs.Ythcinjlghhfhmaa
