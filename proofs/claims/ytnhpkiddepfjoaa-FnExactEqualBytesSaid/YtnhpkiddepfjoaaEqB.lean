/- Byte strings compared: the model's EqualBytes and the program's. -/
import Derived.Test.YtnhpkiddepfjoaaSlB
import Derived.Laws.BytesArg
namespace Go.Proofs.Ytnhpkiddepfjoaa
open Go.RowKit
theorem conv_sees {W : World} {a : Option Addr} {len : Nat} (cap : Nat) {zs : List Int} (h : Sees .u8 W a len zs) : (convert 22 9 (.slice a len cap)).run Try.prog W = .ok (.string (strOfNums zs)) W := by
  obtain ⟨h1, _, h3⟩ := h
  rcases h3 with rfl | ⟨b, off, rfl, _, hc⟩
  · have hz : zs = [] := List.eq_nil_of_length_eq_zero h1
    subst hz
    cases a with
    | none => exact run_convert_bytes_nil W 22 5 Try.underlying22 Try.underlying5 0 cap 9 Try.underlying9
    | some x =>
      obtain ⟨b, off, spot⟩ := x
      cases spot with
      | none => exact run_convert_bytes_arg W 22 5 Try.underlying22 Try.underlying5 b off 0 cap [] rfl (fun i hi => by omega) 9 Try.underlying9
      | some _ =>
        rw [run_convert_bytes_string W 22 9 5 _ 0 cap Try.underlying22 Try.underlying5 Try.underlying9]
        rw [run_bytesToString W _ 0 cap [] (by simp [loadCells, loadCellsFrom])]
        rfl
  · exact run_convert_bytes_arg W 22 5 Try.underlying22 Try.underlying5 b off len cap zs h1 hc 9 Try.underlying9
def eqBy (xs ys : List Int) : Bool := (strOfNums xs).toList == (strOfNums ys).toList
theorem specEqualBytes_any (W : World) (a1 : Option Addr) (len1 cap1 : Nat) (a2 : Option Addr) (len2 cap2 : Nat) (xs ys : List Int) (h1 : Sees .u8 W a1 len1 xs) (h2 : Sees .u8 W a2 len2 ys) :
    Calls Try.prog 39 #[.slice a1 len1 cap1, .slice a2 len2 cap2] W fun e w' => e = .returned (.bool (eqBy xs ys)) ∧ Below W.heap.size W w' := by
  have hc1 := conv_sees cap1 h1
  have hc2 := conv_sees cap2 h2
  clear h1 h2
  go_enter Try.func39, Try.ntmps39
  go_wp2
  go_ret
  exact ⟨rfl, Below.refl _ _⟩
theorem bytesEqual_any (W : World) (a1 : Option Addr) (len1 cap1 : Nat) (a2 : Option Addr) (len2 cap2 : Nat) (xs ys : List Int) (h1 : Sees .u8 W a1 len1 xs) (h2 : Sees .u8 W a2 len2 ys) :
    Calls Try.prog 54 #[.slice a1 len1 cap1, .slice a2 len2 cap2] W fun e w' => e = .returned (.bool (eqBy xs ys)) ∧ W = w' := by
  have hc1 := conv_sees cap1 h1
  have hc2 := conv_sees cap2 h2
  clear h1 h2
  go_enter Try.func54, Try.ntmps54
  go_wp2
  go_ret
  exact ⟨rfl, rfl⟩
theorem equalBytes_any (W : World) (a1 : Option Addr) (len1 cap1 : Nat) (a2 : Option Addr) (len2 cap2 : Nat) (xs ys : List Int) (h1 : Sees .u8 W a1 len1 xs) (h2 : Sees .u8 W a2 len2 ys) :
    Calls Try.prog 40 #[.slice a1 len1 cap1, .slice a2 len2 cap2] W fun e w' => e = .returned (.bool (eqBy xs ys)) ∧ Below W.heap.size W w' := by
  have H1 := Lib.hid h1
  have H2 := Lib.hid h2
  clear h1 h2
  go_enter Try.func40, Try.ntmps40
  go_wp2_with (go_at_call 54; refine (bytesEqual_any _ _ _ _ _ _ _ _ _ H1.out H2.out).mono ?_; rintro e w' ⟨rfl, rfl⟩)
  go_ret
  exact ⟨rfl, Below.refl _ _⟩
end Go.Proofs.Ytnhpkiddepfjoaa
