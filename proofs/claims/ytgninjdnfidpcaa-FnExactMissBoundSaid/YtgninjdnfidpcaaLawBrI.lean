/- The walks of the laws on MissBound and TriesFor. -/
import Derived.Test.YtgninjdnfidpcaaBrP
namespace Go.Proofs.Ytgninjdnfidpcaa
open Go.RowKit
theorem lawMissBound_walk (n t : Int) (W : World) (_ : (Lit.int .i64 n).wf = true) (_ : (Lit.int .i64 t).wf = true) : Calls Try.prog 7 #[.int .i64 n, .int .i64 t] W fun e W' => e = .returned (.bool true) ∧ Below W.heap.size W W' := by
  obtain ⟨a, ha⟩ : ∃ a, a = missA n t := ⟨_, rfl⟩
  obtain ⟨b, hb⟩ : ∃ b, b = missB n t := ⟨_, rfl⟩
  have HA := Lib.hid ha
  have HB := Lib.hid hb
  clear ha hb
  go_enter Try.func7, Try.ntmps7
  go_wp2_with (first
    | (go_at_call 32; refine (specMiss_any n t _).mono ?_; rw [← HA.out, ← HB.out]; rintro e w' ⟨rfl, rfl⟩)
    | (go_at_call 19; refine (missP_any n t _).mono ?_; rw [← HA.out, ← HB.out]; rintro e w2 ⟨rfl, hb⟩; have HB2 := Lib.hid hb; clear hb))
  go_ret
  exact ⟨rfl, HB2.out⟩
theorem lawTriesFor_walk (n p : Int) (W : World) (_ : (Lit.int .i64 n).wf = true) (_ : (Lit.int .i64 p).wf = true) : Calls Try.prog 8 #[.int .i64 n, .int .i64 p] W fun e W' => e = .returned (.bool true) ∧ Below W.heap.size W W' := by
  obtain ⟨a, ha⟩ : ∃ a, a = triesV n p := ⟨_, rfl⟩
  have HA := Lib.hid ha
  clear ha
  go_enter Try.func8, Try.ntmps8
  go_wp2_with (first
    | (go_at_call 33; refine (specTries_any n p _).mono ?_; rw [← HA.out]; rintro e w' ⟨rfl, rfl⟩)
    | (go_at_call 18; refine (triesP_any n p _).mono ?_; rw [← HA.out]; rintro e w2 ⟨rfl, hb⟩; have HB2 := Lib.hid hb; clear hb))
  go_ret
  exact ⟨rfl, HB2.out⟩
end Go.Proofs.Ytgninjdnfidpcaa
