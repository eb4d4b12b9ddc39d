/- The walk of the law on DeriveFromString. -/
import Derived.Test.YtklookaggnohdaaDerive
namespace Go.Proofs.Ytklookaggnohdaa
open Go.RowKit
set_option maxHeartbeats 800000 in
theorem lawDerive_walk (n0 : Int) (s : ByteArray) (W : World) (q0 : (Lit.int .i64 n0).wf = true) (q1 : s.size ≤ maxLen) : Calls Try.prog 11 #[.int .i64 n0, .string s] W fun e W' => e = .returned (.bool true) ∧ Below W.heap.size W W' := by
  obtain ⟨hn0, hm0⟩ := bounds_i64 q0
  unfold maxLen at q1
  by_cases hg : s.size ≤ 1048576
  · go_enter Try.func11, Try.ntmps11
    go_wp2_with fail
    go_at_call 41
    refine (specDerive_any _ _ _ hn0 hm0 hg).mono ?_
    rintro e w1 ⟨rfl, hb⟩
    have HB1 := Lib.hid hb
    clear hb
    go_wp2_with fail
    go_at_call 25
    refine (derive_any _ _ _ hn0 hm0 hg).mono ?_
    rintro e w2 ⟨rfl, hb⟩
    have HB2 := Lib.hid (below_up HB1.out hb (Nat.le_refl _))
    clear hb
    go_wp2_with fail
    go_ret
    exact ⟨rfl, HB2.out⟩
  · go_enter Try.func11, Try.ntmps11
    go_wp2_with fail
    go_ret
    exact ⟨rfl, Below.refl _ _⟩
end Go.Proofs.Ytklookaggnohdaa
