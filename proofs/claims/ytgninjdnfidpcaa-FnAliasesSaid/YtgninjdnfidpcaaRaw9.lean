/- A raw number, drawn. -/
import Derived.Test.YtgninjdnfidpcaaDrawB
import Derived.Test.YtgninjdnfidpcaaDrawNum
namespace Go.Proofs.Ytgninjdnfidpcaa
open Go.RowKit
theorem raw9_any (W : World) (B : Nat) (hc : Cur W B) : Calls Try.prog 109 #[.pointer (some ⟨B, 0, none⟩)] W (Drew B W IsI64) := by
  have HC0 := Lib.hid hc
  clear hc
  go_enter Try.func109, Try.ntmps109
  go_wp2_with fail
  go_at_call 125
  refine (once_any _ B 6 (by decide) HC0.out).mono ?_
  rintro e w1 ⟨x, rfl, hc1, hg1⟩
  have HC1 := Lib.hid hc1
  have HG1 := Lib.hid hg1
  clear hc1 hg1
  cases x
  · go_wp2_with (go_at_call 52; refine (below_any _ B 60 (by decide) HC1.out).mono ?_; rintro e w2 ⟨y, ⟨hy0, hy1⟩, rfl, hc2, hg2⟩; have hy2 : y ≤ 59 := (by omega); have HC2 := Lib.hid hc2; have HG2 := Lib.hid (grown_trans HG1.out hg2); clear hc2 hg2 hy1)
    go_ret
    exact ⟨y, ⟨by omega, by omega⟩, rfl, HC2.out, HG2.out⟩
  · go_wp2_with (go_at_call 57; refine (int_new w1 B 8 [-1, 0, 100000, 100001, -100000, -100001, 9223372036854775807, -9223372036854775808] _ 3 rfl rfl (by decide) (by decide) HC1.out).mono ?_; rintro e w2 ⟨y, hy, rfl, hc2, hg2⟩; have HY := Lib.hid ((show ∀ y ∈ ([-1, 0, 100000, 100001, -100000, -100001, 9223372036854775807, -9223372036854775808] : List Int), IsI64 y by unfold IsI64; decide) _ hy); have HC2 := Lib.hid hc2; have HG2 := Lib.hid (grown_trans HG1.out hg2); clear hc2 hg2 hy)
    go_ret
    exact ⟨y, HY.out, rfl, HC2.out, HG2.out⟩
end Go.Proofs.Ytgninjdnfidpcaa
