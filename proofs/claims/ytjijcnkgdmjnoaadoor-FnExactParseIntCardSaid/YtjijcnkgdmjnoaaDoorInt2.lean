/- The walks of the laws on FormatInt and ParseInt. -/
import Derived.Test.YtjijcnkgdmjnoaaDoorParseW
import Derived.Test.YtjijcnkgdmjnoaaDoorLaidFrom
namespace Go.Proofs.YtjijcnkgdmjnoaaDoor
open Go.RowKit
theorem lawFormat_walk (n : Int) (W : World) (w0 : (Lit.int .i64 n).wf = true) (hT : HasTab W) : Calls Tryd.prog 4 #[.int .i64 n] W fun e W' => e = .returned (.bool true) ∧ Below W.heap.size W W' := by
  obtain ⟨h1, h2⟩ := bounds_i64 w0
  have HT := Lib.hid hT
  clear hT w0
  go_enter Tryd.func4, Tryd.ntmps4
  go_wp2_with (first | (go_at_call 14; refine (specFormat_any _ _ h1 h2).mono ?_; rintro e w1 ⟨rfl, hb1⟩; have HB1 := Lib.hid hb1; have HT1 := Lib.hid (HT.out.below hb1); clear hb1) | (go_at_call 10; refine (format_any _ _ h1 h2 HT1.out).mono ?_; rintro e w2 ⟨rfl, hb2⟩; have HB2 := Lib.hid hb2; clear hb2))
  go_ret
  exact ⟨rfl, HB1.out.trans (HB2.out.mono HB1.out.size)⟩
theorem lawParse_walk (s : ByteArray) (W : World) (w0 : s.size ≤ maxLen) (hT : HasTab W) (hE : HasErrs W) : Calls Tryd.prog 5 #[.string s] W fun e W' => e = .returned (.bool true) ∧ Below W.heap.size W W' := by
  have HT := Lib.hid hT
  have HE := Lib.hid hE
  unfold maxLen at w0
  clear hT hE
  by_cases hs : s.size ≤ 1048576
  · by_cases hn : ∃ n, IsNum s.data.toList n
    · obtain ⟨n, hn⟩ := hn
      have HN := Lib.hid hn
      clear hn
      go_enter Tryd.func5, Tryd.ntmps5
      go_wp2_with (first | (go_at_call 15; refine (specParse_yes _ _ HN.out _).mono ?_; rintro e w1 ⟨rfl, hb1⟩; have HB1 := Lib.hid hb1; have HT1 := Lib.hid (HT.out.below hb1); clear hb1) | (go_at_call 8; refine (parse_yes _ _ HN.out _ HT1.out).mono ?_; rintro e w2 ⟨rfl, hb2⟩; have HB2 := Lib.hid hb2; clear hb2))
      go_ret
      exact ⟨rfl, HB1.out.trans (HB2.out.mono HB1.out.size)⟩
    · have HN : Hid (∀ n, ¬ IsNum s.data.toList n) := Lib.hid (fun n h => hn ⟨n, h⟩)
      clear hn
      go_enter Tryd.func5, Tryd.ntmps5
      go_wp2_with (first | (go_at_call 15; refine (specParse_no _ HN.out (by omega) _).mono ?_; rintro e w1 ⟨rfl, hb1⟩; have HB1 := Lib.hid hb1; have HT1 := Lib.hid (HT.out.below hb1); have HE1 := Lib.hid (HE.out.below hb1); clear hb1) | (go_at_call 8; refine (parse_no _ (by omega) HN.out _ HT1.out HE1.out).mono ?_; rintro e w2 ⟨rfl, hb2⟩; have HB2 := Lib.hid hb2; clear hb2))
      go_ret
      exact ⟨rfl, HB1.out.trans (HB2.out.mono HB1.out.size)⟩
  · go_enter Tryd.func5, Tryd.ntmps5
    go_wp2
    go_ret
    exact ⟨rfl, Below.refl _ _⟩
end Go.Proofs.YtjijcnkgdmjnoaaDoor
