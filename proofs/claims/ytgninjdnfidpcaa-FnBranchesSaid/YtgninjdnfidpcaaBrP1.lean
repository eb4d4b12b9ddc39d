/- IsBranch, the program's. -/
import Derived.Test.YtgninjdnfidpcaaBrU
import Derived.Test.YtgninjdnfidpcaaCtfI
namespace Go.Proofs.Ytgninjdnfidpcaa
open Go.RowKit
theorem noNd_says : SaysI 64 noNd := by
  refine ⟨fun _ _ => by kernel_rfl, fun x w => ?_⟩
  go_enter Try.func64, Try.ntmps64
  go_wp2_with (go_at_call 58; refine (inRange_any _ _ _ _).mono ?_; rintro e w' ⟨rfl, rfl⟩)
  go_ret
  exact ⟨rfl, Below.refl _ _⟩
set_option maxRecDepth 20000 in
set_option maxHeartbeats 6400000 in
theorem brP_any (W : World) (nd : Int) (a : Option Addr) (len cap : Nat) (nx : List Int) (hl : len ≤ 1073741824) (_hlc : len ≤ cap) (hs : Sees .i64 W a len nx) :
    Calls Try.prog 23 #[.agg #[.int .i64 nd, .slice a len cap]] W fun e w' => e = .returned (.bool (brOk nd nx)) ∧ Below W.heap.size W w' := by
  have HL := Lib.hid hs.1
  obtain ⟨V, hV⟩ : ∃ V, V = W.alloc (.cells #[.int .i64 nd, .slice a len cap] 26) := ⟨_, rfl⟩
  have HBV : Hid (Below W.heap.size W V) := Lib.hid (by rw [hV]; exact below_newB _ _)
  have HN := Lib.hid (show BrAt V W.heap.size nd a len cap by rw [hV]; exact br_new _ _ _ _ _ _)
  have HS := Lib.hid (hs.below HBV.out)
  clear hs
  obtain ⟨v, hv⟩ : ∃ v : Bool, v = brOk nd nx := ⟨_, rfl⟩
  rw [← hv]
  have HV : Hid (v = (inR (len : Int) 1 4 && (!(!decide nx.Nodup) && (!noNd nd && !(nx.any noNd))))) := Lib.hid (by rw [hv, brOk_prog, HL.out]; unfold noNd; simp only [Bool.not_not])
  have c0 := HN.out.c0
  have c1 := HN.out.c1
  clear hv
  cases h1 : inR (len : Int) 1 4
  · have H1 := Lib.hid h1
    have HE : Hid (false = v) := Lib.hid (by rw [HV.out, h1]; simp)
    clear h1
    go_enter Try.func23, Try.ntmps23
    go_wp2_with fail
    rw [← hV]
    clear hV
    go_wp2_with (first
      | (go_at_call 58; refine (inRange_any _ _ _ _).mono ?_; rw [H1.out]; rintro e w' ⟨rfl, rfl⟩))
    go_ret
    exact ⟨ret_bool HE.out, HBV.out⟩
  cases h2 : (!decide nx.Nodup)
  rotate_left
  · have H1 := Lib.hid h1
    have H2 := Lib.hid h2
    have HE : Hid (false = v) := Lib.hid (by rw [HV.out, h1, h2]; simp)
    clear h1 h2
    go_enter Try.func23, Try.ntmps23
    go_wp2_with fail
    rw [← hV]
    clear hV
    go_wp2_with (first
      | (go_at_call 58; refine (inRange_any _ _ _ _).mono ?_; rw [H1.out]; rintro e w' ⟨rfl, rfl⟩)
      | (go_at_call 63; refine (twice_any _ a len cap nx hl HS.out).mono ?_; rw [H2.out]; rintro e w2 ⟨rfl, hb⟩; have HB2 := Lib.hid (below_up HBV.out hb (Nat.le_refl _)); have HN2 := Lib.hid (HN.out.below hb); have HS2 := Lib.hid (HS.out.below hb); have c0 := HN2.out.c0; have c1 := HN2.out.c1; clear hb))
    go_ret
    exact ⟨ret_bool HE.out, HB2.out⟩
  cases h3 : noNd nd
  rotate_left
  · have H1 := Lib.hid h1
    have H2 := Lib.hid h2
    have H3 := Lib.hid h3
    have HE : Hid (false = v) := Lib.hid (by rw [HV.out, h1, h2, h3]; simp)
    clear h1 h2 h3
    go_enter Try.func23, Try.ntmps23
    go_wp2_with fail
    rw [← hV]
    clear hV
    go_wp2_with (first
      | (go_at_call 58; refine (inRange_any _ _ _ _).mono ?_; rw [H1.out]; rintro e w' ⟨rfl, rfl⟩)
      | (go_at_call 63; refine (twice_any _ a len cap nx hl HS.out).mono ?_; rw [H2.out]; rintro e w2 ⟨rfl, hb⟩; have HB2 := Lib.hid (below_up HBV.out hb (Nat.le_refl _)); have HN2 := Lib.hid (HN.out.below hb); have HS2 := Lib.hid (HS.out.below hb); have c0 := HN2.out.c0; have c1 := HN2.out.c1; clear hb)
      | (go_at_call 64; refine (noNd_says.2 _ _).mono ?_; rw [H3.out]; rintro e w3 ⟨rfl, hb⟩; have HB3 := Lib.hid (below_up HB2.out hb (Nat.le_refl _)); have HN3 := Lib.hid (HN2.out.below hb); have HS3 := Lib.hid (HS2.out.below hb); have c1 := HN3.out.c1; clear hb))
    go_ret
    exact ⟨ret_bool HE.out, HB3.out⟩
  cases h4 : nx.any noNd
  · have H1 := Lib.hid h1
    have H2 := Lib.hid h2
    have H3 := Lib.hid h3
    have H4 := Lib.hid h4
    have HE : Hid (true = v) := Lib.hid (by rw [HV.out, h1, h2, h3, h4]; simp)
    clear h1 h2 h3 h4
    go_enter Try.func23, Try.ntmps23
    go_wp2_with fail
    rw [← hV]
    clear hV
    go_wp2_with (first
      | (go_at_call 58; refine (inRange_any _ _ _ _).mono ?_; rw [H1.out]; rintro e w' ⟨rfl, rfl⟩)
      | (go_at_call 63; refine (twice_any _ a len cap nx hl HS.out).mono ?_; rw [H2.out]; rintro e w2 ⟨rfl, hb⟩; have HB2 := Lib.hid (below_up HBV.out hb (Nat.le_refl _)); have HN2 := Lib.hid (HN.out.below hb); have HS2 := Lib.hid (HS.out.below hb); have c0 := HN2.out.c0; have c1 := HN2.out.c1; clear hb)
      | (go_at_call 64; refine (noNd_says.2 _ _).mono ?_; rw [H3.out]; rintro e w3 ⟨rfl, hb⟩; have HB3 := Lib.hid (below_up HB2.out hb (Nat.le_refl _)); have HN3 := Lib.hid (HN2.out.below hb); have HS3 := Lib.hid (HS2.out.below hb); have c1 := HN3.out.c1; clear hb)
      | (go_at_call 65; refine (hasI_any noNd_says _ a len cap nx hl HS3.out).mono ?_; rw [H4.out]; rintro e w4 ⟨rfl, hb⟩; have HB4 := Lib.hid (below_up HB3.out hb (Nat.le_refl _)); clear hb))
    go_ret
    exact ⟨ret_bool HE.out, HB4.out⟩
  · have H1 := Lib.hid h1
    have H2 := Lib.hid h2
    have H3 := Lib.hid h3
    have H4 := Lib.hid h4
    have HE : Hid (false = v) := Lib.hid (by rw [HV.out, h1, h2, h3, h4]; simp)
    clear h1 h2 h3 h4
    go_enter Try.func23, Try.ntmps23
    go_wp2_with fail
    rw [← hV]
    clear hV
    go_wp2_with (first
      | (go_at_call 58; refine (inRange_any _ _ _ _).mono ?_; rw [H1.out]; rintro e w' ⟨rfl, rfl⟩)
      | (go_at_call 63; refine (twice_any _ a len cap nx hl HS.out).mono ?_; rw [H2.out]; rintro e w2 ⟨rfl, hb⟩; have HB2 := Lib.hid (below_up HBV.out hb (Nat.le_refl _)); have HN2 := Lib.hid (HN.out.below hb); have HS2 := Lib.hid (HS.out.below hb); have c0 := HN2.out.c0; have c1 := HN2.out.c1; clear hb)
      | (go_at_call 64; refine (noNd_says.2 _ _).mono ?_; rw [H3.out]; rintro e w3 ⟨rfl, hb⟩; have HB3 := Lib.hid (below_up HB2.out hb (Nat.le_refl _)); have HN3 := Lib.hid (HN2.out.below hb); have HS3 := Lib.hid (HS2.out.below hb); have c1 := HN3.out.c1; clear hb)
      | (go_at_call 65; refine (hasI_any noNd_says _ a len cap nx hl HS3.out).mono ?_; rw [H4.out]; rintro e w4 ⟨rfl, hb⟩; have HB4 := Lib.hid (below_up HB3.out hb (Nat.le_refl _)); clear hb))
    go_ret
    exact ⟨ret_bool HE.out, HB4.out⟩
end Go.Proofs.Ytgninjdnfidpcaa
