/- SeenNexts, the program's; with it all of the program's functions on branches. -/
import Derived.Test.YtgninjdnfidpcaaBrP2
import Derived.Test.YtgninjdnfidpcaaBrP4
import Derived.Test.YtgninjdnfidpcaaBrS
import Derived.Test.YtgninjdnfidpcaaSetP
import Derived.Test.YtgninjdnfidpcaaDelP
namespace Go.Proofs.Ytgninjdnfidpcaa
open Go.RowKit
theorem nextV_wf {nd : Int} {nx : List Int} (hx : ∀ n ∈ nx, (Lit.int .i64 n).wf = true) (f : Int) : (Lit.int .i64 (nextV nd nx f)).wf = true := by
  by_cases h : nextV nd nx f < 0
  · rw [nextV_no h]; decide
  · exact hx _ (nextV_mem (by omega)).1
set_option maxRecDepth 20000 in
set_option maxHeartbeats 3200000 in
theorem seenNP_any (W : World) (nd : Int) (a : Option Addr) (len cap : Nat) (nx : List Int) (q : Option Addr) (lf cf : Nat) (fl : List Int) (hl : len ≤ 1073741824) (hlc : len ≤ cap) (hs : Sees .i64 W a len nx) (hn : (Lit.int .i64 nd).wf = true) (hlf : lf ≤ 1048576) (hf : Sees .i64 W q lf fl) :
    Calls Try.prog 14 #[.agg #[.int .i64 nd, .slice a len cap], .slice q lf cf] W (Made .i64 3 (seenN nd nx fl) W) := by
  obtain ⟨V, hV⟩ : ∃ V, V = W.alloc (.cells #[.int .i64 nd, .slice a len cap] 26) := ⟨_, rfl⟩
  have HBV : Hid (Below W.heap.size W V) := Lib.hid (by rw [hV]; exact below_newB _ _)
  have HN := Lib.hid (show BrAt V W.heap.size nd a len cap by rw [hV]; exact br_new _ _ _ _ _ _)
  have HS := Lib.hid (hs.below HBV.out)
  have HF := Lib.hid (hf.below HBV.out)
  have HNW := Lib.hid hn
  have HG : Hid (∀ x ∈ fl, (Lit.int .i64 (nextV nd nx x)).wf = true) := Lib.hid (fun x _ => nextV_wf hs.2.1 x)
  have hPl : Plain 91 := fun _ _ => by kernel_rfl
  have HPL := Lib.hid hPl
  have c0 := HN.out.c0
  have c1 := HN.out.c1
  clear hs hf hn hPl
  go_enter Try.func14, Try.ntmps14
  go_wp2_with fail
  rw [← hV]
  clear hV
  go_wp2_with fail
  go_at_call 55
  refine (reader_any _ nd a len cap nx hl hlc HS.out).mono ?_
  rintro e w2 ⟨C, B, rfl, hr, hb⟩
  have HR := Lib.hid hr
  have HF2 := Lib.hid (HF.out.below hb)
  have HB2 := Lib.hid (below_up HBV.out hb (Nat.le_refl _))
  clear hr hb
  go_wp2_with fail
  go_at_call 54
  refine (setI_any (g := nextV nd nx) w2 q lf cf fl HPL.out (fun V x hx hb => read1_any V C B nd a len cap nx x (HR.out.below hb) HNW.out hx) HG.out hlf HF2.out).mono ?_
  rintro e w3 ⟨a3, l3, c3, rfl, ho, hb⟩
  have hl3 : l3 ≤ 1048576 := by
    have h1 := ho.1
    have h2 := compact_len (sortI (fl.map (nextV nd nx)))
    rw [sortI_len, List.length_map, HF2.out.1] at h2
    omega
  have HO := Lib.hid ho
  have HB3 := Lib.hid (below_up HB2.out hb (Nat.le_refl _))
  have hsz := HB2.out.size
  clear ho hb
  by_cases h0 : l3 = 0
  · subst h0
    have HE : Hid (seenN nd nx fl = []) := Lib.hid (by
      rw [← seenN_prog, List.eq_nil_of_length_eq_zero HO.out.1]
      rfl)
    go_wp2_with fail
    go_at_call 53
    refine (strikeE_any w3 a3 c3).mono ?_
    rintro e w4 ⟨rfl, hb⟩
    have HO4 := Lib.hid (HO.out.below hb)
    have HB4 := Lib.hid (below_up HB3.out hb (Nat.le_refl _))
    have hs4 := hb.size
    clear hb
    go_wp2
    go_ret
    have h := HO4.out
    rw [List.eq_nil_of_length_eq_zero HO4.out.1] at h
    rw [HE.out]
    exact ⟨_, _, _, rfl, h.wide hsz hs4 (Nat.le_refl _), HB4.out⟩
  · rcases HO.out.spot with ⟨_, hz, _⟩ | ⟨g, rfl, _, _, hlc3, _⟩
    · exact absurd hz h0
    go_wp2_with fail
    go_at_call 53
    refine (strike_any _ _ _ _ _ _ _ hl3 HO.out hlc3 h0).mono ?_
    rintro e w4 ⟨rfl, ho, hm⟩
    have HO4 := Lib.hid ho
    have HB4 := Lib.hid (below_moved HB3.out hm (Below.refl W.heap.size W).size hsz)
    have HM4 := Lib.hid hm.size
    clear ho hm
    go_wp2
    go_ret
    have h := HO4.out
    rw [seenN_prog] at h
    exact ⟨some ⟨g, 0, none⟩, (seenN nd nx fl).length, c3, (by rw [seenN_prog]; rfl), h.wide hsz HM4.out (Nat.le_refl _), HB4.out⟩
end Go.Proofs.Ytgninjdnfidpcaa
