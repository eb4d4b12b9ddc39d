/- The program's route. -/
import Derived.Test.YtjckcggjmcaaoaaRouQ
import Derived.Test.YtjckcggjmcaaoaaRouM
namespace Go.Proofs.Ytjckcggjmcaaoaa
open Go.RowKit
set_option maxRecDepth 20000 in
set_option maxHeartbeats 3200000 in
theorem routeP_any (W : World) (n : Int) (a : Option Addr) (len cap : Nat) (ls : List (Int × Int)) (x0 y0 : Int) (hl : len ≤ 1073741824) (hs : SeesL W a len ls) :
    Calls Try.prog 43 #[.agg #[.int .i64 n, .slice a len cap], .int .i64 x0, .int .i64 y0] W (Made .i64 3 (routeV n ls x0 y0) W) := by
  have HL := Lib.hid hs.1
  obtain ⟨V, hV⟩ : ∃ V, V = W.alloc (.cells #[.int .i64 n, .slice a len cap] 26) := ⟨_, rfl⟩
  have HBV : Hid (Below W.heap.size W V) := Lib.hid (by rw [hV]; exact below_new _ _)
  have hzV : V.heap.size = W.heap.size + 1 := by rw [hV]; simp
  have HN := Lib.hid (show NetAt V W.heap.size n a len cap by rw [hV]; exact net_new _ _ _ _ _ _)
  have HS := Lib.hid (hs.below HBV.out)
  clear hs
  obtain ⟨P, hP⟩ : ∃ P, P = routeV n ls x0 y0 := ⟨_, rfl⟩
  rw [← hP]
  have HP := Lib.hid hP
  clear hP
  cases hnb : netB n ls
  · have HE : Hid (P = []) := Lib.hid (by rw [HP.out]; exact route_no (ask_net hnb))
    have HNB := Lib.hid hnb
    clear hnb
    go_enter Try.func43, Try.ntmps43
    go_wp2_with fail
    rw [← hV]
    clear hV
    refine (netP_any V n a len cap ls hl HS.out).mono ?_
    rw [HNB.out]
    rintro e w2 ⟨rfl, hb2⟩
    have HB2 := Lib.hid (below_up HBV.out hb2 (Nat.le_refl _))
    have HN2 := Lib.hid (HN.out.below hb2)
    have HS2 := Lib.hid (HS.out.below hb2)
    have c0 := HN2.out.c0
    have c1 := HN2.out.c1
    clear hb2
    go_wp2
    go_ret
    rw [HE.out]
    exact ⟨_, _, _, rfl, (own_nil .i64 3 w2).wide (by have := HB2.out.size; omega) (by simp) (Nat.le_refl _), HB2.out.alloc HB2.out.size _⟩
  have hnb8 := netB_ends hnb
  obtain ⟨m, rfl, hm1, hm8, hl1, hl6, hends⟩ := hnb8
  have HEN := Lib.hid hends
  cases hx : inR x0 0 ((m : Int) - 1)
  · have HE : Hid (P = []) := Lib.hid (by rw [HP.out]; exact route_no (ask_from hx))
    have HNB := Lib.hid hnb
    have HX := Lib.hid hx
    clear hnb hx hends
    go_enter Try.func43, Try.ntmps43
    go_wp2_with fail
    rw [← hV]
    clear hV
    refine (netP_any V m a len cap ls hl HS.out).mono ?_
    rw [HNB.out]
    rintro e w2 ⟨rfl, hb2⟩
    have HB2 := Lib.hid (below_up HBV.out hb2 (Nat.le_refl _))
    have HN2 := Lib.hid (HN.out.below hb2)
    have HS2 := Lib.hid (HS.out.below hb2)
    have c0 := HN2.out.c0
    have c1 := HN2.out.c1
    clear hb2
    go_wp2_with (go_at_call 47; refine (isNode_any _ (m : Int) a len cap _ (by omega) (by omega)).mono ?_; (rw [HX.out]; rintro e w3 ⟨rfl, hb3⟩; have HB3 := Lib.hid (below_up HB2.out hb3 (Nat.le_refl _)); have HN3 := Lib.hid (HN2.out.below hb3); have HS3 := Lib.hid (HS2.out.below hb3); have c0 := HN3.out.c0; have c1 := HN3.out.c1; clear hb3))
    go_ret
    rw [HE.out]
    exact ⟨_, _, _, rfl, (own_nil .i64 3 w3).wide (by have := HB3.out.size; omega) (by simp) (Nat.le_refl _), HB3.out.alloc HB3.out.size _⟩
  cases hy : inR y0 0 ((m : Int) - 1)
  · have HE : Hid (P = []) := Lib.hid (by rw [HP.out]; exact route_no (ask_to hy))
    have HNB := Lib.hid hnb
    have HX := Lib.hid hx
    have HY := Lib.hid hy
    clear hnb hx hy hends
    go_enter Try.func43, Try.ntmps43
    go_wp2_with fail
    rw [← hV]
    clear hV
    refine (netP_any V m a len cap ls hl HS.out).mono ?_
    rw [HNB.out]
    rintro e w2 ⟨rfl, hb2⟩
    have HB2 := Lib.hid (below_up HBV.out hb2 (Nat.le_refl _))
    have HN2 := Lib.hid (HN.out.below hb2)
    have HS2 := Lib.hid (HS.out.below hb2)
    have c0 := HN2.out.c0
    have c1 := HN2.out.c1
    clear hb2
    go_wp2_with (go_at_call 47; refine (isNode_any _ (m : Int) a len cap _ (by omega) (by omega)).mono ?_; first | (rw [HX.out]; rintro e w3 ⟨rfl, hb3⟩; have HB3 := Lib.hid (below_up HB2.out hb3 (Nat.le_refl _)); have HN3 := Lib.hid (HN2.out.below hb3); have HS3 := Lib.hid (HS2.out.below hb3); have c0 := HN3.out.c0; have c1 := HN3.out.c1; clear hb3) | (rw [HY.out]; rintro e w4 ⟨rfl, hb4⟩; have HB4 := Lib.hid (below_up HB3.out hb4 (Nat.le_refl _)); have HN4 := Lib.hid (HN3.out.below hb4); have HS4 := Lib.hid (HS3.out.below hb4); have c0 := HN4.out.c0; have c1 := HN4.out.c1; clear hb4))
    go_ret
    rw [HE.out]
    exact ⟨_, _, _, rfl, (own_nil .i64 3 w4).wide (by have := HB4.out.size; omega) (by simp) (Nat.le_refl _), HB4.out.alloc HB4.out.size _⟩
  have HASK := Lib.hid (ask_yes hnb hx hy)
  have hxb := inR_true.1 hx
  have hyb := inR_true.1 hy
  obtain ⟨x, rfl⟩ : ∃ k : Nat, x0 = k := ⟨x0.toNat, by omega⟩
  obtain ⟨t, rfl⟩ : ∃ k : Nat, y0 = k := ⟨y0.toNat, by omega⟩
  have hxm : x < m := by omega
  have htm : t < m := by omega
  have hlen6 : len ≤ 6 := by have := HL.out; omega
  have HNB := Lib.hid hnb
  have HX := Lib.hid hx
  have HY := Lib.hid hy
  have HTW : Hid ((Lit.int .i64 (t : Int)).wf = true) := Lib.hid (WalkArith.wf_i64 (by omega))
  clear hnb hx hy hends hxb hyb hl1 hl6
  go_enter Try.func43, Try.ntmps43
  go_wp2_with fail
  rw [← hV]
  clear hV
  refine (netP_any V m a len cap ls hl HS.out).mono ?_
  rw [HNB.out]
  rintro e w2 ⟨rfl, hb2⟩
  have HB2 := Lib.hid (below_up HBV.out hb2 (Nat.le_refl _))
  have HN2 := Lib.hid (HN.out.below hb2)
  have HS2 := Lib.hid (HS.out.below hb2)
  have c0 := HN2.out.c0
  have c1 := HN2.out.c1
  clear hb2
  go_wp2_with (first
    | (go_at_call 47; refine (isNode_any _ (m : Int) a len cap _ (by omega) (by omega)).mono ?_; first | (rw [HX.out]; rintro e w3 ⟨rfl, hb3⟩; have HB3 := Lib.hid (below_up HB2.out hb3 (Nat.le_refl _)); have HN3 := Lib.hid (HN2.out.below hb3); have HS3 := Lib.hid (HS2.out.below hb3); have c0 := HN3.out.c0; have c1 := HN3.out.c1; clear hb3) | (rw [HY.out]; rintro e w4 ⟨rfl, hb4⟩; have HB4 := Lib.hid (below_up HB3.out hb4 (Nat.le_refl _)); have HN4 := Lib.hid (HN3.out.below hb4); have HS4 := Lib.hid (HS3.out.below hb4); have c0 := HN4.out.c0; have c1 := HN4.out.c1; clear hb4))
    | (go_at_call 54; refine (routes_any _ m a len cap ls x hm8 hxm hlen6 HEN.out HS4.out).mono ?_; rintro e w5 ⟨M, F, r, rfl, hmet, hst⟩; have HMET := Lib.hid hmet; have HST := Lib.hid hst; have hlk := hst.map.look Try.underlying3 Try.underlying83 (zero_row w5) HTW.out false; clear hmet hst; obtain ⟨f0, hf0⟩ : ∃ f0, F (t : Int) = f0 := ⟨_, rfl⟩; rw [hf0] at hlk; have HF0 := Lib.hid hf0; clear hf0; cases f0))
  · simp only [Bool.false_eq_true, if_false] at hlk
    have HE : Hid (P = []) := Lib.hid (by
      rw [HP.out]
      refine route_none (Met.none HMET.out (w := (t : Int)) fun mm hm e => ?_)
      obtain ⟨v, hv, _⟩ := HST.out.has mm hm
      rw [e, HF0.out] at hv
      cases hv)
    go_ret
    rw [HE.out]
    exact ⟨_, _, _, rfl, own_none _ _ _ _ _ (Nat.le_refl _), HB4.out.trans (HST.out.bel.mono HB4.out.size)⟩
  · rename_i v0
    simp only [Bool.false_eq_true, if_false] at hlk
    obtain ⟨mm, hm, em⟩ : ∃ mm ∈ M, mm.1 = (t : Int) := Classical.byContradiction fun hno => by
      have h := HST.out.no (t : Int) (fun mm hm e => hno ⟨mm, hm, e⟩)
      rw [HF0.out] at h
      cases h
    obtain ⟨v, hv, ra, rl, rc, rfl, hown, _⟩ := HST.out.has mm hm
    rw [em, HF0.out, Option.some.injEq] at hv
    subst hv
    have hbest := HMET.out.best hm
    rw [em] at hbest
    have HE : Hid (P = mm.2) := Lib.hid (by rw [HP.out]; exact route_best HASK.out hbest)
    have HO := Lib.hid hown
    clear hown hbest
    go_ret
    rw [HE.out]
    exact ⟨_, _, _, rfl, HO.out.wide (by have := HB4.out.size; omega) (Nat.le_refl _) (Nat.le_refl _), HB4.out.trans (HST.out.bel.mono HB4.out.size)⟩
end Go.Proofs.Ytjckcggjmcaaoaa
