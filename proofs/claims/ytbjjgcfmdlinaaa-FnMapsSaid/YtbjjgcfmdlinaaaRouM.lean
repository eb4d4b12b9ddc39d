/- The model's route. -/
import Derived.Test.YtbjjgcfmdlinaaaRouA
namespace Go.Proofs.Ytbjjgcfmdlinaaa
open Go.RowKit
theorem made_blk {W w : World} {g len cap : Nat} {zs : List Int} (h : OwnB w g len cap zs) (hg : W.heap.size ≤ g) (hb : Below W.heap.size W w) : Made .i64 3 zs W (.returned (.slice (some ⟨g, 0, none⟩) len cap)) w :=
  ⟨_, _, _, rfl, Own.wide h hg h.lt (Nat.le_refl _), hb⟩
theorem ask_net {n : Int} {ls : List (Int × Int)} {x y : Int} (h : netB n ls = false) : askR n ls x y = false := by unfold askR; rw [h]; rfl
theorem ask_from {n : Int} {ls : List (Int × Int)} {x y : Int} (h : inR x 0 (n - 1) = false) : askR n ls x y = false := by unfold askR; rw [h]; simp
theorem ask_to {n : Int} {ls : List (Int × Int)} {x y : Int} (h : inR y 0 (n - 1) = false) : askR n ls x y = false := by unfold askR; rw [h]; simp
theorem ask_yes {n : Int} {ls : List (Int × Int)} {x y : Int} (h1 : netB n ls = true) (h2 : inR x 0 (n - 1) = true) (h3 : inR y 0 (n - 1) = true) : askR n ls x y = true := by unfold askR; rw [h1, h2, h3]; rfl
theorem neg_next (k : Nat) : List.replicate k (-1 : Int) ++ [-1] = List.replicate (k + 1) (-1) := (List.replicate_succ' ..).symm
theorem repl_getD {k j : Nat} (h : j < k) : (List.replicate k (-1 : Int)).getD j 0 = -1 := by simp [List.getD, h]
set_option maxRecDepth 20000 in
set_option maxHeartbeats 12800000 in
theorem specRoute_any (W : World) (n : Int) (a : Option Addr) (len cap : Nat) (ls : List (Int × Int)) (x0 y0 : Int) (hl : len ≤ 1073741824) (hs : SeesL W a len ls) :
    Calls Try.prog 88 #[.agg #[.int .i64 n, .slice a len cap], .int .i64 x0, .int .i64 y0] W (Made .i64 3 (routeV n ls x0 y0) W) := by
  have HL := Lib.hid hs.1
  obtain ⟨V, hV⟩ : ∃ V, V = (W.alloc (.cells #[.int .i64 n, .slice a len cap] 26)).alloc (.cells #[] 3) := ⟨_, rfl⟩
  have HBV : Hid (Below W.heap.size W V) := Lib.hid (by rw [hV]; exact (below_new _ _).alloc (by simp) _)
  have hzV : V.heap.size = W.heap.size + 2 := by rw [hV]; simp
  have HN := Lib.hid (show NetAt V W.heap.size n a len cap by rw [hV]; exact (net_new _ _ _ _ _ _).below (below_new _ _))
  have HS := Lib.hid (hs.below HBV.out)
  have HO := Lib.hid (show OwnB V (W.heap.size + 1) 0 0 [] by rw [hV]; have h := ownB_new (W.alloc (.cells #[.int .i64 n, .slice a len cap] 26)); simpa using h)
  have HSW := Lib.hid hs
  clear hs
  obtain ⟨i0, hi, hz0, hz1, hz2⟩ := info_parts info_i64
  obtain ⟨P, hP⟩ : ∃ P, P = routeV n ls x0 y0 := ⟨_, rfl⟩
  rw [← hP]
  have HP := Lib.hid hP
  clear hP
  cases hnb : netB n ls
  · have HE : Hid (P = []) := Lib.hid (by rw [HP.out]; exact route_no (ask_net hnb))
    have HNB := Lib.hid hnb
    clear hnb
    go_enter Try.func88, Try.ntmps88
    go_wp2_with fail
    rw [← hV]
    clear hV
    refine (specNet_any V n a len cap ls hl HS.out).mono ?_
    rw [HNB.out]
    rintro e w2 ⟨rfl, hb2⟩
    have HB2 := Lib.hid (below_up HBV.out hb2 (Nat.le_refl _))
    have HO2 := Lib.hid (HO.out.below hb2)
    clear hb2
    go_wp2
    go_ret
    rw [HE.out]
    exact made_blk HO2.out (by omega) HB2.out
  have hnb8 := netB_ends hnb
  obtain ⟨m, rfl, hm1, hm8, hl1, hl6, hends⟩ := hnb8
  have HEN := Lib.hid hends
  cases hx : inR x0 0 ((m : Int) - 1)
  · have HE : Hid (P = []) := Lib.hid (by rw [HP.out]; exact route_no (ask_from hx))
    have HNB := Lib.hid hnb
    have HX := Lib.hid hx
    clear hnb hx hends
    go_enter Try.func88, Try.ntmps88
    go_wp2_with fail
    rw [← hV]
    clear hV
    refine (specNet_any V m a len cap ls hl HS.out).mono ?_
    rw [HNB.out]
    rintro e w2 ⟨rfl, hb2⟩
    have HB2 := Lib.hid (below_up HBV.out hb2 (Nat.le_refl _))
    have HO2 := Lib.hid (HO.out.below hb2)
    have c0 := (HN.out.below hb2).c0
    clear hb2
    go_wp2_with (go_at_call 41; refine (l1In_any _ _ _ _).mono ?_; rw [HX.out]; rintro e w3 ⟨rfl, rfl⟩)
    go_ret
    rw [HE.out]
    exact made_blk HO2.out (by omega) HB2.out
  cases hy : inR y0 0 ((m : Int) - 1)
  · have HE : Hid (P = []) := Lib.hid (by rw [HP.out]; exact route_no (ask_to hy))
    have HNB := Lib.hid hnb
    have HX := Lib.hid hx
    have HY := Lib.hid hy
    clear hnb hx hy hends
    go_enter Try.func88, Try.ntmps88
    go_wp2_with fail
    rw [← hV]
    clear hV
    refine (specNet_any V m a len cap ls hl HS.out).mono ?_
    rw [HNB.out]
    rintro e w2 ⟨rfl, hb2⟩
    have HB2 := Lib.hid (below_up HBV.out hb2 (Nat.le_refl _))
    have HO2 := Lib.hid (HO.out.below hb2)
    have c0 := (HN.out.below hb2).c0
    clear hb2
    go_wp2_with (go_at_call 41; refine (l1In_any _ _ _ _).mono ?_; (first | rw [HX.out] | rw [HY.out]); rintro e w3 ⟨rfl, rfl⟩)
    go_ret
    rw [HE.out]
    exact made_blk HO2.out (by omega) HB2.out
  have HASK := Lib.hid (ask_yes hnb hx hy)
  have hxb := inR_true.1 hx
  have hyb := inR_true.1 hy
  obtain ⟨x, rfl⟩ : ∃ k : Nat, x0 = k := ⟨x0.toNat, by omega⟩
  obtain ⟨t, rfl⟩ : ∃ k : Nat, y0 = k := ⟨y0.toNat, by omega⟩
  have hxm : x < m := by omega
  have htm : t < m := by omega
  have hlen : ls.length = len := HL.out
  have HNB := Lib.hid hnb
  have HX := Lib.hid hx
  have HY := Lib.hid hy
  have HLS : Hid (1 ≤ ls.length ∧ ls.length ≤ 6) := Lib.hid ⟨hl1, hl6⟩
  have hlen6 : len ≤ 6 := by omega
  clear hnb hx hy hends hxb hyb hl1 hl6 hlen
  go_enter Try.func88, Try.ntmps88
  go_wp2_with fail
  rw [← hV]
  clear hV
  refine (specNet_any V m a len cap ls hl HS.out).mono ?_
  rw [HNB.out]
  rintro e w2 ⟨rfl, hb2⟩
  have HB2 := Lib.hid (below_up HBV.out hb2 (Nat.le_refl _))
  have HO2 := Lib.hid (HO.out.below hb2)
  have HN2 := Lib.hid (HN.out.below hb2)
  have HS2 := Lib.hid (HS.out.below hb2)
  have hz2' : W.heap.size + 2 ≤ w2.heap.size := by have := hb2.size; omega
  have c0 := HN2.out.c0
  clear hb2
  go_wp2_with (go_at_call 41; refine (l1In_any _ _ _ _).mono ?_; (first | rw [HX.out] | rw [HY.out]); rintro e w3 ⟨rfl, rfl⟩)
  clear c0
  go_loopw [8, 9] (fun v i wr => ∃ k gd cd : Nat, k ≤ m ∧ i = .int .i64 k ∧ v = .slice (some ⟨gd, 0, none⟩) k cd ∧ w2.heap.size ≤ gd ∧ OwnB wr gd k cd (List.replicate k (-1)) ∧ Below w2.heap.size w2 wr) (fun _ i _ => m - (intOf i).toNat)
  case atStart => exact ⟨0, _, _, Nat.zero_le _, rfl, rfl, Nat.le_refl _, ownB_new _, below_new _ _⟩
  case round =>
    obtain ⟨k, gd, cd, hk, rfl, rfl, hgd, ho, hb⟩ := hrel
    have HOD := Lib.hid ho
    have HB := Lib.hid hb
    have c0 := (HN2.out.below hb).c0
    have hszw := hb.size
    clear ho hb
    by_cases hlt : k < m
    · go_wp2_with (at_builtin; refine wp_append_blk rfl _ _ 34 rfl i0 Try.underlying34 hi hz0 hz1 hz2 gd k cd _ rfl (HOD.out.below (below_new _ _)) _ (-1) _ rfl (sees_one (x := -1) (by decide) _ _) (by omega) ?_; intro g' cap' w' ho' hat hm'; have HO' := Lib.hid ho'; have HAT := Lib.hid hat; have HM' := Lib.hid hm'; clear ho' hat hm')
      go_roundw
      case rel => exact ⟨k + 1, g', cap', by omega, by go_num, rfl, by have h := HAT.out; simp at h; omega, by rw [← neg_next]; exact HO'.out, below_moved (HB.out.alloc hszw _) HM'.out (Nat.le_refl _) hgd⟩
      case measure => simp [intOf]; omega
    · obtain rfl : k = m := by omega
      have hsp := HOD.out.spot
      obtain ⟨hcl, hcc, hcm, hcd, hfz⟩ := hsp
      have hct := hcd t htm
      have hft := hfz t
      rw [repl_getD htm] at hct
      have i0t : (0 : Int) ≤ (t : Int) := by omega
      have i1t : (t : Int) < (k : Int) := by omega
      clear hcd hfz hcl
      go_wp2_with fail
      obtain ⟨X, hX⟩ : ∃ X, X = wr.setCell ⟨gd, t, none⟩ (.int .i64 0) := ⟨_, rfl⟩
      have HOX := Lib.hid (HOD.out.stored t 0 (by decide))
      rw [← hX] at HOX
      have HODX := Lib.hid HOX.out.1
      have HBX := Lib.hid (below_moved HB.out HOX.out.2 (Nat.le_refl _) hgd)
      rw [← hX]
      clear hX HOX hct hft hszw c0 HOD HB
      obtain ⟨d0, hd0⟩ : ∃ d0, d0 = (List.replicate k (-1 : Int)).set t 0 := ⟨_, rfl⟩
      have HD0 : Hid (Dist k ls (t : Int) d0 0 0) := Lib.hid (by rw [hd0]; exact dist_start t htm)
      rw [← hd0] at HODX
      clear hd0
      go_wp2
      go_loopw [10, 11, 12, 13] (fun i _ _ _ ws => ∃ (r : Nat) (d : List Int), r ≤ k ∧ i = .int .i64 r ∧ Hid (Dist k ls (t : Int) d r 0) ∧ OwnB ws gd k cd d ∧ Below w2.heap.size w2 ws) (fun i _ _ _ _ => k - (intOf i).toNat)
      case atStart => exact ⟨0, d0, Nat.zero_le _, rfl, Lib.hid HD0.out, HODX.out, HBX.out⟩
      case round =>
        obtain ⟨r, d, hr, rfl, HD, ho, hb⟩ := hrel
        obtain ⟨Vr, rfl⟩ : ∃ V, V = wr := ⟨_, rfl⟩
        have HOV := Lib.hid ho
        have HBR := Lib.hid hb
        have c0 := (HN2.out.below hb).c0
        clear ho hb
        by_cases hlt2 : r < k
        · go_wp2
          go_loopw [11, 12, 13] (fun i _ _ wt => ∃ (j : Nat) (d : List Int), j ≤ len ∧ i = .int .i64 j ∧ Hid (Dist k ls (t : Int) d r j) ∧ OwnB wt gd k cd d ∧ Below w2.heap.size w2 wt) (fun i _ _ _ => len - (intOf i).toNat)
          case atStart => exact ⟨0, d, Nat.zero_le _, rfl, Lib.hid HD.out, HOV.out, HBR.out⟩
          case round =>
            clear c0
            obtain ⟨j, d, hj, rfl, HD, ho, hb⟩ := hrel
            have HOT := Lib.hid ho
            have HBT := Lib.hid hb
            have c0 := (HN2.out.below hb).c0
            have c1 := (HN2.out.below hb).c1
            by_cases hlt3 : j < len
            · obtain ⟨b2, o2, rfl, hb2, hx0, hx1, _, _⟩ := (HS2.out.below hb).spot hlt3
              have hjl : j < ls.length := by rw [HL.out]; exact hlt3
              obtain ⟨p, q, hpq⟩ : ∃ p q, ls.getD j (0, 0) = (p, q) := ⟨_, _, rfl⟩
              have hend := HEN.out _ (getL_mem hjl)
              rw [hpq] at hx0 hx1 hend
              obtain ⟨e1, e2, e3, e4, e5⟩ := hend
              simp only at e1 e2 e3 e4 e5
              obtain ⟨an, rfl⟩ : ∃ z : Nat, p = z := ⟨p.toNat, by omega⟩
              obtain ⟨bn, rfl⟩ : ∃ z : Nat, q = z := ⟨q.toNat, by omega⟩
              have han : an < k := by omega
              have hbn : bn < k := by omega
              have hab : ¬ an = bn := fun e => e5 (by rw [e])
              have hba : ¬ bn = an := fun e => e5 (by rw [e])
              obtain ⟨_, _, _, hcd, hfz⟩ := ho.spot
              have hca := hcd an han
              have hcb := hcd bn hbn
              have hfa := hfz an
              have hfb := hfz bn
              have HPQ := Lib.hid hpq
              obtain ⟨u, hu⟩ : ∃ u, d.getD an 0 = u := ⟨_, rfl⟩
              obtain ⟨v, hv⟩ : ∃ v, d.getD bn 0 = v := ⟨_, rfl⟩
              rw [hu] at hca
              rw [hv] at hcb
              have HU := Lib.hid hu
              have HVV := Lib.hid hv
              have hr8 : r ≤ 8 := by omega
              clear hcd hfz ho hb hpq hu hv
              by_cases h1 : u = (r : Int)
              · subst h1
                by_cases h2 : v < 0
                · have h5 : ¬ ((r : Int) + 1 = (r : Int)) := by omega
                  have HDP : Hid (Dist k ls (t : Int) (d.set bn ((r : Int) + 1)) r (j + 1)) := Lib.hid (by
                    have h := HD.out.put hbn han (step_from hjl HPQ.out) HU.out (by rw [HVV.out]; exact h2)
                    exact dist_skip h hjl HPQ.out (fun _ => by rw [getD_set_ne hab, HU.out]; omega) (fun _ => by rw [getD_set_eq (by rw [HD.out.len]; exact hbn)]; omega))
                  go_wp2
                  go_roundw
                  case rel =>
                    have hst := HOT.out.stored bn ((r : Int) + 1) (WalkArith.wf_i64 (by omega))
                    exact ⟨j + 1, _, by omega, by go_num, HDP, hst.1, below_moved HBT.out hst.2 (Nat.le_refl _) hgd⟩
                  case measure => simp [intOf]; omega
                · have HDP : Hid (Dist k ls (t : Int) d r (j + 1)) := Lib.hid (dist_skip HD.out hjl HPQ.out (fun _ => by rw [HU.out]; omega) (fun _ => by rw [HVV.out]; omega))
                  have h6 : ¬ (r : Int) < 0 := by omega
                  by_cases h3 : v = (r : Int)
                  · subst h3
                    go_wp2
                    go_roundw
                    case rel => exact ⟨j + 1, d, by omega, by go_num, HDP, HOT.out, HBT.out⟩
                    case measure => simp [intOf]; omega
                  · go_wp2
                    go_roundw
                    case rel => exact ⟨j + 1, d, by omega, by go_num, HDP, HOT.out, HBT.out⟩
                    case measure => simp [intOf]; omega
              · by_cases h3 : v = (r : Int)
                · subst h3
                  by_cases h4 : u < 0
                  · have HDP : Hid (Dist k ls (t : Int) (d.set an ((r : Int) + 1)) r (j + 1)) := Lib.hid (by
                      have h := HD.out.put han hbn (step_to hjl HPQ.out) HVV.out (by rw [HU.out]; exact h4)
                      exact dist_skip h hjl HPQ.out (fun _ => by rw [getD_set_eq (by rw [HD.out.len]; exact han)]; omega) (fun _ => by rw [getD_set_ne hba, HVV.out]; omega))
                    go_wp2
                    go_roundw
                    case rel =>
                      have hst := HOT.out.stored an ((r : Int) + 1) (WalkArith.wf_i64 (by omega))
                      exact ⟨j + 1, _, by omega, by go_num, HDP, hst.1, below_moved HBT.out hst.2 (Nat.le_refl _) hgd⟩
                    case measure => simp [intOf]; omega
                  · have HDP : Hid (Dist k ls (t : Int) d r (j + 1)) := Lib.hid (dist_skip HD.out hjl HPQ.out (fun _ => by rw [HU.out]; omega) (fun _ => by rw [HVV.out]; omega))
                    go_wp2
                    go_roundw
                    case rel => exact ⟨j + 1, d, by omega, by go_num, HDP, HOT.out, HBT.out⟩
                    case measure => simp [intOf]; omega
                · have HDP : Hid (Dist k ls (t : Int) d r (j + 1)) := Lib.hid (dist_skip HD.out hjl HPQ.out (fun e => by rw [HVV.out] at e; exact absurd e h3) (fun e => by rw [HU.out] at e; exact absurd e h1))
                  go_wp2
                  go_roundw
                  case rel => exact ⟨j + 1, d, by omega, by go_num, HDP, HOT.out, HBT.out⟩
                  case measure => simp [intOf]; omega
            · obtain rfl : j = len := by omega
              clear ho hb
              have HDN : Hid (Dist k ls (t : Int) d (r + 1) 0) := Lib.hid (Dist.round HEN.out (by rw [HL.out]; exact HD.out))
              go_wp2
              go_roundw
              case rel => exact ⟨r + 1, d, by omega, by go_num, HDN, HOT.out, HBT.out⟩
              case measure => simp [intOf]; omega
        · obtain rfl : r = k := by omega
          obtain ⟨u, hu⟩ : ∃ u, d.getD x 0 = u := ⟨_, rfl⟩
          have HU := Lib.hid hu
          obtain ⟨_, _, _, hcd, _⟩ := HOV.out.spot
          have hcx := hcd x hxm
          rw [hu] at hcx
          have i0x : (0 : Int) ≤ (x : Int) := by omega
          have i1x : (x : Int) < (r : Int) := by omega
          have HBW := Lib.hid (HB2.out.trans (HBR.out.mono (by omega)))
          clear hcd hu HODX HBX HD0
          by_cases hneg : u < 0
          · have HE : Hid (P = []) := Lib.hid (by rw [HP.out]; exact route_none (no_route HEN.out HD.out hxm (by rw [HU.out]; exact hneg)))
            go_wp2
            go_ret
            rw [HE.out]
            exact made_blk (HO2.out.below HBR.out) (by omega) HBW.out
          · obtain ⟨Pb, hPb⟩ := route_start HEN.out HD.out hxm (by rw [HU.out]; omega)
            have HPB : Hid (Best ls (x : Int) (t : Int) P) := Lib.hid (by rw [HP.out, route_best HASK.out hPb]; exact hPb)
            have HPL : Hid (P.length ≤ 9) := Lib.hid (by
              rcases HD.out.true_ x hxm with h | ⟨_, h2, p, hp, hpl⟩
              · rw [HU.out] at h; omega
              · have h3 := sle_len (HPB.out.2 p hp); omega)
            have HU0 : Hid (0 ≤ d.getD x 0) := Lib.hid (by rw [HU.out]; omega)
            clear hPb
            go_wp2
            clear c0
            go_loopw [7, 14, 15, 16, 17] (fun o v _ _ _ wr => ∃ (z go co k : Nat) (done rest : List Int), z < r ∧ v = .int .i64 z ∧ o = .slice (some ⟨go, 0, none⟩) k co ∧ Hid (0 ≤ d.getD z 0) ∧ Hid (done ++ rest = P) ∧ Hid (Best ls (z : Int) (t : Int) rest) ∧ W.heap.size + 1 ≤ go ∧ ¬ go = gd ∧ Hid (OwnB wr go k co done) ∧ Hid (OwnB wr gd r cd d) ∧ Hid (NetAt wr W.heap.size (r : Int) a len cap) ∧ Below W.heap.size W wr) (fun _ v _ _ _ _ => (d.getD (intOf v).toNat 0).toNat)
            case atStart => exact ⟨x, W.heap.size + 1, 0, 0, [], P, hxm, rfl, rfl, Lib.hid HU0.out, Lib.hid rfl, Lib.hid HPB.out, Nat.le_refl _, by omega, Lib.hid (HO2.out.below HBR.out), Lib.hid HOV.out, Lib.hid (HN2.out.below HBR.out), HBW.out⟩
            case round =>
              obtain ⟨z, go, co, k, done, rest, hzr, rfl, rfl, HZ0, HDR, HBZ, hgo, hgog, HOO, HOD, HNZ, hb⟩ := hrel
              obtain ⟨Vz, rfl⟩ : ∃ V, V = wr := ⟨_, rfl⟩
              have HBK := Lib.hid hb
              have HSZ := Lib.hid (HSW.out.below hb)
              have hk9 : k ≤ 9 := by have h1 := HOO.out.1; have h2 := HPL.out; rw [← HDR.out, List.length_append] at h2; omega
              clear hb hcx
              by_cases hzt : z = t
              · subst hzt
                have HE : Hid (P = done) := Lib.hid (by rw [← HDR.out, best_unique HBZ.out (best_nil _ _), List.append_nil])
                go_wp2
                go_ret
                rw [HE.out]
                exact made_blk HOO.out (by omega) HBK.out
              · have hzt1 : ¬ (z : Int) = (t : Int) := by omega
                have hzt2 : ((z : Int) != (t : Int)) = true := by simp only [bne_iff_ne, ne_eq]; exact hzt1
                have c0 := HNZ.out.c0
                have c1 := HNZ.out.c1
                go_wp2
                go_loopw [15, 16, 17] (fun v i _ wr => ∃ (j : Nat) (nx : Int), j ≤ len ∧ i = .int .i64 j ∧ v = .int .i64 nx ∧ Hid ((nx = -1 ∧ ∀ q, q < j → ¬ Near ls d z q) ∨ ∃ f : Nat, nx = f ∧ f < len ∧ Near ls d z f ∧ ∀ q, q < f → ¬ Near ls d z q) ∧ Below Vz.heap.size Vz wr) (fun _ i _ _ => len - (intOf i).toNat)
                case atStart => exact ⟨0, -1, Nat.zero_le _, rfl, rfl, Lib.hid (.inl ⟨rfl, fun q hq => by omega⟩), Below.refl _ _⟩
                case round =>
                  clear c0 c1
                  obtain ⟨j, nx, hj, rfl, rfl, HF, hb⟩ := hrel
                  have HB5 := Lib.hid hb
                  have HN5 := Lib.hid (HNZ.out.below hb)
                  have HS5 := Lib.hid (HSZ.out.below hb)
                  have HD5 := Lib.hid (HOD.out.below hb)
                  have HO5 := Lib.hid (HOO.out.below hb)
                  have HW5 := Lib.hid (HBK.out.trans (hb.mono HBK.out.size))
                  have c0 := HN5.out.c0
                  have c1 := HN5.out.c1
                  have hszk := HBK.out.size
                  have hsz5 := hb.size
                  clear hb
                  rcases HF.out with ⟨rfl, hno⟩ | ⟨f, rfl, hfl, hnear, hfirst⟩
                  · have HNO := Lib.hid hno
                    clear hno
                    by_cases hjl : j < len
                    · obtain ⟨so, hso⟩ : ∃ so, stepN ls (j : Int) (z : Int) = so := ⟨_, rfl⟩
                      have HSO := Lib.hid hso
                      have hj6 : j ≤ 6 := by omega
                      cases so with
                      | none =>
                        have HNX : Hid (¬ Near ls d z j) := Lib.hid (fun ⟨w, hw, _⟩ => by rw [HSO.out] at hw; cases hw)
                        clear hso
                        go_wp2_with (go_at_call 89; refine (specEnd_any _ (r : Int) a len cap ls _ 1 _ [(j : Int)] (z : Int) hl (HS5.out.below (below_new _ _)) (by omega) (sees_one (x := (j : Int)) (WalkArith.wf_i64 (by omega)) _ _)).mono ?_; rw [endV_one, HSO.out, Option.getD_none]; rintro e w7 ⟨rfl, hb7⟩; have HB7 := Lib.hid (below_up (below_new wr _) hb7 (Nat.le_refl _)); clear hb7)
                        go_quiet (fail)
                        go_wp2
                        go_roundw
                        case rel => exact ⟨j + 1, -1, by omega, by go_num, rfl, Lib.hid (.inl ⟨rfl, next_all HNO.out HNX.out⟩), HB5.out.trans ((HB7.out.trans (below_drewN0 _ _ _)).mono HB5.out.size)⟩
                        case measure => simp [intOf]; omega
                      | some u =>
                        have hue := step_ends HEN.out hso
                        obtain ⟨w, rfl⟩ : ∃ k : Nat, u = k := ⟨u.toNat, by omega⟩
                        have hwr : w < r := by omega
                        clear hso hue
                        go_wp2_with (go_at_call 89; refine (specEnd_any _ (r : Int) a len cap ls _ 1 _ [(j : Int)] (z : Int) hl (HS5.out.below (below_new _ _)) (by omega) (sees_one (x := (j : Int)) (WalkArith.wf_i64 (by omega)) _ _)).mono ?_; rw [endV_one, HSO.out, Option.getD_some]; rintro e w7 ⟨rfl, hb7⟩; have HB7 := Lib.hid (below_up (below_new wr _) hb7 (Nat.le_refl _)); clear hb7)
                        have hsp := (HD5.out.below HB7.out).spot
                        obtain ⟨_, _, _, hcd, _⟩ := hsp
                        have hcw := hcd w hwr
                        have hcz := hcd z hzr
                        obtain ⟨p, hp⟩ : ∃ p, d.getD w 0 = p := ⟨_, rfl⟩
                        obtain ⟨q, hq⟩ : ∃ q, d.getD z 0 = q := ⟨_, rfl⟩
                        rw [hp] at hcw
                        rw [hq] at hcz
                        have HPW := Lib.hid hp
                        have HQZ := Lib.hid hq
                        have hq0 : 0 ≤ q := by have h := HZ0.out; rw [hq] at h; exact h
                        have hq9 : q ≤ 9 := by
                          rcases HD.out.true_ z hzr with h | ⟨_, h2, _⟩
                          · rw [hq] at h; omega
                          · rw [hq] at h2; omega
                        have hwq : IntKind.i64.wrap (q - 1) = q - 1 := IntWalk.i64_in _ (by omega)
                        have i0w : (0 : Int) ≤ (w : Int) := by omega
                        have i1w : (w : Int) < (r : Int) := by omega
                        have i0z : (0 : Int) ≤ (z : Int) := by omega
                        have i1z : (z : Int) < (r : Int) := by omega
                        clear hcd hp hq
                        by_cases hpq : p = q - 1
                        · have HNE : Hid (Near ls d z j) := Lib.hid ⟨w, HSO.out, by rw [HPW.out, HQZ.out]; exact hpq⟩
                          subst hpq
                          go_quiet (fail)
                          go_wp2
                          go_roundw
                          case rel => exact ⟨j + 1, (j : Int), by omega, by go_num, rfl, Lib.hid (.inr ⟨j, rfl, hjl, HNE.out, HNO.out⟩), HB5.out.trans ((HB7.out.trans (below_drewN0 _ _ _)).mono HB5.out.size)⟩
                          case measure => simp [intOf]; omega
                        · have HNX : Hid (¬ Near ls d z j) := Lib.hid (fun ⟨w', hw', e⟩ => by
                            rw [HSO.out] at hw'
                            simp only [Option.some.injEq] at hw'
                            obtain rfl : w = w' := by omega
                            rw [HPW.out, HQZ.out] at e
                            exact hpq e)
                          go_quiet (fail)
                          go_wp2
                          go_roundw
                          case rel => exact ⟨j + 1, -1, by omega, by go_num, rfl, Lib.hid (.inl ⟨rfl, next_all HNO.out HNX.out⟩), HB5.out.trans ((HB7.out.trans (below_drewN0 _ _ _)).mono HB5.out.size)⟩
                          case measure => simp [intOf]; omega
                    · exfalso
                      obtain ⟨q, hq, hqn⟩ := near_exists HEN.out HD.out hzr hzt HZ0.out
                      exact HNO.out q (by rw [HL.out] at hq; omega) hqn
                  · obtain ⟨w, rest', hwr, hstep, hbest, hrest, hw0, hwd⟩ := best_next HEN.out HD.out hzr hzt HZ0.out hnear hfirst HBZ.out
                    have HST : Hid (stepN ls (f : Int) (z : Int) = some (w : Int)) := Lib.hid hstep
                    have HBN := Lib.hid hbest
                    have HW0 := Lib.hid hw0
                    have HWD : Hid ((d.getD w 0).toNat < (d.getD z 0).toNat) := Lib.hid (by have := HZ0.out; omega)
                    have HDN : Hid ((done ++ [(f : Int)]) ++ rest' = P) := Lib.hid (by rw [← HDR.out, hrest, List.append_assoc]; rfl)
                    have hf6 : f ≤ 6 := by omega
                    have hfn : ¬ (f : Int) < 0 := by omega
                    clear hnear hfirst hstep hbest hrest hw0 hwd
                    by_cases hjl : j < len
                    all_goals
                      go_wp2_with (first
                        | (at_builtin; refine wp_append_blk rfl _ _ 34 rfl i0 Try.underlying34 hi hz0 hz1 hz2 go k co done rfl (HO5.out.below (below_new _ _)) _ (f : Int) _ rfl (sees_one (x := (f : Int)) (WalkArith.wf_i64 (by omega)) _ _) (by omega) ?_; intro g' cap' w6 ho' hat hm'; have HO6 := Lib.hid ho'; have HAT := Lib.hid hat; have HN6 := Lib.hid ((HN5.out.below (below_new _ _)).off hm' (by omega)); have HD6 := Lib.hid ((HD5.out.below (below_new _ _)).off hm' (by omega)); have HW6 := Lib.hid (below_moved (HW5.out.alloc HW5.out.size _) hm' (Nat.le_refl _) (by omega)); have c0 := HN6.out.c0; have c1 := HN6.out.c1; clear ho' hat hm')
                        | (go_at_call 89; refine (specEnd_any _ (r : Int) a len cap ls _ 1 _ [(f : Int)] (z : Int) hl ((HSW.out.below HW6.out).below (below_new _ _)) (by omega) (sees_one (x := (f : Int)) (WalkArith.wf_i64 (by omega)) _ _)).mono ?_; rw [endV_one, HST.out, Option.getD_some]; rintro e w7 ⟨rfl, hb7⟩; have HB7 := Lib.hid (below_up (below_new w6 _) hb7 (Nat.le_refl _)); clear hb7))
                      go_roundw
                      case rel =>
                        refine ⟨w, g', cap', k + 1, done ++ [(f : Int)], rest', hwr, rfl, rfl, Lib.hid HW0.out, Lib.hid HDN.out, Lib.hid HBN.out, ?_, ?_, Lib.hid (HO6.out.below HB7.out), Lib.hid (HD6.out.below HB7.out), Lib.hid (HN6.out.below HB7.out), HW6.out.trans (HB7.out.mono HW6.out.size)⟩
                        · have h := HAT.out; simp at h; omega
                        · have h := HAT.out; have h2 := HD5.out.lt; simp at h; omega
                      case measure => have h := HWD.out; simpa [intOf] using h
end Go.Proofs.Ytbjjgcfmdlinaaa
