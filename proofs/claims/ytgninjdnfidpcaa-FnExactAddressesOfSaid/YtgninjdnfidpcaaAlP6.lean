/- Groups from parents, and an address's parent: the program's. -/
import Derived.Test.YtgninjdnfidpcaaAlP2
import Derived.Test.YtgninjdnfidpcaaAlH
namespace Go.Proofs.Ytgninjdnfidpcaa
open Go.RowKit
theorem fromK_on {ad ps : List Int} {f : Int} {k : Nat} (h : ps.getD k 0 = f) : fromK ad ps f (k + 1) = fromK ad ps f k ++ [ad.getD k 0] := by rw [fromK, if_pos h]
theorem fromK_off {ad ps : List Int} {f : Int} {k : Nat} (h : ¬ ps.getD k 0 = f) : fromK ad ps f (k + 1) = fromK ad ps f k := by rw [fromK, if_neg h]
set_option maxRecDepth 20000 in
set_option maxHeartbeats 3200000 in
theorem fromP_any (W : World) (aa : Option Addr) (n ca : Nat) (ad : List Int) (pa : Option Addr) (m cp : Nat) (ps : List Int) (f : Int) (hn : n ≤ 12) (hm : m ≤ n) (hsa : Sees .i64 W aa n ad) (hsp : Sees .i64 W pa m ps) :
    Calls Try.prog 101 #[.agg #[.slice aa n ca, .slice pa m cp], .int .i64 f] W (Made .i64 3 (fromV ad ps f) W) := by
  obtain ⟨V, hV⟩ : ∃ V, V = W.alloc (.cells #[.slice aa n ca, .slice pa m cp] 80) := ⟨_, rfl⟩
  have hBV : Below W.heap.size W V := by rw [hV]; exact (Below.refl _ _).alloc (Nat.le_refl _) _
  have hsV : V.heap.size = W.heap.size + 1 := by rw [hV]; simp
  have c0 : V.cell? ⟨W.heap.size, 0, none⟩ = some (.slice aa n ca) := by rw [hV]; simp
  have c1 : V.cell? ⟨W.heap.size, 1, none⟩ = some (.slice pa m cp) := by rw [hV]; simp
  have HSA := Lib.hid (hsa.below hBV)
  have HSP := Lib.hid (hsp.below hBV)
  have HLP := Lib.hid hsp.1
  have HLA := Lib.hid hsa.1
  have HC := Lib.hid (And.intro c0 c1)
  have HBV := Lib.hid hBV
  have HSV := Lib.hid hsV
  have HV := Lib.hid hV
  obtain ⟨i0, hi, hz0, hz1, hz2⟩ := info_parts info_i64
  clear hsa hsp c0 c1 hBV hsV hV
  go_enter Try.func101, Try.ntmps101
  go_wp2_with fail
  go_loopw [5, 6, 7, 12] (fun v _ _ i wr => ∃ (k : Nat) (a' : Option Addr) (l' c' : Nat), k ≤ m ∧ l' ≤ k ∧ i = .int .i64 k ∧ v = .slice a' l' c' ∧ Own .i64 3 wr V.heap.size wr.heap.size a' l' c' (fromK ad ps f k) ∧ Below V.heap.size V wr) (fun _ _ _ i _ => m - (intOf i).toNat)
  case atStart =>
    have e := HV.out
    subst e
    exact ⟨0, _, _, _, Nat.zero_le _, Nat.zero_le _, rfl, rfl, own_nilB (by simp), below_new8 _ _⟩
  case round =>
    obtain ⟨k, a', l', c', hk, hl', rfl, rfl, ho, hb⟩ := hrel
    have HO := Lib.hid ho
    have HB := Lib.hid hb
    have hszw := hb.size
    have hb0 : W.heap.size < V.heap.size := by rw [HSV.out]; exact Nat.lt_succ_self _
    have d0 := (hb.cell (p := ⟨W.heap.size, 0, none⟩) hb0).trans HC.out.1
    have d1 := (hb.cell (p := ⟨W.heap.size, 1, none⟩) hb0).trans HC.out.2
    by_cases hlt : k < m
    · obtain ⟨bp, op, rfl, hbp, hcp⟩ := sees_cell (HSP.out.below hb) hlt
      obtain ⟨ba, oa, rfl, hba, hca⟩ := sees_cell (HSA.out.below hb) (show k < n by omega)
      obtain ⟨q, hq⟩ : ∃ q, q = ps.getD k 0 := ⟨_, rfl⟩
      obtain ⟨x, hx⟩ : ∃ x, x = ad.getD k 0 := ⟨_, rfl⟩
      have HXW : Hid ((Lit.int .i64 x).wf = true) := Lib.hid (by rw [hx]; exact HSA.out.2.1 _ (getD_mem (by rw [HLA.out]; omega)))
      rw [← hq] at hcp
      rw [← hx] at hca
      have hi1 : (k : Int) < (n : Int) := by omega
      have hi2 : (k : Int) < (m : Int) := by omega
      have hi3 : (0 : Int) ≤ (k : Int) := by omega
      by_cases hqf : q = f
      · have HN : Hid (fromK ad ps f (k + 1) = fromK ad ps f k ++ [x]) := Lib.hid (by rw [fromK_on (by rw [← hq]; exact hqf), hx])
        subst hqf
        clear hq hx ho hb
        go_wp2_with (at_builtin; refine wp_append_sees rfl _ _ 24 rfl 3 i0 .i64 8 Try.underlying24 hi hz0 hz1 hz2 _ _ _ _ rfl _ _ (HO.out.alloc _) _ _ _ _ rfl (sees_one (x := x) HXW.out _ _) (by unfold maxLen; omega) (by omega) (by simp; omega) ?_; intro b2 len2 cap2 w2 hlen2 ho2 hm2; subst hlen2; have HO2 := Lib.hid ho2; have HM2 := Lib.hid hm2; clear ho2 hm2)
        go_roundw
        case rel => exact ⟨k + 1, _, _, _, by omega, by omega, by go_num, rfl, by rw [HN.out]; exact HO2.out, below_moved (HB.out.alloc hszw _) HM2.out (Nat.le_refl _) (Nat.le_refl _)⟩
        case measure => simp [intOf]; omega
      · have HN : Hid (fromK ad ps f (k + 1) = fromK ad ps f k) := Lib.hid (fromK_off (by rw [← hq]; exact hqf))
        clear hq hx ho hb
        go_wp2
        go_roundw
        case rel => exact ⟨k + 1, _, _, _, by omega, by omega, by go_num, rfl, by rw [HN.out]; exact HO.out, HB.out⟩
        case measure => simp [intOf]; omega
    · obtain rfl : k = m := by omega
      have HE : Hid (fromV ad ps f = fromK ad ps f k) := Lib.hid (by unfold fromV; rw [HLP.out])
      clear ho hb
      go_wp2
      go_ret
      exact ⟨_, _, _, rfl, by rw [HE.out]; exact HO.out.wide HBV.out.size (Nat.le_refl _) (Nat.le_refl _), HBV.out.trans (HB.out.mono HBV.out.size)⟩
theorem fromV_len (ad ps : List Int) (f : Int) : (fromV ad ps f).length ≤ ps.length := fromK_len ad ps f ps.length
theorem joinsB_no {xs : List (Int × Int × Int)} {ad ps : List Int} {i f : Nat} (h : (fromV ad ps f).length = 0) : joinsB xs ad ps i f = false := by
  unfold joinsB
  rw [decide_eq_false (by omega)]
  rfl
theorem joinsB_is {xs : List (Int × Int × Int)} {ad ps : List Int} {i f : Nat} (h : 0 < (fromV ad ps f).length) : joinsB xs ad ps i f = mayB xs (fromV ad ps f ++ [ad.getD i 0]) := by
  unfold joinsB
  rw [decide_eq_true h]
  rfl
set_option maxRecDepth 20000 in
set_option maxHeartbeats 6400000 in
theorem parP_any (W : World) (aa : Option Addr) (n ca : Nat) (ad : List Int) (pa : Option Addr) (i cp : Nat) (ps : List Int) (oa : Option Addr) (lo co : Nat) (xs ys : List (Int × Int × Int)) (hn : n ≤ 12) (hi0 : i < n) (hsa : Sees .i64 W aa n ad) (hsp : Sees .i64 W pa i ps)
    (hlo : lo ≤ 1073741824) (hso : SeesY W oa lo ys) (hys : Sorted xs ys) (hR : areR xs = true) :
    Calls Try.prog 96 #[.agg #[.slice aa n ca, .slice pa i cp], .int .i64 i, .slice oa lo co] W fun e w' => e = .returned (.int .i64 ((parV xs ad ps i : Nat) : Int)) ∧ Below W.heap.size W w' := by
  obtain ⟨V, hV⟩ : ∃ V, V = W.alloc (.cells #[.slice aa n ca, .slice pa i cp] 80) := ⟨_, rfl⟩
  have hBV : Below W.heap.size W V := by rw [hV]; exact (Below.refl _ _).alloc (Nat.le_refl _) _
  have hsV : V.heap.size = W.heap.size + 1 := by rw [hV]; simp
  have c0 : V.cell? ⟨W.heap.size, 0, none⟩ = some (.slice aa n ca) := by rw [hV]; simp
  have c1 : V.cell? ⟨W.heap.size, 1, none⟩ = some (.slice pa i cp) := by rw [hV]; simp
  have HSA := Lib.hid (hsa.below hBV)
  have HSP := Lib.hid (hsp.below hBV)
  have HSO := Lib.hid (hso.below hBV)
  have HLP := Lib.hid hsp.1
  have HLA := Lib.hid hsa.1
  have HC := Lib.hid (And.intro c0 c1)
  have HBV := Lib.hid hBV
  have HSV := Lib.hid hsV
  have HV := Lib.hid hV
  have HYS := Lib.hid hys
  have HR := Lib.hid hR
  obtain ⟨v, hv⟩ : ∃ v : Nat, v = parV xs ad ps i := ⟨_, rfl⟩
  have HPV := Lib.hid hv
  rw [← hv]
  obtain ⟨i0, hi, hz0, hz1, hz2⟩ := info_parts info_i64
  clear hsa hsp hso c0 c1 hBV hsV hV hys hR hv
  go_enter Try.func96, Try.ntmps96
  go_wp2_with fail
  go_loopw [7, 8, 10] (fun _ _ s wr => ∃ k : Nat, k ≤ i ∧ s = .int .i64 k ∧ Hid (∀ j, j < k → joinsB xs ad ps i j = false) ∧ Below V.heap.size V wr) (fun _ _ s _ => i - (intOf s).toNat)
  case atStart =>
    have e := HV.out
    subst e
    exact ⟨0, Nat.zero_le _, rfl, Lib.hid (fun j hj => absurd hj (Nat.not_lt_zero _)), Below.refl _ _⟩
  case round =>
    obtain ⟨k, hk, rfl, HJ, hb⟩ := hrel
    have HB := Lib.hid hb
    have hszw := hb.size
    have hb0 : W.heap.size < V.heap.size := by rw [HSV.out]; exact Nat.lt_succ_self _
    have d0 := (hb.cell (p := ⟨W.heap.size, 0, none⟩) hb0).trans HC.out.1
    have d1 := (hb.cell (p := ⟨W.heap.size, 1, none⟩) hb0).trans HC.out.2
    have hlenF := fromV_len ad ps ((k : Nat) : Int)
    have hF12 : (fromV ad ps ((k : Nat) : Int)).length ≤ 12 := by have := HLP.out; omega
    by_cases hlt : k < i
    · obtain ⟨gs, hgs⟩ : ∃ gs, gs = fromV ad ps ((k : Nat) : Int) := ⟨_, rfl⟩
      have HFR : Hid (Calls Try.prog 101 #[.agg #[.slice aa n ca, .slice pa i cp], .int .i64 (k : Int)] wr (Made .i64 3 gs wr)) := Lib.hid (by rw [hgs]; exact fromP_any wr aa n ca ad pa i cp ps _ hn (Nat.le_of_lt hi0) (HSA.out.below hb) (HSP.out.below hb))
      by_cases h0 : gs.length = 0
      · have HN : Hid (joinsB xs ad ps i k = false) := Lib.hid (joinsB_no (by rw [← hgs]; exact h0))
        have H0 := Lib.hid h0
        clear h0 hgs hlenF hF12 hb
        go_wp2_with (go_at_call 101; refine HFR.out.mono ?_; rintro e w2 ⟨a2, l2, c2, rfl, ho2, hb2⟩; have hl2 : l2 = 0 := (by rw [← ho2.1]; exact H0.out); subst hl2; have HB2 := Lib.hid (hb2.mono hszw); clear ho2 hb2)
        go_roundw
        case rel => exact ⟨k + 1, by omega, by go_num, Lib.hid (next_all HJ.out HN.out), HB.out.trans HB2.out⟩
        case measure => simp [intOf]; omega
      · obtain ⟨x, hx⟩ : ∃ x, x = ad.getD i 0 := ⟨_, rfl⟩
        obtain ⟨t, ht⟩ : ∃ t, mayB xs (gs ++ [x]) = t := ⟨_, rfl⟩
        have HN : Hid (joinsB xs ad ps i k = t) := Lib.hid (by rw [joinsB_is (by rw [← hgs]; omega), ← hgs, ← hx, ht])
        have HT := Lib.hid ht
        have hgl : gs.length ≤ 12 := by rw [hgs]; exact hF12
        obtain ⟨ba, oa2, rfl, hba, hca⟩ := sees_cell (HSA.out.below hb) hi0
        rw [← hx] at hca
        have HXW : Hid ((Lit.int .i64 x).wf = true) := Lib.hid (by rw [hx]; exact HSA.out.2.1 _ (getD_mem (by rw [HLA.out]; omega)))
        have hi1 : (i : Int) < (n : Int) := by omega
        have hi3 : (0 : Int) ≤ (i : Int) := by omega
        have HCA := Lib.hid (And.intro hca hba)
        have hbw : W.heap.size < wr.heap.size := Nat.lt_of_lt_of_le hb0 hszw
        have HD := Lib.hid (And.intro d0 d1)
        clear hgs ht hx hlenF hF12 hb
        cases t
        · go_wp2_with (first
            | (go_at_call 101; refine HFR.out.mono ?_; rintro e w2 ⟨a2, l2, c2, rfl, ho2, hb2⟩; have hl2 : (0 : Int) < (l2 : Int) := (by rw [← ho2.1]; omega); have hl3 : l2 ≤ 12 := (by rw [← ho2.1]; exact hgl); have hszW := hb2.size; have d0 := (hb2.cell (p := ⟨W.heap.size, 0, none⟩) hbw).trans HD.out.1; have d1 := (hb2.cell (p := ⟨W.heap.size, 1, none⟩) hbw).trans HD.out.2; have hca := (hb2.cell (p := ⟨ba, oa2 + i, none⟩) HCA.out.2).trans HCA.out.1; have HO2 := Lib.hid ho2; have HB2 := Lib.hid (hb2.mono hszw); clear ho2 hb2)
            | (at_builtin; refine wp_append_on (by simp [Region.wanted, yielded]) _ _ 24 rfl 3 i0 .i64 8 Try.underlying24 hi hz0 hz1 hz2 _ _ _ _ rfl _ _ (HO2.out.alloc _) _ _ _ _ rfl (sees_one (x := x) HXW.out _ _) (by unfold maxLen; omega) (by omega) (by simp; omega) ?_; intro b2 len2 cap2 w3 hlen2 ho3 hm3; have hl4 : len2 ≤ 1073741824 := (by omega); clear hlen2; have HO3 := Lib.hid ho3.sees; have HB3 := Lib.hid (below_moved ((HB2.out).alloc (Nat.le_trans hszw hszW) _) hm3 hszw hszw); clear ho3 hm3)
            | (go_at_call 82; refine (idsP_any _ oa lo co ys _ _ _ _ hlo (HSO.out.below (HB.out.trans HB3.out)) hl4 HO3.out).mono ?_; rw [sorted_may HR.out HYS.out, HT.out]; rintro e w4 ⟨rfl, hb4⟩; have HB4 := Lib.hid (below_up HB3.out hb4 hszw); clear hb4))
          go_roundw
          case rel => exact ⟨k + 1, by omega, by go_num, Lib.hid (next_all HJ.out HN.out), HB.out.trans HB4.out⟩
          case measure => simp [intOf]; omega
        · have HE : Hid (v = k) := Lib.hid (by rw [HPV.out]; exact parV_is hlt HN.out HJ.out)
          have HE2 : Hid ((k : Int) = (v : Int)) := Lib.hid (by rw [HE.out])
          go_wp2_with (first
            | (go_at_call 101; refine HFR.out.mono ?_; rintro e w2 ⟨a2, l2, c2, rfl, ho2, hb2⟩; have hl2 : (0 : Int) < (l2 : Int) := (by rw [← ho2.1]; omega); have hl3 : l2 ≤ 12 := (by rw [← ho2.1]; exact hgl); have hszW := hb2.size; have d0 := (hb2.cell (p := ⟨W.heap.size, 0, none⟩) hbw).trans HD.out.1; have d1 := (hb2.cell (p := ⟨W.heap.size, 1, none⟩) hbw).trans HD.out.2; have hca := (hb2.cell (p := ⟨ba, oa2 + i, none⟩) HCA.out.2).trans HCA.out.1; have HO2 := Lib.hid ho2; have HB2 := Lib.hid (hb2.mono hszw); clear ho2 hb2)
            | (at_builtin; refine wp_append_on (by simp [Region.wanted, yielded]) _ _ 24 rfl 3 i0 .i64 8 Try.underlying24 hi hz0 hz1 hz2 _ _ _ _ rfl _ _ (HO2.out.alloc _) _ _ _ _ rfl (sees_one (x := x) HXW.out _ _) (by unfold maxLen; omega) (by omega) (by simp; omega) ?_; intro b2 len2 cap2 w3 hlen2 ho3 hm3; have hl4 : len2 ≤ 1073741824 := (by omega); clear hlen2; have HO3 := Lib.hid ho3.sees; have HB3 := Lib.hid (below_moved ((HB2.out).alloc (Nat.le_trans hszw hszW) _) hm3 hszw hszw); clear ho3 hm3)
            | (go_at_call 82; refine (idsP_any _ oa lo co ys _ _ _ _ hlo (HSO.out.below (HB.out.trans HB3.out)) hl4 HO3.out).mono ?_; rw [sorted_may HR.out HYS.out, HT.out]; rintro e w4 ⟨rfl, hb4⟩; have HB4 := Lib.hid (below_up HB3.out hb4 hszw); clear hb4))
          go_ret
          exact ⟨ret_int HE2.out, HBV.out.trans ((HB.out.trans HB4.out).mono HBV.out.size)⟩
    · obtain rfl : k = i := by omega
      have HE2 : Hid ((k : Int) = (v : Int)) := Lib.hid (by rw [HPV.out, parV_self HJ.out])
      clear hb
      go_wp2
      go_ret
      exact ⟨ret_int HE2.out, HBV.out.trans (HB.out.mono HBV.out.size)⟩
end Go.Proofs.Ytgninjdnfidpcaa
