/- The walk of the law on solutions. -/
import Derived.Test.YtgcgdgbogamlnaaDraw6
import Derived.Test.YtgcgdgbogamlnaaBig
import Derived.Test.YtgcgdgbogamlnaaRowsL
import Derived.Test.YtgcgdgbogamlnaaFitP
import Derived.Test.YtgcgdgbogamlnaaTwoP
import Derived.Test.YtgcgdgbogamlnaaValP
import Derived.Test.YtgcgdgbogamlnaaRowSum
namespace Go.Proofs.Ytgcgdgbogamlnaa
open Go.RowKit
/-! ### Solutions fit, and what follows has one value -/
theorem solved_fits {ms : List (List Int)} {vs : List Int} {q : Nat} {xs : List (Int × Int)} {D : Int} {X : Nat → Int} (hs : isSys ms vs (q : Int) = true) (h : Solved q ms vs xs D X) (hD : D ≤ 1000000000) (hX : ∀ k, (X k).natAbs ≤ 80000000) : fitsB ms vs xs = true := by
  have hl := h.len
  refine fits_yes (by rw [hl]; exact hs) (fun k hk => ?_) (fun i hi => ?_)
  · rw [hl] at hk
    exact isR_true.2 (h.rep k hk).ok
  · rw [hl]
    exact h.row_fits (aug_ok hs) hD hX hi
theorem sol_fits {ms : List (List Int)} {vs : List Int} {q : Nat} (h : solvB ms vs (q : Int) = true) : fitsB ms vs (solL ms vs (q : Int)) = true := by
  obtain ⟨c, o, hA⟩ := aug_red2 (aug_ok (solv_sys h))
  obtain ⟨_, D, X, hs, hD, hX, _⟩ := hA.solved (solv_good h)
  rw [← solL_yes h] at hs
  exact solved_fits (solv_sys h) hs (by omega) (fun k => by have := hX k; omega)
theorem val_two {ms : List (List Int)} {vs z : List Int} (h : inSpanV ms z = true) : twoB ms vs z = false := by
  have hb : bothV ms z = true := by
    unfold inSpanV at h
    exact (Bool.and_eq_true _ _ ▸ h).1
  exact (two_no2 (vs := vs) (null_in hb h)).1
theorem val_some {ms : List (List Int)} {vs z : List Int} {p : Int × Int} (h : valR ms vs z = some p) : solvB ms vs (z.length : Int) = true ∧ inSpanV ms z = true ∧ dotR z (solL ms vs (z.length : Int)) z.length = some p := by
  unfold valR at h
  split at h
  · rename_i hc
    have := Bool.and_eq_true _ _ ▸ hc
    exact ⟨this.1, this.2, h⟩
  · cases h
/-- What two solutions are. -/
structure TwoIs (ms : List (List Int)) (vs z : List Int) (p q : Int × Int) : Prop where
  len : (twoX ms vs z).length = z.length
  len2 : (twoY ms vs z).length = z.length
  fit : fitsB ms vs (twoX ms vs z) = true
  fit2 : fitsB ms vs (twoY ms vs z) = true
  dot : dotR z (twoX ms vs z) z.length = some p
  dot2 : dotR z (twoY ms vs z) z.length = some q
  ne : p ≠ q
theorem two_is {ms : List (List Int)} {vs z : List Int} (h : twoB ms vs z = true) : ∃ p q, TwoIs ms vs z p q := by
  unfold twoB at h
  rw [Bool.and_eq_true, decide_eq_true_eq] at h
  obtain ⟨h1, h2⟩ := h
  obtain ⟨_, e1, e2⟩ := two_yes h1 h2
  obtain ⟨D, X, hs, hD, hX, _, hs2, hX2⟩ := two_math h1 h2
  have hn := null_ok h2
  have hz : ∀ j, -2 ≤ vec z j ∧ vec z j ≤ 2 := by
    rcases hb : bothV ms z with _ | _
    · exact absurd (null_none hb) h2
    · exact both_row hb
  have hq6 := (aug_ok (solv_sys h1)).fine.q6
  obtain ⟨p, hp, hr⟩ := hs.dot hq6 (by omega) (fun k => by have := hX k; omega) hz
  obtain ⟨q, hq, hr2⟩ := hs2.dot hq6 (by omega) hX2 hz
  refine ⟨p, q, by rw [e1]; exact hs.len, by rw [e2]; exact hs2.len, by rw [e1]; exact sol_fits h1, by rw [e2]; exact solved_fits (solv_sys h1) hs2 (by omega) hX2, by rw [e1]; exact hp, by rw [e2]; exact hq, fun e => ?_⟩
  subst e
  have hN := rep_inj hr hr2
  have e3 : sumN z.length (fun j => vec z j * (X j + vec (nullV ms z) j * D)) = sumN z.length (fun j => vec z j * X j) + sumN z.length (fun j => vec z j * vec (nullV ms z) j) * D := by
    rw [← sumN_mulR, ← sumN_add]
    exact sumN_congr fun j _ => by rw [Int.mul_add, Int.mul_assoc]
  rw [e3] at hN
  have h0 : sumN z.length (fun j => vec z j * vec (nullV ms z) j) * D = 0 := by omega
  have hDp := hs.pos
  rcases Int.mul_eq_zero.1 h0 with h3 | h3
  · exact hn.tells h3
  · omega
set_option maxRecDepth 20000 in
set_option maxHeartbeats 4000000 in
theorem lawSolved_small (W : World) (a : Option Addr) (len cap : Nat) (hl : len ≤ 1048576) (hc : CodeAt W W.heap.size a len) : Calls Try.prog 3 #[.slice a len cap] W (LawYes W) := by
  have HK := Lib.hid hc
  clear hc
  go_enter Try.func3, Try.ntmps3
  go_wp2_with (go_at_call 10; refine (big_no _ a len cap hl).mono ?_; rintro e w0 ⟨rfl, rfl⟩)
  go_at_call 11
  refine (drawVal_any _ a len cap hl HK.out).mono ?_
  rintro e w1 ⟨ms, a1, l1, c1, vs, b1, lb, cb, z, d1, lc, cc, hsm, hl13, hlb, hle, hcm, ⟨hn0, hn1⟩, hcc, hcx, rfl, hm1, hv1, hz1, hb⟩
  have HSM := Lib.hid hsm
  have HCM := Lib.hid hcm
  have HCX := Lib.hid hcx
  have HLZ := Lib.hid hz1.1
  have HM1 := Lib.hid hm1
  have HV1 := Lib.hid hv1
  have HZ1 := Lib.hid hz1
  have HB1 := Lib.hid hb
  have hlb9 : lb ≤ 1073741824 := by omega
  have hlc9 : lc ≤ 1073741824 := by omega
  have hlc0 : -9223372036854775808 ≤ (lc : Int) := by omega
  have hlc1 : (lc : Int) ≤ 9223372036854775807 := by omega
  clear hsm hcm hcx hm1 hv1 hz1 hb
  obtain ⟨r, hr⟩ : ∃ r, r = valR ms vs z := ⟨_, rfl⟩
  have HR := Lib.hid hr
  cases hsol : solvB ms vs (lc : Int)
  · have HY := Lib.hid hsol
    have hrn : r = none := hr.trans (valR_no1 (by rw [HLZ.out]; exact hsol))
    have HT : Hid (twoB ms vs z = false) := Lib.hid (two_no1 (by rw [HLZ.out]; exact hsol)).1
    subst hrn
    clear hsol hr
    go_wp2_with fail
    go_at_call 12
    refine (solP_any _ a1 l1 c1 ms b1 lb cb vs (lc : Int) HSM.out HM1.out hlb9 hle HCM.out HV1.out hlc0 hlc1).mono ?_
    rintro e w2 ⟨a2, l2, c2, he2, ho2, hb⟩
    rw [HY.out] at he2
    subst he2
    clear ho2
    have HM2 := Lib.hid (HM1.out.below hb)
    have HV2 := Lib.hid (HV1.out.below hb)
    have HZ2 := Lib.hid (HZ1.out.below hb)
    have HB2 := Lib.hid (below_up HB1.out hb (Nat.le_refl _))
    clear hb
    go_wp2_with fail
    go_at_call 13
    refine (specSol_any _ a1 l1 c1 ms b1 lb cb vs (lc : Int) HSM.out HM2.out hlb9 HV2.out hlc0 hlc1).mono ?_
    rintro e w3 ⟨a3, l3, c3, he3, ho3, hb⟩
    rw [HY.out] at he3
    subst he3
    clear ho3
    have HM3 := Lib.hid (HM2.out.below hb)
    have HV3 := Lib.hid (HV2.out.below hb)
    have HZ3 := Lib.hid (HZ2.out.below hb)
    have HB3 := Lib.hid (below_up HB2.out hb (Nat.le_refl _))
    clear hb
    go_wp2_with fail
    go_at_call 14
    refine (isSolv_any _ a1 l1 c1 ms b1 lb cb vs (lc : Int) HSM.out HM3.out hlb9 hle HCM.out HV3.out hlc0 hlc1).mono ?_
    rintro e w4 ⟨he4, hb⟩
    rw [HY.out] at he4
    subst he4
    have HM4 := Lib.hid (HM3.out.below hb)
    have HV4 := Lib.hid (HV3.out.below hb)
    have HZ4 := Lib.hid (HZ3.out.below hb)
    have HB4 := Lib.hid (below_up HB3.out hb (Nat.le_refl _))
    clear hb
    go_wp2_with fail
    go_at_call 16
    refine (valP_any _ a1 l1 c1 ms b1 lb cb vs d1 lc cc z HSM.out HM4.out hlb9 hle HCM.out HV4.out hlc9 hcc HCX.out HZ4.out none HR.out).mono ?_
    rintro e w5 ⟨he6, hb⟩
    have he6 : e = .returned (.tuple #[.agg #[.int .i64 0, .int .i64 0], .bool false]) := he6
    subst he6
    have HM5 := Lib.hid (HM4.out.below hb)
    have HV5 := Lib.hid (HV4.out.below hb)
    have HZ5 := Lib.hid (HZ4.out.below hb)
    have HB5 := Lib.hid (below_up HB4.out hb (Nat.le_refl _))
    clear hb
    go_wp2_with fail
    obtain ⟨w6, hV⟩ : ∃ V, V = w5.alloc (.cells #[.int .i64 0, .int .i64 0] 34) := ⟨_, rfl⟩
    have hb : Below w5.heap.size w5 w6 := by rw [hV]; exact (Below.refl _ _).alloc (Nat.le_refl _) _
    have HPV6 := Lib.hid (show PairAt w6 w5.heap.size 0 0 by rw [hV]; exact pair_new _ _ _ _)
    rw [← hV]
    clear hV
    have HM6 := Lib.hid (HM5.out.below hb)
    have HV6 := Lib.hid (HV5.out.below hb)
    have HZ6 := Lib.hid (HZ5.out.below hb)
    have HB6 := Lib.hid (below_up HB5.out hb (Nat.le_refl _))
    clear hb
    go_at_call 17
    refine (twoP_any _ a1 l1 c1 ms b1 lb cb vs d1 lc cc z HSM.out HM6.out hlb9 hle HCM.out HV6.out hlc9 hcc HCX.out HZ6.out).mono ?_
    rintro e w7 ⟨a7, l7, c7, a8, l8, c8, H7, he7, hh1, hh2, ho7, ho8, hb⟩
    rw [HT.out] at he7
    subst he7
    clear ho7 ho8 hh1 hh2
    have HM7 := Lib.hid (HM6.out.below hb)
    have HV7 := Lib.hid (HV6.out.below hb)
    have HZ7 := Lib.hid (HZ6.out.below hb)
    have HPV7 := Lib.hid (HPV6.out.below hb)
    have HB7 := Lib.hid (below_up HB6.out hb (Nat.le_refl _))
    clear hb
    go_wp2_with fail
    go_ret
    exact ⟨rfl, HB7.out⟩
  · have HY := Lib.hid hsol
    have HF := Lib.hid (sol_fits hsol)
    have hxl : (solL ms vs (lc : Int)).length = lc := solL_len hsol
    obtain ⟨xs, hxs⟩ : ∃ xs, xs = solL ms vs (lc : Int) := ⟨_, rfl⟩
    rw [← hxs] at HF hxl
    have HXS := Lib.hid hxs
    cases r with
    | some p =>
      obtain ⟨u, v⟩ := p
      obtain ⟨_, hin, hd⟩ := val_some hr.symm
      have HI := Lib.hid hin
      have HT : Hid (twoB ms vs z = false) := Lib.hid (val_two hin)
      have HD : Hid (some (u, v) = dotR z xs (min lc lc)) := Lib.hid (by rw [Nat.min_self, hxs, ← hd, HLZ.out])
      clear hsol hr hxs hin hd
      go_wp2_with fail
      go_at_call 12
      refine (solP_any _ a1 l1 c1 ms b1 lb cb vs (lc : Int) HSM.out HM1.out hlb9 hle HCM.out HV1.out hlc0 hlc1).mono ?_
      rintro e w2 ⟨a2, l2, c2, he2, ho2, hb⟩
      rw [HY.out] at he2
      subst he2
      rw [← HXS.out] at ho2
      have hl2 : lc = l2 := hxl.symm.trans ho2.1
      subst hl2
      have HX2 := Lib.hid ho2.sees
      clear ho2
      have HM2 := Lib.hid (HM1.out.below hb)
      have HV2 := Lib.hid (HV1.out.below hb)
      have HZ2 := Lib.hid (HZ1.out.below hb)
      have HB2 := Lib.hid (below_up HB1.out hb (Nat.le_refl _))
      clear hb
      go_wp2_with fail
      go_at_call 13
      refine (specSol_any _ a1 l1 c1 ms b1 lb cb vs (lc : Int) HSM.out HM2.out hlb9 HV2.out hlc0 hlc1).mono ?_
      rintro e w3 ⟨a3, l3, c3, he3, ho3, hb⟩
      rw [HY.out] at he3
      subst he3
      clear ho3
      have HM3 := Lib.hid (HM2.out.below hb)
      have HV3 := Lib.hid (HV2.out.below hb)
      have HZ3 := Lib.hid (HZ2.out.below hb)
      have HX3 := Lib.hid (HX2.out.below hb)
      have HB3 := Lib.hid (below_up HB2.out hb (Nat.le_refl _))
      clear hb
      go_wp2_with fail
      go_at_call 14
      refine (isSolv_any _ a1 l1 c1 ms b1 lb cb vs (lc : Int) HSM.out HM3.out hlb9 hle HCM.out HV3.out hlc0 hlc1).mono ?_
      rintro e w4 ⟨he4, hb⟩
      rw [HY.out] at he4
      subst he4
      have HM4 := Lib.hid (HM3.out.below hb)
      have HV4 := Lib.hid (HV3.out.below hb)
      have HZ4 := Lib.hid (HZ3.out.below hb)
      have HX4 := Lib.hid (HX3.out.below hb)
      have HB4 := Lib.hid (below_up HB3.out hb (Nat.le_refl _))
      clear hb
      go_wp2_with fail
      go_at_call 15
      refine (fitP_any _ a1 l1 c1 ms b1 lb cb vs a2 lc c2 xs HSM.out HM4.out hlb9 HV4.out hlc9 HX4.out).mono ?_
      rintro e w5 ⟨he5, hb⟩
      rw [HF.out] at he5
      subst he5
      have HM5 := Lib.hid (HM4.out.below hb)
      have HV5 := Lib.hid (HV4.out.below hb)
      have HZ5 := Lib.hid (HZ4.out.below hb)
      have HX5 := Lib.hid (HX4.out.below hb)
      have HB5 := Lib.hid (below_up HB4.out hb (Nat.le_refl _))
      clear hb
      go_wp2_with fail
      go_at_call 16
      refine (valP_any _ a1 l1 c1 ms b1 lb cb vs d1 lc cc z HSM.out HM5.out hlb9 hle HCM.out HV5.out hlc9 hcc HCX.out HZ5.out (some (u, v)) HR.out).mono ?_
      rintro e w6 ⟨he6, hb⟩
      have he6 : e = .returned (.tuple #[.agg #[.int .i64 u, .int .i64 v], .bool true]) := he6
      subst he6
      have HM6 := Lib.hid (HM5.out.below hb)
      have HV6 := Lib.hid (HV5.out.below hb)
      have HZ6 := Lib.hid (HZ5.out.below hb)
      have HX6 := Lib.hid (HX5.out.below hb)
      have HB6 := Lib.hid (below_up HB5.out hb (Nat.le_refl _))
      clear hb
      go_wp2_with fail
      obtain ⟨w7, hV⟩ : ∃ V, V = w6.alloc (.cells #[.int .i64 u, .int .i64 v] 34) := ⟨_, rfl⟩
      have hb : Below w6.heap.size w6 w7 := by rw [hV]; exact (Below.refl _ _).alloc (Nat.le_refl _) _
      have HPV7 := Lib.hid (show PairAt w7 w6.heap.size u v by rw [hV]; exact pair_new _ _ _ _)
      rw [← hV]
      clear hV
      have HM7 := Lib.hid (HM6.out.below hb)
      have HV7 := Lib.hid (HV6.out.below hb)
      have HZ7 := Lib.hid (HZ6.out.below hb)
      have HX7 := Lib.hid (HX6.out.below hb)
      have HB7 := Lib.hid (below_up HB6.out hb (Nat.le_refl _))
      clear hb
      go_at_call 17
      refine (twoP_any _ a1 l1 c1 ms b1 lb cb vs d1 lc cc z HSM.out HM7.out hlb9 hle HCM.out HV7.out hlc9 hcc HCX.out HZ7.out).mono ?_
      rintro e w8 ⟨a7, l7, c7, a8, l8, c8, H7, he7, hh1, hh2, ho7, ho8, hb⟩
      rw [HT.out] at he7
      subst he7
      clear ho7 ho8 hh1 hh2
      have HM8 := Lib.hid (HM7.out.below hb)
      have HV8 := Lib.hid (HV7.out.below hb)
      have HZ8 := Lib.hid (HZ7.out.below hb)
      have HX8 := Lib.hid (HX7.out.below hb)
      have HPV8 := Lib.hid (HPV7.out.below hb)
      have HB8 := Lib.hid (below_up HB7.out hb (Nat.le_refl _))
      clear hb
      go_wp2_with fail
      go_at_call 18
      refine (span_any _ a1 l1 c1 ms d1 lc cc z HSM.out HM8.out hlc9 hcc HCX.out HZ8.out).mono ?_
      rintro e w9 ⟨he8, hb⟩
      rw [HI.out] at he8
      subst he8
      have HM9 := Lib.hid (HM8.out.below hb)
      have HV9 := Lib.hid (HV8.out.below hb)
      have HZ9 := Lib.hid (HZ8.out.below hb)
      have HX9 := Lib.hid (HX8.out.below hb)
      have HPV9 := Lib.hid (HPV8.out.below hb)
      have HB9 := Lib.hid (below_up HB8.out hb (Nat.le_refl _))
      clear hb
      go_wp2_with fail
      go_at_call 19
      refine (rowSum_any _ d1 lc cc z a2 lc c2 xs hlc9 hlc9 HZ9.out HX9.out (some (u, v)) HD.out).mono ?_
      rintro e w10 ⟨he9, hb⟩
      have he9 : e = .returned (.tuple #[.agg #[.int .i64 u, .int .i64 v], .bool true]) := he9
      subst he9
      have HM10 := Lib.hid (HM9.out.below hb)
      have HV10 := Lib.hid (HV9.out.below hb)
      have HZ10 := Lib.hid (HZ9.out.below hb)
      have HX10 := Lib.hid (HX9.out.below hb)
      have HPV10 := Lib.hid (HPV9.out.below hb)
      have HB10 := Lib.hid (below_up HB9.out hb (Nat.le_refl _))
      clear hb
      have kc0 := (HPV10.out.alloc (.cells #[.int .i64 u, .int .i64 v] 34)).c0
      have kc1 := (HPV10.out.alloc (.cells #[.int .i64 u, .int .i64 v] 34)).c1
      go_wp2_with fail
      go_ret
      exact ⟨rfl, HB10.out.alloc HB10.out.size _⟩
    | none =>
      cases htw : twoB ms vs z
      · have HT := Lib.hid htw
        clear hsol hr hxs htw
        go_wp2_with fail
        go_at_call 12
        refine (solP_any _ a1 l1 c1 ms b1 lb cb vs (lc : Int) HSM.out HM1.out hlb9 hle HCM.out HV1.out hlc0 hlc1).mono ?_
        rintro e w2 ⟨a2, l2, c2, he2, ho2, hb⟩
        rw [HY.out] at he2
        subst he2
        rw [← HXS.out] at ho2
        have hl2 : lc = l2 := hxl.symm.trans ho2.1
        subst hl2
        have HX2 := Lib.hid ho2.sees
        clear ho2
        have HM2 := Lib.hid (HM1.out.below hb)
        have HV2 := Lib.hid (HV1.out.below hb)
        have HZ2 := Lib.hid (HZ1.out.below hb)
        have HB2 := Lib.hid (below_up HB1.out hb (Nat.le_refl _))
        clear hb
        go_wp2_with fail
        go_at_call 13
        refine (specSol_any _ a1 l1 c1 ms b1 lb cb vs (lc : Int) HSM.out HM2.out hlb9 HV2.out hlc0 hlc1).mono ?_
        rintro e w3 ⟨a3, l3, c3, he3, ho3, hb⟩
        rw [HY.out] at he3
        subst he3
        clear ho3
        have HM3 := Lib.hid (HM2.out.below hb)
        have HV3 := Lib.hid (HV2.out.below hb)
        have HZ3 := Lib.hid (HZ2.out.below hb)
        have HX3 := Lib.hid (HX2.out.below hb)
        have HB3 := Lib.hid (below_up HB2.out hb (Nat.le_refl _))
        clear hb
        go_wp2_with fail
        go_at_call 14
        refine (isSolv_any _ a1 l1 c1 ms b1 lb cb vs (lc : Int) HSM.out HM3.out hlb9 hle HCM.out HV3.out hlc0 hlc1).mono ?_
        rintro e w4 ⟨he4, hb⟩
        rw [HY.out] at he4
        subst he4
        have HM4 := Lib.hid (HM3.out.below hb)
        have HV4 := Lib.hid (HV3.out.below hb)
        have HZ4 := Lib.hid (HZ3.out.below hb)
        have HX4 := Lib.hid (HX3.out.below hb)
        have HB4 := Lib.hid (below_up HB3.out hb (Nat.le_refl _))
        clear hb
        go_wp2_with fail
        go_at_call 15
        refine (fitP_any _ a1 l1 c1 ms b1 lb cb vs a2 lc c2 xs HSM.out HM4.out hlb9 HV4.out hlc9 HX4.out).mono ?_
        rintro e w5 ⟨he5, hb⟩
        rw [HF.out] at he5
        subst he5
        have HM5 := Lib.hid (HM4.out.below hb)
        have HV5 := Lib.hid (HV4.out.below hb)
        have HZ5 := Lib.hid (HZ4.out.below hb)
        have HX5 := Lib.hid (HX4.out.below hb)
        have HB5 := Lib.hid (below_up HB4.out hb (Nat.le_refl _))
        clear hb
        go_wp2_with fail
        go_at_call 16
        refine (valP_any _ a1 l1 c1 ms b1 lb cb vs d1 lc cc z HSM.out HM5.out hlb9 hle HCM.out HV5.out hlc9 hcc HCX.out HZ5.out none HR.out).mono ?_
        rintro e w6 ⟨he6, hb⟩
        have he6 : e = .returned (.tuple #[.agg #[.int .i64 0, .int .i64 0], .bool false]) := he6
        subst he6
        have HM6 := Lib.hid (HM5.out.below hb)
        have HV6 := Lib.hid (HV5.out.below hb)
        have HZ6 := Lib.hid (HZ5.out.below hb)
        have HX6 := Lib.hid (HX5.out.below hb)
        have HB6 := Lib.hid (below_up HB5.out hb (Nat.le_refl _))
        clear hb
        go_wp2_with fail
        obtain ⟨w7, hV⟩ : ∃ V, V = w6.alloc (.cells #[.int .i64 0, .int .i64 0] 34) := ⟨_, rfl⟩
        have hb : Below w6.heap.size w6 w7 := by rw [hV]; exact (Below.refl _ _).alloc (Nat.le_refl _) _
        have HPV7 := Lib.hid (show PairAt w7 w6.heap.size 0 0 by rw [hV]; exact pair_new _ _ _ _)
        rw [← hV]
        clear hV
        have HM7 := Lib.hid (HM6.out.below hb)
        have HV7 := Lib.hid (HV6.out.below hb)
        have HZ7 := Lib.hid (HZ6.out.below hb)
        have HX7 := Lib.hid (HX6.out.below hb)
        have HB7 := Lib.hid (below_up HB6.out hb (Nat.le_refl _))
        clear hb
        go_at_call 17
        refine (twoP_any _ a1 l1 c1 ms b1 lb cb vs d1 lc cc z HSM.out HM7.out hlb9 hle HCM.out HV7.out hlc9 hcc HCX.out HZ7.out).mono ?_
        rintro e w8 ⟨a7, l7, c7, a8, l8, c8, H7, he7, hh1, hh2, ho7, ho8, hb⟩
        rw [HT.out] at he7
        subst he7
        clear ho7 ho8 hh1 hh2
        have HM8 := Lib.hid (HM7.out.below hb)
        have HV8 := Lib.hid (HV7.out.below hb)
        have HZ8 := Lib.hid (HZ7.out.below hb)
        have HX8 := Lib.hid (HX7.out.below hb)
        have HPV8 := Lib.hid (HPV7.out.below hb)
        have HB8 := Lib.hid (below_up HB7.out hb (Nat.le_refl _))
        clear hb
        go_wp2_with fail
        go_ret
        exact ⟨rfl, HB8.out⟩
      · have HT := Lib.hid htw
        obtain ⟨⟨p0, p1⟩, ⟨q0, q1⟩, hti⟩ := two_is htw
        have HTI := Lib.hid hti
        have HD1 : Hid (some (p0, p1) = dotR z (twoX ms vs z) (min lc lc)) := Lib.hid (by rw [Nat.min_self, ← HLZ.out]; exact hti.dot.symm)
        have HD2 : Hid (some (q0, q1) = dotR z (twoY ms vs z) (min lc lc)) := Lib.hid (by rw [Nat.min_self, ← HLZ.out]; exact hti.dot2.symm)
        clear hsol hr hxs htw hti
        go_wp2_with fail
        go_at_call 12
        refine (solP_any _ a1 l1 c1 ms b1 lb cb vs (lc : Int) HSM.out HM1.out hlb9 hle HCM.out HV1.out hlc0 hlc1).mono ?_
        rintro e w2 ⟨a2, l2, c2, he2, ho2, hb⟩
        rw [HY.out] at he2
        subst he2
        rw [← HXS.out] at ho2
        have hl2 : lc = l2 := hxl.symm.trans ho2.1
        subst hl2
        have HX2 := Lib.hid ho2.sees
        clear ho2
        have HM2 := Lib.hid (HM1.out.below hb)
        have HV2 := Lib.hid (HV1.out.below hb)
        have HZ2 := Lib.hid (HZ1.out.below hb)
        have HB2 := Lib.hid (below_up HB1.out hb (Nat.le_refl _))
        clear hb
        go_wp2_with fail
        go_at_call 13
        refine (specSol_any _ a1 l1 c1 ms b1 lb cb vs (lc : Int) HSM.out HM2.out hlb9 HV2.out hlc0 hlc1).mono ?_
        rintro e w3 ⟨a3, l3, c3, he3, ho3, hb⟩
        rw [HY.out] at he3
        subst he3
        clear ho3
        have HM3 := Lib.hid (HM2.out.below hb)
        have HV3 := Lib.hid (HV2.out.below hb)
        have HZ3 := Lib.hid (HZ2.out.below hb)
        have HX3 := Lib.hid (HX2.out.below hb)
        have HB3 := Lib.hid (below_up HB2.out hb (Nat.le_refl _))
        clear hb
        go_wp2_with fail
        go_at_call 14
        refine (isSolv_any _ a1 l1 c1 ms b1 lb cb vs (lc : Int) HSM.out HM3.out hlb9 hle HCM.out HV3.out hlc0 hlc1).mono ?_
        rintro e w4 ⟨he4, hb⟩
        rw [HY.out] at he4
        subst he4
        have HM4 := Lib.hid (HM3.out.below hb)
        have HV4 := Lib.hid (HV3.out.below hb)
        have HZ4 := Lib.hid (HZ3.out.below hb)
        have HX4 := Lib.hid (HX3.out.below hb)
        have HB4 := Lib.hid (below_up HB3.out hb (Nat.le_refl _))
        clear hb
        go_wp2_with fail
        go_at_call 15
        refine (fitP_any _ a1 l1 c1 ms b1 lb cb vs a2 lc c2 xs HSM.out HM4.out hlb9 HV4.out hlc9 HX4.out).mono ?_
        rintro e w5 ⟨he5, hb⟩
        rw [HF.out] at he5
        subst he5
        have HM5 := Lib.hid (HM4.out.below hb)
        have HV5 := Lib.hid (HV4.out.below hb)
        have HZ5 := Lib.hid (HZ4.out.below hb)
        have HX5 := Lib.hid (HX4.out.below hb)
        have HB5 := Lib.hid (below_up HB4.out hb (Nat.le_refl _))
        clear hb
        go_wp2_with fail
        go_at_call 16
        refine (valP_any _ a1 l1 c1 ms b1 lb cb vs d1 lc cc z HSM.out HM5.out hlb9 hle HCM.out HV5.out hlc9 hcc HCX.out HZ5.out none HR.out).mono ?_
        rintro e w6 ⟨he6, hb⟩
        have he6 : e = .returned (.tuple #[.agg #[.int .i64 0, .int .i64 0], .bool false]) := he6
        subst he6
        have HM6 := Lib.hid (HM5.out.below hb)
        have HV6 := Lib.hid (HV5.out.below hb)
        have HZ6 := Lib.hid (HZ5.out.below hb)
        have HX6 := Lib.hid (HX5.out.below hb)
        have HB6 := Lib.hid (below_up HB5.out hb (Nat.le_refl _))
        clear hb
        go_wp2_with fail
        obtain ⟨w7, hV⟩ : ∃ V, V = w6.alloc (.cells #[.int .i64 0, .int .i64 0] 34) := ⟨_, rfl⟩
        have hb : Below w6.heap.size w6 w7 := by rw [hV]; exact (Below.refl _ _).alloc (Nat.le_refl _) _
        have HPV7 := Lib.hid (show PairAt w7 w6.heap.size 0 0 by rw [hV]; exact pair_new _ _ _ _)
        rw [← hV]
        clear hV
        have HM7 := Lib.hid (HM6.out.below hb)
        have HV7 := Lib.hid (HV6.out.below hb)
        have HZ7 := Lib.hid (HZ6.out.below hb)
        have HX7 := Lib.hid (HX6.out.below hb)
        have HB7 := Lib.hid (below_up HB6.out hb (Nat.le_refl _))
        clear hb
        go_at_call 17
        refine (twoP_any _ a1 l1 c1 ms b1 lb cb vs d1 lc cc z HSM.out HM7.out hlb9 hle HCM.out HV7.out hlc9 hcc HCX.out HZ7.out).mono ?_
        rintro e w8 ⟨a7, l7, c7, a8, l8, c8, H7, he7, hh1, hh2, ho7, ho8, hb⟩
        rw [HT.out] at he7
        subst he7
        have hl7 : lc = l7 := (HTI.out.len.trans HLZ.out).symm.trans ho7.1
        subst hl7
        have hl8 : lc = l8 := (HTI.out.len2.trans HLZ.out).symm.trans ho8.1
        subst hl8
        have HP8 := Lib.hid ho7.sees
        have HQ8 := Lib.hid ho8.sees
        clear ho7 ho8 hh1 hh2
        have HM8 := Lib.hid (HM7.out.below hb)
        have HV8 := Lib.hid (HV7.out.below hb)
        have HZ8 := Lib.hid (HZ7.out.below hb)
        have HX8 := Lib.hid (HX7.out.below hb)
        have HPV8 := Lib.hid (HPV7.out.below hb)
        have HB8 := Lib.hid (below_up HB7.out hb (Nat.le_refl _))
        clear hb
        go_wp2_with fail
        go_at_call 19
        refine (rowSum_any _ d1 lc cc z a7 lc c7 (twoX ms vs z) hlc9 hlc9 HZ8.out HP8.out (some (p0, p1)) HD1.out).mono ?_
        rintro e w9 ⟨he9, hb⟩
        have he9 : e = .returned (.tuple #[.agg #[.int .i64 p0, .int .i64 p1], .bool true]) := he9
        subst he9
        have HM9 := Lib.hid (HM8.out.below hb)
        have HV9 := Lib.hid (HV8.out.below hb)
        have HZ9 := Lib.hid (HZ8.out.below hb)
        have HX9 := Lib.hid (HX8.out.below hb)
        have HPV9 := Lib.hid (HPV8.out.below hb)
        have HP9 := Lib.hid (HP8.out.below hb)
        have HQ9 := Lib.hid (HQ8.out.below hb)
        have HB9 := Lib.hid (below_up HB8.out hb (Nat.le_refl _))
        clear hb
        go_wp2_with fail
        obtain ⟨w10, hV⟩ : ∃ V, V = w9.alloc (.cells #[.int .i64 p0, .int .i64 p1] 34) := ⟨_, rfl⟩
        have hb : Below w9.heap.size w9 w10 := by rw [hV]; exact (Below.refl _ _).alloc (Nat.le_refl _) _
        have HS10 := Lib.hid (show PairAt w10 w9.heap.size p0 p1 by rw [hV]; exact pair_new _ _ _ _)
        rw [← hV]
        clear hV
        have HM10 := Lib.hid (HM9.out.below hb)
        have HV10 := Lib.hid (HV9.out.below hb)
        have HZ10 := Lib.hid (HZ9.out.below hb)
        have HX10 := Lib.hid (HX9.out.below hb)
        have HPV10 := Lib.hid (HPV9.out.below hb)
        have HP10 := Lib.hid (HP9.out.below hb)
        have HQ10 := Lib.hid (HQ9.out.below hb)
        have HB10 := Lib.hid (below_up HB9.out hb (Nat.le_refl _))
        clear hb
        go_at_call 19
        refine (rowSum_any _ d1 lc cc z a8 lc c8 (twoY ms vs z) hlc9 hlc9 HZ10.out HQ10.out (some (q0, q1)) HD2.out).mono ?_
        rintro e w11 ⟨he10, hb⟩
        have he10 : e = .returned (.tuple #[.agg #[.int .i64 q0, .int .i64 q1], .bool true]) := he10
        subst he10
        have HM11 := Lib.hid (HM10.out.below hb)
        have HV11 := Lib.hid (HV10.out.below hb)
        have HZ11 := Lib.hid (HZ10.out.below hb)
        have HX11 := Lib.hid (HX10.out.below hb)
        have HPV11 := Lib.hid (HPV10.out.below hb)
        have HP11 := Lib.hid (HP10.out.below hb)
        have HQ11 := Lib.hid (HQ10.out.below hb)
        have HS11 := Lib.hid (HS10.out.below hb)
        have HB11 := Lib.hid (below_up HB10.out hb (Nat.le_refl _))
        clear hb
        go_wp2_with fail
        obtain ⟨w12, hV⟩ : ∃ V, V = w11.alloc (.cells #[.int .i64 q0, .int .i64 q1] 34) := ⟨_, rfl⟩
        have hb : Below w11.heap.size w11 w12 := by rw [hV]; exact (Below.refl _ _).alloc (Nat.le_refl _) _
        have HT212 := Lib.hid (show PairAt w12 w11.heap.size q0 q1 by rw [hV]; exact pair_new _ _ _ _)
        rw [← hV]
        clear hV
        have HM12 := Lib.hid (HM11.out.below hb)
        have HV12 := Lib.hid (HV11.out.below hb)
        have HZ12 := Lib.hid (HZ11.out.below hb)
        have HX12 := Lib.hid (HX11.out.below hb)
        have HPV12 := Lib.hid (HPV11.out.below hb)
        have HP12 := Lib.hid (HP11.out.below hb)
        have HQ12 := Lib.hid (HQ11.out.below hb)
        have HS12 := Lib.hid (HS11.out.below hb)
        have HB12 := Lib.hid (below_up HB11.out hb (Nat.le_refl _))
        clear hb
        go_at_call 15
        refine (fitP_any _ a1 l1 c1 ms b1 lb cb vs a7 lc c7 (twoX ms vs z) HSM.out HM12.out hlb9 HV12.out hlc9 HP12.out).mono ?_
        rintro e w13 ⟨he11, hb⟩
        rw [HTI.out.fit] at he11
        subst he11
        have HM13 := Lib.hid (HM12.out.below hb)
        have HV13 := Lib.hid (HV12.out.below hb)
        have HZ13 := Lib.hid (HZ12.out.below hb)
        have HX13 := Lib.hid (HX12.out.below hb)
        have HPV13 := Lib.hid (HPV12.out.below hb)
        have HP13 := Lib.hid (HP12.out.below hb)
        have HQ13 := Lib.hid (HQ12.out.below hb)
        have HS13 := Lib.hid (HS12.out.below hb)
        have HT213 := Lib.hid (HT212.out.below hb)
        have HB13 := Lib.hid (below_up HB12.out hb (Nat.le_refl _))
        clear hb
        go_wp2_with fail
        go_at_call 15
        refine (fitP_any _ a1 l1 c1 ms b1 lb cb vs a8 lc c8 (twoY ms vs z) HSM.out HM13.out hlb9 HV13.out hlc9 HQ13.out).mono ?_
        rintro e w14 ⟨he12, hb⟩
        rw [HTI.out.fit2] at he12
        subst he12
        have HM14 := Lib.hid (HM13.out.below hb)
        have HV14 := Lib.hid (HV13.out.below hb)
        have HZ14 := Lib.hid (HZ13.out.below hb)
        have HX14 := Lib.hid (HX13.out.below hb)
        have HPV14 := Lib.hid (HPV13.out.below hb)
        have HP14 := Lib.hid (HP13.out.below hb)
        have HQ14 := Lib.hid (HQ13.out.below hb)
        have HS14 := Lib.hid (HS13.out.below hb)
        have HT214 := Lib.hid (HT213.out.below hb)
        have HB14 := Lib.hid (below_up HB13.out hb (Nat.le_refl _))
        clear hb
        have k0 := HS14.out.c0
        have k1 := HS14.out.c1
        have k2 := HT214.out.c0
        have k3 := HT214.out.c1
        rcases Classical.em (p0 = q0) with hpq | hpq
        · have hp1 : ¬ p1 = q1 := fun h => HTI.out.ne (by rw [hpq, h])
          subst hpq
          go_wp2_with fail
          go_ret
          exact ⟨rfl, HB14.out⟩
        · have hp0 : ¬ p0 = q0 := hpq
          go_wp2_with fail
          go_ret
          exact ⟨rfl, HB14.out⟩
theorem lawSolved_walk (a : Option Addr) (len cap : Nat) (z : List Int) (W : World) (w0 : IsRow .u8 W a len cap z) : Calls Try.prog 3 #[.slice a len cap] W (LawYes W) := by
  by_cases hl : len ≤ 1048576
  · exact lawSolved_small W a len cap hl (code_of w0)
  · clear w0
    go_enter Try.func3, Try.ntmps3
    go_wp2_with (go_at_call 10; refine (big_yes _ a len cap hl).mono ?_; rintro e w0 ⟨rfl, rfl⟩)
    go_ret
    exact ⟨rfl, Below.refl _ _⟩
end Go.Proofs.Ytgcgdgbogamlnaa
