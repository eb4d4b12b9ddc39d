/- Systems: the model's FitsSystem. -/
import Derived.Test.YtgcgdgbogamlnaaDotS
import Derived.Test.YtgcgdgbogamlnaaSysR
namespace Go.Proofs.Ytgcgdgbogamlnaa
open Go.RowKit
/-- Whether fractions solve a system. -/
def fitsB (ms : List (List Int)) (vs : List Int) (xs : List (Int × Int)) : Bool := isSys ms vs (xs.length : Int) && (xs.all (fun p => isR p.1 p.2) && (List.range ms.length).all fun i => decide (dotR (row ms i) xs xs.length = some (vec vs i, 1)))
theorem fits_no1 {ms : List (List Int)} {vs : List Int} {xs : List (Int × Int)} (h : isSys ms vs (xs.length : Int) = false) : fitsB ms vs xs = false := by unfold fitsB; rw [h]; rfl
theorem fits_no2 {ms : List (List Int)} {vs : List Int} {xs : List (Int × Int)} {k : Nat} (hk : k < xs.length) {c d : Int} (he : xs.getD k (0, 0) = (c, d)) (h : isR c d = false) : fitsB ms vs xs = false := by
  have : xs.all (fun p => isR p.1 p.2) = false := by
    cases hb : xs.all (fun p => isR p.1 p.2)
    · rfl
    · have h1 := List.all_eq_true.1 hb _ (getR_mem (l := xs) hk)
      rw [he] at h1
      simp only [h] at h1
      cases h1
  unfold fitsB
  rw [this, Bool.false_and, Bool.and_false]
theorem fits_no3 {ms : List (List Int)} {vs : List Int} {xs : List (Int × Int)} {i : Nat} (hi : i < ms.length) (h : dotR (row ms i) xs xs.length ≠ some (vec vs i, 1)) : fitsB ms vs xs = false := by
  have : ((List.range ms.length).all fun i => decide (dotR (row ms i) xs xs.length = some (vec vs i, 1))) = false := by
    cases hb : (List.range ms.length).all fun i => decide (dotR (row ms i) xs xs.length = some (vec vs i, 1))
    · rfl
    · exact absurd (of_decide_eq_true (List.all_eq_true.1 hb i (List.mem_range.2 hi))) h
  unfold fitsB
  rw [this, Bool.and_false, Bool.and_false]
theorem fits_yes {ms : List (List Int)} {vs : List Int} {xs : List (Int × Int)} (h1 : isSys ms vs (xs.length : Int) = true) (h2 : ∀ k, k < xs.length → isR (xs.getD k (0, 0)).1 (xs.getD k (0, 0)).2 = true) (h3 : ∀ i, i < ms.length → dotR (row ms i) xs xs.length = some (vec vs i, 1)) : fitsB ms vs xs = true := by
  unfold fitsB
  rw [h1, Bool.true_and, Bool.and_eq_true]
  refine ⟨List.all_eq_true.2 fun p hp => ?_, List.all_eq_true.2 fun i hi => decide_eq_true (h3 i (List.mem_range.1 hi))⟩
  obtain ⟨k, hk, rfl⟩ := List.mem_iff_getElem.1 hp
  have := h2 k hk
  simpa [List.getD, hk] using this
set_option maxRecDepth 20000 in
set_option maxHeartbeats 3200000 in
theorem specFits_any (W : World) (a : Option Addr) (lm cm : Nat) (ms : List (List Int)) (b : Option Addr) (lb cb : Nat) (vs : List Int) (c : Option Addr) (len cap : Nat) (xs : List (Int × Int)) (hsm : SmallM ms) (hs : SeesM W a lm ms) (hl : lb ≤ 1073741824) (hs2 : Sees .i64 W b lb vs) (hlc : len ≤ 1073741824) (hs3 : SeesR W c len xs) :
    Calls Try.prog 36 #[.slice a lm cm, .slice b lb cb, .slice c len cap] W fun e w' => e = .returned (.bool (fitsB ms vs xs)) ∧ Below W.heap.size W w' := by
  have HS := Lib.hid hs
  have HSM := Lib.hid hsm
  have HV := Lib.hid hs2
  have HX := Lib.hid hs3
  have HML := Lib.hid hs.1
  have HVL := Lib.hid hs2.1
  have HXL := Lib.hid hs3.1
  obtain ⟨v, hv⟩ : ∃ v, v = fitsB ms vs xs := ⟨_, rfl⟩
  rw [← hv]
  have HVV := Lib.hid hv
  clear hs hsm hs2 hs3 hv
  cases hsys : isSys ms vs (len : Int)
  · have HE : Hid (v = false) := Lib.hid (HVV.out.trans (fits_no1 (by rw [HXL.out]; exact hsys)))
    have HY := Lib.hid hsys
    clear hsys
    go_enter Try.func36, Try.ntmps36
    go_wp2_with (go_at_call 21; refine (specIsSys_any _ _ _ _ ms _ _ _ vs (len : Int) HSM.out HS.out hl HV.out (by omega) (by omega)).mono ?_; rw [HY.out]; rintro e w1 ⟨rfl, hb1⟩; have HB1 := Lib.hid hb1; clear hb1)
    go_ret
    exact ⟨ret_bool HE.out.symm, HB1.out⟩
  · have hok := aug_ok hsys
    have HOK := Lib.hid hok
    have HY := Lib.hid hsys
    have hlm : lm ≤ 12 := by have h := hok.fine.len; rw [augL_len, HML.out] at h; exact h
    have hlb : lb = lm := by rw [← HVL.out, ← HML.out]; exact hok.len
    subst hlb
    have hq6 : len ≤ 6 := hok.fine.q6
    have HSX := Lib.hid hsys
    clear hsys hok
    go_enter Try.func36, Try.ntmps36
    go_wp2_with (go_at_call 21; refine (specIsSys_any _ _ _ _ ms _ _ _ vs (len : Int) HSM.out HS.out hl HV.out (by omega) (by omega)).mono ?_; rw [HY.out]; rintro e w1 ⟨rfl, hb1⟩; have HB1 := Lib.hid hb1; clear hb1)
    go_loopw [7] (fun i wr => ∃ k : Nat, k ≤ len ∧ i = .int .i64 k ∧ Hid (∀ j, j < k → isR (xs.getD j (0, 0)).1 (xs.getD j (0, 0)).2 = true) ∧ Below W.heap.size W wr) (fun i _ => len - (intOf i).toNat)
    case atStart => exact ⟨0, Nat.zero_le _, rfl, Lib.hid (fun j hj => by omega), HB1.out⟩
    case round =>
      obtain ⟨k, hk, rfl, HA, hb⟩ := hrel
      have HB := Lib.hid hb
      by_cases hlt : k < len
      · rcases HX.out.2.2 with h0 | ⟨b2, o2, rfl, hb2, hc2⟩
        · omega
        · have hx0 := (hb.cell (p := ⟨b2, o2 + k * 2, none⟩) hb2).trans (hc2 k hlt).1
          have hx1 := (hb.cell (p := ⟨b2, o2 + k * 2 + 1, none⟩) hb2).trans (hc2 k hlt).2
          obtain ⟨s, t, hcd⟩ : ∃ s t, xs.getD k (0, 0) = (s, t) := ⟨_, _, rfl⟩
          rw [hcd] at hx0 hx1
          have HCD := Lib.hid hcd
          clear hc2 hcd hb
          cases hin : isR s t
          · have HE : Hid (v = false) := Lib.hid (HVV.out.trans (fits_no2 (k := k) (by rw [HXL.out]; exact hlt) HCD.out hin))
            have HIN := Lib.hid hin
            clear hin
            go_wp2_with (go_at_call 69; refine (specIsR_any s t _).mono ?_; rw [HIN.out]; rintro e w2 ⟨rfl, hb2'⟩; have HB2 := Lib.hid (below_up HB.out hb2' (Nat.le_refl _)); clear hb2')
            go_ret
            exact ⟨ret_bool HE.out.symm, HB2.out⟩
          · have HIN := Lib.hid hin
            clear hin
            go_wp2_with (go_at_call 69; refine (specIsR_any s t _).mono ?_; rw [HIN.out]; rintro e w2 ⟨rfl, hb2'⟩; have HB2 := Lib.hid (below_up HB.out hb2' (Nat.le_refl _)); clear hb2')
            go_roundw
            case rel => exact ⟨k + 1, by omega, by go_num, Lib.hid (fun j hj => by rcases Nat.lt_or_eq_of_le (Nat.lt_succ_iff.1 hj) with h | h; exact HA.out j h; subst h; rw [HCD.out]; exact HIN.out), HB2.out⟩
            case measure => simp [intOf]; omega
      · obtain rfl : k = len := by omega
        clear hb
        go_wp2_with fail
        go_loopw [8, 9, 10] (fun i _ _ wr => ∃ u : Nat, u ≤ lb ∧ i = .int .i64 u ∧ Hid (∀ j, j < u → dotR (row ms j) xs k = some (vec vs j, 1)) ∧ Below W.heap.size W wr) (fun i _ _ _ => lb - (intOf i).toNat)
        case atStart => exact ⟨0, Nat.zero_le _, rfl, Lib.hid (fun j hj => by omega), HB.out⟩
        case round =>
          obtain ⟨u, hu, rfl, HA2, hb⟩ := hrel
          have HB2 := Lib.hid hb
          by_cases hlt2 : u < lb
          · obtain ⟨bo, off, ar, cr, rfl, hbl, hc, _, _, hsr⟩ := HS.out.2 u hlt2
            have hcw := (hb.cell (p := ⟨bo, off + u, none⟩) hbl).trans hc
            have hum : u < ms.length := by rw [HML.out]; exact hlt2
            have hzl := HOK.out.wid u hum
            obtain ⟨z, hz⟩ : ∃ z, z = row ms u := ⟨_, rfl⟩
            rw [← hz] at hcw hsr hzl
            rw [hzl] at hcw hsr
            have HZ := Lib.hid hz
            have HSR := Lib.hid (hsr.below hb)
            have HXW := Lib.hid (HX.out.below hb)
            rcases HV.out.2.2 with h0 | ⟨b4, o4, rfl, hb4, hc4⟩
            · omega
            · have hcv := (hb.cell (p := ⟨b4, o4 + u, none⟩) hb4).trans (hc4 u hlt2)
              obtain ⟨p, hp⟩ : ∃ p, p = vs.getD u 0 := ⟨_, rfl⟩
              rw [← hp] at hcv
              have HPV : Hid (p = vec vs u) := Lib.hid hp
              have HCV := Lib.hid hcv
              have hb4r := Nat.lt_of_lt_of_le hb4 hb.size
              obtain ⟨r, hr⟩ : ∃ r, r = dotR z xs (min k k) := ⟨_, rfl⟩
              have HR := Lib.hid hr
              have HRK : Hid (dotR (row ms u) xs k = r) := Lib.hid (by rw [hr, Nat.min_self, hz])
              have hk9 : k ≤ 1073741824 := by omega
              have i0u : (0 : Int) ≤ (u : Int) := by omega
              have i1u : (u : Int) < (lb : Int) := by omega
              clear hc hsr hz hb hc4 hp hr hcv hzl
              cases r with
              | none =>
                have HE : Hid (v = false) := Lib.hid (HVV.out.trans (fits_no3 hum (by rw [HXL.out, HRK.out]; exact fun e => by cases e)))
                go_wp2_with (go_at_call 68; refine (specDot6_any _ _ _ _ z _ _ _ xs hk9 hk9 HSR.out HXW.out none HR.out).mono ?_; rintro e w4 ⟨rfl, hb4'⟩; have HB4 := Lib.hid (below_up HB2.out hb4' (Nat.le_refl _)); have hcv := (hb4'.cell (p := ⟨b4, o4 + u, none⟩) hb4r).trans HCV.out; clear hb4')
                go_quiet (fail)
                go_wp2
                go_ret
                exact ⟨ret_bool HE.out.symm, (HB4.out.alloc HB4.out.size _).trans (below_drewN0 _ _ _)⟩
              | some st =>
                obtain ⟨s, t⟩ := st
                by_cases he : s = p ∧ t = 1
                · obtain ⟨rfl, rfl⟩ := he
                  have HD : Hid (dotR (row ms u) xs k = some (vec vs u, 1)) := Lib.hid (by rw [HRK.out, HPV.out])
                  go_wp2_with (go_at_call 68; refine (specDot6_any _ _ _ _ z _ _ _ xs hk9 hk9 HSR.out HXW.out (some (s, 1)) HR.out).mono ?_; rintro e w4 ⟨he4, hb4'⟩; have he5 : e = .returned (.tuple #[.agg #[.int .i64 s, .int .i64 1], .bool true]) := he4; subst he5; have HB4 := Lib.hid (below_up HB2.out hb4' (Nat.le_refl _)); have hcv := (hb4'.cell (p := ⟨b4, o4 + u, none⟩) hb4r).trans HCV.out; clear hb4' he4)
                  obtain ⟨V, hV⟩ : ∃ V, V = w4.alloc (.cells #[.int .i64 s, .int .i64 1] 34) := ⟨_, rfl⟩
                  have HG5 : Hid (Below W.heap.size W V) := Lib.hid (by rw [hV]; exact HB4.out.alloc HB4.out.size _)
                  have HY5 : Hid (PairAt V w4.heap.size s 1) := Lib.hid (by rw [hV]; exact pair_new _ _ _ _)
                  have hcv5 : V.cell? ⟨b4, o4 + u, none⟩ = some (.int .i64 s) := by rw [hV]; exact (World.cell?_alloc_some _ _ _ (by rw [hcv]; rfl)).trans hcv
                  rw [← hV]
                  clear hV hcv
                  have y0 := HY5.out.c0
                  have y1 := HY5.out.c1
                  go_region_held3 (fun w' => w'.cell? ⟨w4.heap.size, 0, none⟩ = some (.int .i64 s) ∧ w'.cell? ⟨w4.heap.size, 1, none⟩ = some (.int .i64 1) ∧ w'.cell? ⟨b4, o4 + u, none⟩ = some (.int .i64 s)) (go_keep) (fail)
                  go_wp2
                  go_roundw
                  case rel => exact ⟨u + 1, by omega, by go_num, Lib.hid (fun j hj => by rcases Nat.lt_or_eq_of_le (Nat.lt_succ_iff.1 hj) with h | h; exact HA2.out j h; subst h; exact HD.out), HG5.out.drew⟩
                  case measure => simp [intOf]; omega
                · have HE : Hid (v = false) := Lib.hid (HVV.out.trans (fits_no3 hum (by rw [HXL.out, HRK.out, ← HPV.out]; intro e; simp only [Option.some.injEq, Prod.mk.injEq] at e; exact he e)))
                  rcases Classical.em (s = p) with rfl | hsp
                  · have hne : ¬ t = 1 := fun h2 => he ⟨rfl, h2⟩
                    clear he
                    go_wp2_with (go_at_call 68; refine (specDot6_any _ _ _ _ z _ _ _ xs hk9 hk9 HSR.out HXW.out (some (s, t)) HR.out).mono ?_; rintro e w4 ⟨he4, hb4'⟩; have he5 : e = .returned (.tuple #[.agg #[.int .i64 s, .int .i64 t], .bool true]) := he4; subst he5; have HB4 := Lib.hid (below_up HB2.out hb4' (Nat.le_refl _)); have hcv := (hb4'.cell (p := ⟨b4, o4 + u, none⟩) hb4r).trans HCV.out; clear hb4' he4)
                    obtain ⟨V, hV⟩ : ∃ V, V = w4.alloc (.cells #[.int .i64 s, .int .i64 t] 34) := ⟨_, rfl⟩
                    have HG5 : Hid (Below W.heap.size W V) := Lib.hid (by rw [hV]; exact HB4.out.alloc HB4.out.size _)
                    have HY5 : Hid (PairAt V w4.heap.size s t) := Lib.hid (by rw [hV]; exact pair_new _ _ _ _)
                    have hcv5 : V.cell? ⟨b4, o4 + u, none⟩ = some (.int .i64 s) := by rw [hV]; exact (World.cell?_alloc_some _ _ _ (by rw [hcv]; rfl)).trans hcv
                    rw [← hV]
                    clear hV hcv
                    have y0 := HY5.out.c0
                    have y1 := HY5.out.c1
                    go_region_held3 (fun w' => w'.cell? ⟨w4.heap.size, 0, none⟩ = some (.int .i64 s) ∧ w'.cell? ⟨w4.heap.size, 1, none⟩ = some (.int .i64 t) ∧ w'.cell? ⟨b4, o4 + u, none⟩ = some (.int .i64 s)) (go_keep) (fail)
                    go_wp2
                    go_ret
                    exact ⟨ret_bool HE.out.symm, HG5.out.drew⟩
                  · clear he
                    go_wp2_with (go_at_call 68; refine (specDot6_any _ _ _ _ z _ _ _ xs hk9 hk9 HSR.out HXW.out (some (s, t)) HR.out).mono ?_; rintro e w4 ⟨he4, hb4'⟩; have he5 : e = .returned (.tuple #[.agg #[.int .i64 s, .int .i64 t], .bool true]) := he4; subst he5; have HB4 := Lib.hid (below_up HB2.out hb4' (Nat.le_refl _)); have hcv := (hb4'.cell (p := ⟨b4, o4 + u, none⟩) hb4r).trans HCV.out; clear hb4' he4)
                    obtain ⟨V, hV⟩ : ∃ V, V = w4.alloc (.cells #[.int .i64 s, .int .i64 t] 34) := ⟨_, rfl⟩
                    have HG5 : Hid (Below W.heap.size W V) := Lib.hid (by rw [hV]; exact HB4.out.alloc HB4.out.size _)
                    have HY5 : Hid (PairAt V w4.heap.size s t) := Lib.hid (by rw [hV]; exact pair_new _ _ _ _)
                    have hcv5 : V.cell? ⟨b4, o4 + u, none⟩ = some (.int .i64 p) := by rw [hV]; exact (World.cell?_alloc_some _ _ _ (by rw [hcv]; rfl)).trans hcv
                    rw [← hV]
                    clear hV hcv
                    have y0 := HY5.out.c0
                    have y1 := HY5.out.c1
                    go_region_held3 (fun w' => w'.cell? ⟨w4.heap.size, 0, none⟩ = some (.int .i64 s) ∧ w'.cell? ⟨w4.heap.size, 1, none⟩ = some (.int .i64 t) ∧ w'.cell? ⟨b4, o4 + u, none⟩ = some (.int .i64 p)) (go_keep) (fail)
                    go_wp2
                    go_ret
                    exact ⟨ret_bool HE.out.symm, HG5.out.drew⟩
          · obtain rfl : u = lb := by omega
            have HE : Hid (v = true) := Lib.hid (HVV.out.trans (fits_yes (by rw [HXL.out]; exact HY.out) (fun j hj => HA.out j (by rw [HXL.out] at hj; exact hj)) (fun j hj => by rw [HXL.out]; exact HA2.out j (by rw [HML.out] at hj; exact hj))))
            clear hb
            go_wp2
            go_ret
            exact ⟨ret_bool HE.out.symm, HB2.out⟩
end Go.Proofs.Ytgcgdgbogamlnaa
/- Systems: the program's FitsSystem. -/
namespace Go.Proofs.Ytgcgdgbogamlnaa
open Go.RowKit
theorem noRat_any (c d : Int) (W : World) (hc : IsI64 c) (hd : IsI64 d) : Calls Try.prog 54 #[.agg #[.int .i64 c, .int .i64 d]] W fun e w' => e = .returned (.bool (!isR c d)) ∧ Below W.heap.size W w' := by
  have HC := Lib.hid hc
  have HD := Lib.hid hd
  obtain ⟨v, hv⟩ : ∃ v, v = isR c d := ⟨_, rfl⟩
  rw [← hv]
  have HV := Lib.hid hv
  clear hc hd hv
  go_enter Try.func54, Try.ntmps54
  go_wp2_with (go_at_call 91; refine (isRat_any c d _ HC.out HD.out).mono ?_; rw [← HV.out]; rintro e w1 ⟨rfl, hb1⟩; have HB1 := Lib.hid (below_up ((Below.refl W.heap.size W).alloc (Nat.le_refl _) _) hb1 (Nat.le_refl _)); clear hb1)
  go_ret
  exact ⟨rfl, HB1.out⟩
/-- The first place where no valid fraction stands, or -1. -/
def idxN (xs : List (Int × Int)) : Int := if findA (fun j => if isR (xs.getD j (0, 0)).1 (xs.getD j (0, 0)).2 = true then 0 else 1) xs.length 0 = xs.length then -1 else (findA (fun j => if isR (xs.getD j (0, 0)).1 (xs.getD j (0, 0)).2 = true then 0 else 1) xs.length 0 : Nat)
theorem idxN_none {xs : List (Int × Int)} (h : ∀ j, j < xs.length → isR (xs.getD j (0, 0)).1 (xs.getD j (0, 0)).2 = true) : idxN xs = -1 := by
  unfold idxN
  rw [if_pos]
  exact findA_eq (Nat.zero_le _) (by omega) (fun i _ hi => by simp only [h i hi]; rfl) (.inl (by omega))
theorem idxN_at {xs : List (Int × Int)} {k : Nat} (hk : k < xs.length) (h : ∀ j, j < k → isR (xs.getD j (0, 0)).1 (xs.getD j (0, 0)).2 = true) (h1 : isR (xs.getD k (0, 0)).1 (xs.getD k (0, 0)).2 = false) : idxN xs = (k : Int) := by
  have e : findA (fun j => if isR (xs.getD j (0, 0)).1 (xs.getD j (0, 0)).2 = true then (0 : Int) else 1) xs.length 0 = k := findA_eq (Nat.zero_le _) (by omega) (fun i _ hi => by simp only [h i hi]; rfl) (.inr (by simp only [h1]; decide))
  unfold idxN
  rw [e, if_neg (by omega)]
theorem idxN_has (xs : List (Int × Int)) : decide (0 ≤ idxN xs) = !xs.all (fun p => isR p.1 p.2) := by
  rcases Classical.em (∃ k, k < xs.length ∧ isR (xs.getD k (0, 0)).1 (xs.getD k (0, 0)).2 = false) with ⟨k, hk, h⟩ | hn
  · have h1 : xs.all (fun p => isR p.1 p.2) = false := by
      cases hb : xs.all (fun p => isR p.1 p.2)
      · rfl
      · have h2 := List.all_eq_true.1 hb _ (getR_mem (l := xs) hk)
        simp only [h] at h2
        cases h2
    rw [h1]
    have hs := findA_spec (fun j => if isR (xs.getD j (0, 0)).1 (xs.getD j (0, 0)).2 = true then (0 : Int) else 1) xs.length 0
    unfold idxN
    rw [if_neg]
    · simp
    · intro e
      have := hs.2.2.1 k (Nat.zero_le _) (by omega)
      simp only [h] at this
      exact absurd this (by decide)
  · have h0 : ∀ j, j < xs.length → isR (xs.getD j (0, 0)).1 (xs.getD j (0, 0)).2 = true := fun j hj => by
      cases h1 : isR (xs.getD j (0, 0)).1 (xs.getD j (0, 0)).2
      · exact absurd ⟨j, hj, h1⟩ hn
      · rfl
    rw [idxN_none h0]
    have h1 : xs.all (fun p => isR p.1 p.2) = true := List.all_eq_true.2 fun p hp => by
      obtain ⟨k, hk, rfl⟩ := List.mem_iff_getElem.1 hp
      have := h0 k hk
      simpa [List.getD, hk] using this
    rw [h1]
    rfl
set_option maxRecDepth 20000 in
set_option maxHeartbeats 1600000 in
theorem idxNoRat_any (W : World) (a : Option Addr) (len cap : Nat) (xs : List (Int × Int)) (hl : len ≤ 1073741824) (hs : SeesR W a len xs) :
    Calls Try.prog 90 #[.slice a len cap, .func (.func 54) #[] #[]] W fun e w' => e = .returned (.int .i64 (idxN xs)) ∧ Below W.heap.size W w' := by
  have HS := Lib.hid hs
  have HL := Lib.hid hs.1
  clear hs
  obtain ⟨v, hv⟩ : ∃ v : Int, v = idxN xs := ⟨_, rfl⟩
  rw [← hv]
  have HV := Lib.hid hv
  clear hv
  go_enter Try.func90, Try.ntmps90
  go_wp2
  go_loopw [8, 5] (fun i _ wr => ∃ k : Nat, k ≤ len ∧ i = .int .i64 k ∧ Hid (∀ j, j < k → isR (xs.getD j (0, 0)).1 (xs.getD j (0, 0)).2 = true) ∧ Below W.heap.size W wr) (fun i _ _ => len - (intOf i).toNat)
  case atStart => exact ⟨0, Nat.zero_le _, rfl, Lib.hid (fun j hj => by omega), Below.refl _ _⟩
  case round =>
    obtain ⟨k, hk, rfl, HA, hb⟩ := hrel
    have HB := Lib.hid hb
    by_cases hlt : k < len
    · rcases HS.out.2.2 with h0 | ⟨b2, o2, rfl, hb2, hc2⟩
      · omega
      · have hx0 := (hb.cell (p := ⟨b2, o2 + k * 2, none⟩) hb2).trans (hc2 k hlt).1
        have hx1 := (hb.cell (p := ⟨b2, o2 + k * 2 + 1, none⟩) hb2).trans (hc2 k hlt).2
        have hfit := HS.out.2.1 _ (getR_mem (l := xs) (j := k) (by rw [HL.out]; exact hlt))
        obtain ⟨s, t, hcd⟩ : ∃ s t, xs.getD k (0, 0) = (s, t) := ⟨_, _, rfl⟩
        rw [hcd] at hx0 hx1 hfit
        have HI := Lib.hid (show IsI64 s ∧ IsI64 t from ⟨bounds_i64 hfit.1, bounds_i64 hfit.2⟩)
        have HCD := Lib.hid hcd
        clear hc2 hcd hb hfit
        cases hin : isR s t
        · have HE : Hid (v = k) := Lib.hid (by rw [HV.out]; exact idxN_at (by rw [HL.out]; exact hlt) HA.out (by rw [HCD.out]; exact hin))
          have HIN := Lib.hid hin
          clear hin
          go_wp2_with (go_at_call 54; refine (noRat_any s t _ HI.out.1 HI.out.2).mono ?_; rw [HIN.out]; rintro e w2 ⟨rfl, hb2'⟩; have HB2 := Lib.hid (below_up HB.out hb2' (Nat.le_refl _)); clear hb2')
          go_ret
          exact ⟨ret_intV HE.out.symm, HB2.out⟩
        · have HIN := Lib.hid hin
          clear hin
          go_wp2_with (go_at_call 54; refine (noRat_any s t _ HI.out.1 HI.out.2).mono ?_; rw [HIN.out]; rintro e w2 ⟨rfl, hb2'⟩; have HB2 := Lib.hid (below_up HB.out hb2' (Nat.le_refl _)); clear hb2')
          go_roundw
          case rel => exact ⟨k + 1, by omega, by go_num, Lib.hid (fun j hj => by rcases Nat.lt_or_eq_of_le (Nat.lt_succ_iff.1 hj) with h | h; exact HA.out j h; subst h; rw [HCD.out]; exact HIN.out), HB2.out⟩
          case measure => simp [intOf]; omega
    · obtain rfl : k = len := by omega
      have HE : Hid (v = -1) := Lib.hid (by rw [HV.out]; exact idxN_none (fun j hj => HA.out j (by rw [HL.out] at hj; exact hj)))
      clear hb
      go_wp2
      go_ret
      exact ⟨ret_intV HE.out.symm, HB.out⟩
theorem hasNoRat_any (W : World) (a : Option Addr) (len cap : Nat) (xs : List (Int × Int)) (hl : len ≤ 1073741824) (hs : SeesR W a len xs) :
    Calls Try.prog 53 #[.slice a len cap, .func (.func 54) #[] #[]] W fun e w' => e = .returned (.bool (!xs.all fun p => isR p.1 p.2)) ∧ Below W.heap.size W w' := by
  have HS := Lib.hid hs
  clear hs
  rw [← idxN_has]
  obtain ⟨v, hv⟩ : ∃ v : Int, idxN xs = v := ⟨_, rfl⟩
  have HV := Lib.hid hv
  rw [hv]
  clear hv
  go_enter Try.func53, Try.ntmps53
  go_wp2_with (go_at_call 90; refine (idxNoRat_any _ _ _ _ xs hl HS.out).mono ?_; rw [HV.out]; rintro e w1 ⟨rfl, hb1⟩; have HB1 := Lib.hid hb1; clear hb1)
  go_ret
  exact ⟨rfl, HB1.out⟩
set_option maxRecDepth 20000 in
set_option maxHeartbeats 3200000 in
theorem fitP_any (W : World) (a : Option Addr) (lm cm : Nat) (ms : List (List Int)) (b : Option Addr) (lb cb : Nat) (vs : List Int) (c : Option Addr) (len cap : Nat) (xs : List (Int × Int)) (hsm : SmallM ms) (hs : SeesM W a lm ms) (hl : lb ≤ 1073741824) (hs2 : Sees .i64 W b lb vs) (hlc : len ≤ 1073741824) (hs3 : SeesR W c len xs) :
    Calls Try.prog 15 #[.slice a lm cm, .slice b lb cb, .slice c len cap] W fun e w' => e = .returned (.bool (fitsB ms vs xs)) ∧ Below W.heap.size W w' := by
  obtain ⟨W1, hW1⟩ : ∃ W1, W1 = W.alloc (.cells #[.slice a lm cm, .int .i64 (len : Int), .slice b lb cb] 66) := ⟨_, rfl⟩
  have HB0 : Hid (Below W.heap.size W W1) := Lib.hid (by rw [hW1]; exact (Below.refl _ _).alloc (Nat.le_refl _) _)
  have hz1 : W1.heap.size = W.heap.size + 1 := by rw [hW1, World.size_alloc]
  have c0 : W1.cell? ⟨W.heap.size, 0, none⟩ = some (.slice a lm cm) := by rw [hW1]; go_simp
  have c1 : W1.cell? ⟨W.heap.size, 1, none⟩ = some (.int .i64 (len : Int)) := by rw [hW1]; go_simp
  have c2 : W1.cell? ⟨W.heap.size, 2, none⟩ = some (.slice b lb cb) := by rw [hW1]; go_simp
  have HC0 := Lib.hid c0
  have HC2 := Lib.hid c2
  have hbs : W.heap.size < W1.heap.size := by omega
  have HS := Lib.hid (hs.below HB0.out)
  have HSM := Lib.hid hsm
  have HV := Lib.hid (hs2.below HB0.out)
  have HX := Lib.hid (hs3.below HB0.out)
  have HML := Lib.hid hs.1
  have HVL := Lib.hid hs2.1
  have HXL := Lib.hid hs3.1
  obtain ⟨v, hv⟩ : ∃ v, v = fitsB ms vs xs := ⟨_, rfl⟩
  rw [← hv]
  have HVV := Lib.hid hv
  clear hs hsm hs2 hs3 hv
  cases hsys : isSys ms vs (len : Int)
  · have HE : Hid (v = false) := Lib.hid (HVV.out.trans (fits_no1 (by rw [HXL.out]; exact hsys)))
    have HY := Lib.hid hsys
    clear hsys
    go_enter Try.func15, Try.ntmps15
    go_wp2_with fail
    rw [← hW1]
    clear hW1
    go_wp2_with (go_at_call 52; refine (isValid_any _ _ _ _ ms _ _ _ vs (len : Int) HSM.out HS.out hl HV.out (by omega) (by omega)).mono ?_; rw [HY.out]; rintro e w2 ⟨rfl, hb2⟩; have HB2 := Lib.hid (below_up HB0.out hb2 (Nat.le_refl _)); clear hb2)
    go_ret
    exact ⟨ret_bool HE.out.symm, HB2.out⟩
  · have hok := aug_ok hsys
    have HOK := Lib.hid hok
    have HY := Lib.hid hsys
    have hlm : lm ≤ 12 := by have h := hok.fine.len; rw [augL_len, HML.out] at h; exact h
    have hlb : lb = lm := by rw [← HVL.out, ← HML.out]; exact hok.len
    have hq6 : len ≤ 6 := hok.fine.q6
    subst hlb
    cases hall : xs.all (fun p => isR p.1 p.2)
    · have HN : Hid ((!xs.all (fun p => isR p.1 p.2)) = true) := Lib.hid (by rw [hall]; rfl)
      have HE : Hid (v = false) := Lib.hid (by rw [HVV.out]; unfold fitsB; rw [hall, Bool.false_and, Bool.and_false])
      clear hsys hok hall
      go_enter Try.func15, Try.ntmps15
      go_wp2_with fail
      rw [← hW1]
      clear hW1
      go_wp2_with (first
        | (go_at_call 52; refine (isValid_any _ _ _ _ ms _ _ _ vs (len : Int) HSM.out HS.out hl HV.out (by omega) (by omega)).mono ?_; rw [HY.out]; rintro e w2 ⟨rfl, hb2⟩; have HB2 := Lib.hid hb2; clear hb2)
        | (go_at_call 53; refine (hasNoRat_any _ _ _ _ xs hlc (HX.out.below HB2.out)).mono ?_; rw [HN.out]; rintro e w3 ⟨rfl, hb3⟩; have HB3 := Lib.hid (below_up HB2.out hb3 (Nat.le_refl _)); clear hb3))
      go_ret
      exact ⟨ret_bool HE.out.symm, HB0.out.trans (HB3.out.mono (by omega))⟩
    · have HN : Hid ((!xs.all (fun p => isR p.1 p.2)) = false) := Lib.hid (by rw [hall]; rfl)
      have HA : Hid (∀ j, j < xs.length → isR (xs.getD j (0, 0)).1 (xs.getD j (0, 0)).2 = true) := Lib.hid (fun j hj => List.all_eq_true.1 hall _ (getR_mem (l := xs) hj))
      clear hsys hok hall
      go_enter Try.func15, Try.ntmps15
      go_wp2_with fail
      rw [← hW1]
      clear hW1
      go_wp2_with (first
        | (go_at_call 52; refine (isValid_any _ _ _ _ ms _ _ _ vs (len : Int) HSM.out HS.out hl HV.out (by omega) (by omega)).mono ?_; rw [HY.out]; rintro e w2 ⟨rfl, hb2⟩; have HB2 := Lib.hid hb2; clear hb2)
        | (go_at_call 53; refine (hasNoRat_any _ _ _ _ xs hlc (HX.out.below HB2.out)).mono ?_; rw [HN.out]; rintro e w3 ⟨rfl, hb3⟩; have HB3 := Lib.hid (below_up HB2.out hb3 (Nat.le_refl _)); have k0 := (HB3.out.cell (p := ⟨W.heap.size, 0, none⟩) hbs).trans HC0.out; clear hb3))
      go_loopw [29, 8, 9, 10, 11] (fun i _ _ _ _ wr => ∃ u : Nat, u ≤ lb ∧ i = .int .i64 u ∧ Hid (∀ j, j < u → dotR (row ms j) xs len = some (vec vs j, 1)) ∧ Below W1.heap.size W1 wr) (fun i _ _ _ _ _ => lb - (intOf i).toNat)
      case atStart => exact ⟨0, Nat.zero_le _, rfl, Lib.hid (fun j hj => by omega), HB3.out⟩
      case round =>
        obtain ⟨u, hu, rfl, HA2, hb⟩ := hrel
        have HB2 := Lib.hid hb
        by_cases hlt2 : u < lb
        · obtain ⟨bo, off, ar, cr, rfl, hbl, hc, _, _, hsr⟩ := HS.out.2 u hlt2
          have hcw := (hb.cell (p := ⟨bo, off + u, none⟩) hbl).trans hc
          have hum : u < ms.length := by rw [HML.out]; exact hlt2
          have hzl := HOK.out.wid u hum
          obtain ⟨z, hz⟩ : ∃ z, z = row ms u := ⟨_, rfl⟩
          rw [← hz] at hcw hsr hzl
          rw [hzl] at hcw hsr
          have HZ := Lib.hid hz
          have HSR := Lib.hid (hsr.below hb)
          have HXW := Lib.hid (HX.out.below hb)
          rcases HV.out.2.2 with h0 | ⟨b4, o4, rfl, hb4, hc4⟩
          · omega
          · have hcv := (hb.cell (p := ⟨b4, o4 + u, none⟩) hb4).trans (hc4 u hlt2)
            obtain ⟨p, hp⟩ : ∃ p, p = vs.getD u 0 := ⟨_, rfl⟩
            rw [← hp] at hcv
            have HPV : Hid (p = vec vs u) := Lib.hid hp
            have HCV := Lib.hid hcv
            have hb4r := Nat.lt_of_lt_of_le hb4 hb.size
            have hck0 := (hb.cell (p := ⟨W.heap.size, 2, none⟩) hbs).trans HC2.out
            have HK2 := Lib.hid hck0
            have hws : W.heap.size < wr.heap.size := Nat.lt_of_lt_of_le hbs hb.size
            obtain ⟨r, hr⟩ : ∃ r, r = dotR z xs len := ⟨_, rfl⟩
            have HR := Lib.hid hr
            have HRK : Hid (dotR (row ms u) xs len = r) := Lib.hid (by rw [hr, hz])
            have hk9 : len ≤ 1073741824 := by omega
            have i0u : (0 : Int) ≤ (u : Int) := by omega
            have i1u : (u : Int) < (lb : Int) := by omega
            clear hc hsr hz hb hc4 hp hr hcv hzl hck0
            cases r with
            | none =>
              have HE : Hid (v = false) := Lib.hid (HVV.out.trans (fits_no3 hum (by rw [HXL.out, HRK.out]; exact fun e => by cases e)))
              go_wp2_with (go_at_call 55; refine (sumP_any _ _ _ _ z _ _ _ xs (Nat.le_refl _) hk9 HSR.out HXW.out none HR.out).mono ?_; rintro e w4 ⟨he4, hb4'⟩; have he5 : e = .returned (.tuple #[.agg #[.int .i64 0, .int .i64 0], .bool false]) := he4; subst he5; have HB4 := Lib.hid (below_up HB2.out hb4' (Nat.le_refl _)); have hcv := (hb4'.cell (p := ⟨b4, o4 + u, none⟩) hb4r).trans HCV.out; have hck := (hb4'.cell (p := ⟨W.heap.size, 2, none⟩) hws).trans HK2.out; clear hb4' he4)
              obtain ⟨V, hV⟩ : ∃ V, V = w4.alloc (.cells #[.int .i64 0, .int .i64 0] 34) := ⟨_, rfl⟩
              have HG5 : Hid (Below W1.heap.size W1 V) := Lib.hid (by rw [hV]; exact HB4.out.alloc HB4.out.size _)
              have HY5 : Hid (PairAt V w4.heap.size 0 0) := Lib.hid (by rw [hV]; exact pair_new _ _ _ _)
              have hcv5 : V.cell? ⟨b4, o4 + u, none⟩ = some (.int .i64 p) := by rw [hV]; exact (World.cell?_alloc_some _ _ _ (by rw [hcv]; rfl)).trans hcv
              have hck5 : V.cell? ⟨W.heap.size, 2, none⟩ = some (.slice (some ⟨b4, o4, none⟩) lb cb) := by rw [hV]; exact (World.cell?_alloc_some _ _ _ (by rw [hck]; rfl)).trans hck
              rw [← hV]
              clear hV hcv hck
              have y0 := HY5.out.c0
              have y1 := HY5.out.c1
              go_quiet (fail)
              go_wp2
              go_ret
              exact ⟨ret_bool HE.out.symm, HB0.out.trans ((HG5.out.trans (below_drewN0 _ _ _)).mono (by omega))⟩
            | some st =>
              obtain ⟨s, t⟩ := st
              by_cases he : s = p ∧ t = 1
              · obtain ⟨rfl, rfl⟩ := he
                have HD : Hid (dotR (row ms u) xs len = some (vec vs u, 1)) := Lib.hid (by rw [HRK.out, HPV.out])
                go_wp2_with (go_at_call 55; refine (sumP_any _ _ _ _ z _ _ _ xs (Nat.le_refl _) hk9 HSR.out HXW.out (some (s, 1)) HR.out).mono ?_; rintro e w4 ⟨he4, hb4'⟩; have he5 : e = .returned (.tuple #[.agg #[.int .i64 s, .int .i64 1], .bool true]) := he4; subst he5; have HB4 := Lib.hid (below_up HB2.out hb4' (Nat.le_refl _)); have hcv := (hb4'.cell (p := ⟨b4, o4 + u, none⟩) hb4r).trans HCV.out; have hck := (hb4'.cell (p := ⟨W.heap.size, 2, none⟩) hws).trans HK2.out; clear hb4' he4)
                obtain ⟨V, hV⟩ : ∃ V, V = w4.alloc (.cells #[.int .i64 s, .int .i64 1] 34) := ⟨_, rfl⟩
                have HG5 : Hid (Below W1.heap.size W1 V) := Lib.hid (by rw [hV]; exact HB4.out.alloc HB4.out.size _)
                have HY5 : Hid (PairAt V w4.heap.size s 1) := Lib.hid (by rw [hV]; exact pair_new _ _ _ _)
                have hcv5 : V.cell? ⟨b4, o4 + u, none⟩ = some (.int .i64 s) := by rw [hV]; exact (World.cell?_alloc_some _ _ _ (by rw [hcv]; rfl)).trans hcv
                have hck5 : V.cell? ⟨W.heap.size, 2, none⟩ = some (.slice (some ⟨b4, o4, none⟩) lb cb) := by rw [hV]; exact (World.cell?_alloc_some _ _ _ (by rw [hck]; rfl)).trans hck
                rw [← hV]
                clear hV hcv hck
                have y0 := HY5.out.c0
                have y1 := HY5.out.c1
                go_region_held3 (fun w' => w'.cell? ⟨w4.heap.size, 0, none⟩ = some (.int .i64 s) ∧ w'.cell? ⟨w4.heap.size, 1, none⟩ = some (.int .i64 1) ∧ w'.cell? ⟨W.heap.size, 2, none⟩ = some (.slice (some ⟨b4, o4, none⟩) lb cb) ∧ w'.cell? ⟨b4, o4 + u, none⟩ = some (.int .i64 s)) (go_keep) (fail)
                go_wp2
                go_roundw
                case rel => exact ⟨u + 1, by omega, by go_num, Lib.hid (fun j hj => by rcases Nat.lt_or_eq_of_le (Nat.lt_succ_iff.1 hj) with h | h; exact HA2.out j h; subst h; exact HD.out), HG5.out.drew⟩
                case measure => simp [intOf]; omega
              · have HE : Hid (v = false) := Lib.hid (HVV.out.trans (fits_no3 hum (by rw [HXL.out, HRK.out, ← HPV.out]; intro e; simp only [Option.some.injEq, Prod.mk.injEq] at e; exact he e)))
                rcases Classical.em (s = p) with rfl | hsp
                · have hne : ¬ t = 1 := fun h2 => he ⟨rfl, h2⟩
                  clear he
                  go_wp2_with (go_at_call 55; refine (sumP_any _ _ _ _ z _ _ _ xs (Nat.le_refl _) hk9 HSR.out HXW.out (some (s, t)) HR.out).mono ?_; rintro e w4 ⟨he4, hb4'⟩; have he5 : e = .returned (.tuple #[.agg #[.int .i64 s, .int .i64 t], .bool true]) := he4; subst he5; have HB4 := Lib.hid (below_up HB2.out hb4' (Nat.le_refl _)); have hcv := (hb4'.cell (p := ⟨b4, o4 + u, none⟩) hb4r).trans HCV.out; have hck := (hb4'.cell (p := ⟨W.heap.size, 2, none⟩) hws).trans HK2.out; clear hb4' he4)
                  obtain ⟨V, hV⟩ : ∃ V, V = w4.alloc (.cells #[.int .i64 s, .int .i64 t] 34) := ⟨_, rfl⟩
                  have HG5 : Hid (Below W1.heap.size W1 V) := Lib.hid (by rw [hV]; exact HB4.out.alloc HB4.out.size _)
                  have HY5 : Hid (PairAt V w4.heap.size s t) := Lib.hid (by rw [hV]; exact pair_new _ _ _ _)
                  have hcv5 : V.cell? ⟨b4, o4 + u, none⟩ = some (.int .i64 s) := by rw [hV]; exact (World.cell?_alloc_some _ _ _ (by rw [hcv]; rfl)).trans hcv
                  have hck5 : V.cell? ⟨W.heap.size, 2, none⟩ = some (.slice (some ⟨b4, o4, none⟩) lb cb) := by rw [hV]; exact (World.cell?_alloc_some _ _ _ (by rw [hck]; rfl)).trans hck
                  rw [← hV]
                  clear hV hcv hck
                  have y0 := HY5.out.c0
                  have y1 := HY5.out.c1
                  go_region_held3 (fun w' => w'.cell? ⟨w4.heap.size, 0, none⟩ = some (.int .i64 s) ∧ w'.cell? ⟨w4.heap.size, 1, none⟩ = some (.int .i64 t) ∧ w'.cell? ⟨W.heap.size, 2, none⟩ = some (.slice (some ⟨b4, o4, none⟩) lb cb) ∧ w'.cell? ⟨b4, o4 + u, none⟩ = some (.int .i64 s)) (go_keep) (fail)
                  go_wp2
                  go_ret
                  exact ⟨ret_bool HE.out.symm, HB0.out.trans (HG5.out.drew.mono (by omega))⟩
                · clear he
                  go_wp2_with (go_at_call 55; refine (sumP_any _ _ _ _ z _ _ _ xs (Nat.le_refl _) hk9 HSR.out HXW.out (some (s, t)) HR.out).mono ?_; rintro e w4 ⟨he4, hb4'⟩; have he5 : e = .returned (.tuple #[.agg #[.int .i64 s, .int .i64 t], .bool true]) := he4; subst he5; have HB4 := Lib.hid (below_up HB2.out hb4' (Nat.le_refl _)); have hcv := (hb4'.cell (p := ⟨b4, o4 + u, none⟩) hb4r).trans HCV.out; have hck := (hb4'.cell (p := ⟨W.heap.size, 2, none⟩) hws).trans HK2.out; clear hb4' he4)
                  obtain ⟨V, hV⟩ : ∃ V, V = w4.alloc (.cells #[.int .i64 s, .int .i64 t] 34) := ⟨_, rfl⟩
                  have HG5 : Hid (Below W1.heap.size W1 V) := Lib.hid (by rw [hV]; exact HB4.out.alloc HB4.out.size _)
                  have HY5 : Hid (PairAt V w4.heap.size s t) := Lib.hid (by rw [hV]; exact pair_new _ _ _ _)
                  have hcv5 : V.cell? ⟨b4, o4 + u, none⟩ = some (.int .i64 p) := by rw [hV]; exact (World.cell?_alloc_some _ _ _ (by rw [hcv]; rfl)).trans hcv
                  have hck5 : V.cell? ⟨W.heap.size, 2, none⟩ = some (.slice (some ⟨b4, o4, none⟩) lb cb) := by rw [hV]; exact (World.cell?_alloc_some _ _ _ (by rw [hck]; rfl)).trans hck
                  rw [← hV]
                  clear hV hcv hck
                  have y0 := HY5.out.c0
                  have y1 := HY5.out.c1
                  go_region_held3 (fun w' => w'.cell? ⟨w4.heap.size, 0, none⟩ = some (.int .i64 s) ∧ w'.cell? ⟨w4.heap.size, 1, none⟩ = some (.int .i64 t) ∧ w'.cell? ⟨W.heap.size, 2, none⟩ = some (.slice (some ⟨b4, o4, none⟩) lb cb) ∧ w'.cell? ⟨b4, o4 + u, none⟩ = some (.int .i64 p)) (go_keep) (fail)
                  go_wp2
                  go_ret
                  exact ⟨ret_bool HE.out.symm, HB0.out.trans (HG5.out.drew.mono (by omega))⟩
        · obtain rfl : u = lb := by omega
          have HE : Hid (v = true) := Lib.hid (HVV.out.trans (fits_yes (by rw [HXL.out]; exact HY.out) HA.out (fun j hj => by rw [HXL.out]; exact HA2.out j (by rw [HML.out] at hj; exact hj))))
          clear hb
          go_wp2
          go_ret
          exact ⟨ret_bool HE.out.symm, HB0.out.trans (HB2.out.mono (by omega))⟩
end Go.Proofs.Ytgcgdgbogamlnaa
