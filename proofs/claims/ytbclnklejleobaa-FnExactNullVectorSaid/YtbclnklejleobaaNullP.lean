/- The program's NullVector. -/
import Derived.Test.YtbclnklejleobaaFillP
namespace Go.Proofs.Ytbclnklejleobaa
open Go.RowKit
theorem nullV_len (ms : List (List Int)) (z : List Int) : (nullV ms z).length ≤ 6 := by
  cases hv : bothV ms z
  · rw [null_none hv]; simp
  · rw [null_yes hv]
    split
    · simp
    · rw [nullAt_len]; exact (both_len hv).2
set_option maxRecDepth 20000 in
set_option maxHeartbeats 1600000 in
theorem nv_any (W : World) (a : Option Addr) (len cap : Nat) (ms : List (List Int)) (b : Option Addr) (lb cb : Nat) (z : List Int) (hsm : SmallM ms) (hs : SeesM W a len ms) (hl : lb ≤ 1073741824) (hc : lb ≤ cb) (hcm : cb ≤ maxLen) (hs2 : Sees .i64 W b lb z) :
    Calls Try.prog 16 #[.slice a len cap, .slice b lb cb] W (Made .i64 3 (nullV ms z) W) := by
  have HS := Lib.hid hs
  have HSM := Lib.hid hsm
  have HS2 := Lib.hid hs2
  have HLB := Lib.hid hs2.1
  obtain ⟨i0, hi, hz0, hz1, hz2⟩ := info_parts info_i64
  cases hv : bothV ms z
  · have HE := Lib.hid (null_none hv)
    have HV := Lib.hid hv
    clear hv hs hsm hs2
    go_enter Try.func16, Try.ntmps16
    go_wp2_with (go_at_call 42; refine (both_any _ a len cap ms b lb cb z HSM.out HS.out hl hc hcm HS2.out).mono ?_; rw [HV.out]; rintro e w1 ⟨rfl, hb1⟩; have HB1 := Lib.hid hb1; clear hb1)
    go_ret
    rw [HE.out]
    exact ⟨_, _, _, rfl, own_empty w1 _ HB1.out.size, HB1.out.alloc HB1.out.size _⟩
  · have HA := Lib.hid (null_at hv)
    have HRV : Hid (rrV ms (lb : Int) = rrL ms z.length) := Lib.hid (by
      have h1 : isMat ms (z.length : Int) = true := by simp only [bothV, Bool.and_eq_true] at hv; exact hv.1
      unfold rrV
      rw [← hs2.1, if_pos h1]
      simp)
    have HNV := Lib.hid (null_yes hv)
    have HH := Lib.hid (null_hit (rrL ms z.length) z z.length)
    obtain ⟨idx, hidx⟩ : ∃ idx, idx = nullIdx (rrL ms z.length) z z.length := ⟨_, rfl⟩
    rw [← hidx] at HH HNV
    obtain ⟨rs, hrs⟩ : ∃ rs, rs = rrL ms z.length := ⟨_, rfl⟩
    rw [← hrs] at HH HNV HRV HA
    rw [HLB.out] at HH HNV HA
    obtain ⟨nv, hnv⟩ : ∃ nv, nv = nullV ms z := ⟨_, rfl⟩
    rw [← hnv] at HNV ⊢
    have hn6 : lb ≤ 6 := HA.out.n6
    have hn1 : 1 ≤ lb := HA.out.n1
    have hr6 : rs.length ≤ 6 := HA.out.many
    have hidl : idx ≤ lb := HH.out.le
    have HV := Lib.hid hv
    clear hv hs hsm hs2 hrs hidx hnv
    go_enter Try.func16, Try.ntmps16
    go_wp2_with (first
      | (go_at_call 42; refine (both_any _ a len cap ms b lb cb z HSM.out HS.out hl hc hcm HS2.out).mono ?_; rw [HV.out]; rintro e w1 ⟨rfl, hb1⟩; have HB1 := Lib.hid hb1; clear hb1)
      | (go_at_call 13; refine (rrP_any _ a len cap ms (lb : Int) HSM.out (by omega) (by omega) (HS.out.below HB1.out)).mono ?_; rw [HRV.out]; rintro e w4 ⟨a4, l4, c4, rfl, hs4, hb4⟩; have hl4 := hs4.1; subst hl4; have HS4 := Lib.hid hs4.seesF; have HB4 := Lib.hid (below_up HB1.out hb4 (Nat.le_refl _)); clear hs4 hb4)
      | (at_make; refine wp_make_room _ rfl _ _ 29 rfl 3 i0 .i64 8 Try.underlying29 hi hz0 hz1 hz2 _ _ _ _ lb lb rfl rfl rfl rfl (Nat.le_refl _) (by omega) (by unfold maxLen; omega) ?_; intro w5 ho5 hb5; have HO5 := Lib.hid ho5; have HS5 := Lib.hid (HS4.out.below hb5); have HB5 := Lib.hid (below_up HB4.out hb5 (Nat.le_refl _)); clear ho5 hb5))
    go_loopw [22, 7] (fun i _ wr => ∃ (k : Nat) (vs : List Int), k ≤ idx ∧ i = .int .i64 k ∧ Own .i64 3 wr w4.heap.size w5.heap.size (some ⟨w4.heap.size, 0, none⟩) lb lb vs ∧ Moved w4.heap.size w5.heap.size w5 wr) (fun i _ _ => lb - (intOf i).toNat)
    case atStart => exact ⟨0, _, Nat.zero_le _, rfl, HO5.out, Moved.refl _ _ _⟩
    case round =>
      obtain ⟨k, vs, hk, rfl, ho, hm⟩ := hrel
      have HO := Lib.hid ho
      have HM := Lib.hid hm
      have HSR := Lib.hid (HS5.out.moved hm (.inl (Nat.le_refl _)))
      have HB := Lib.hid (below_moved HB5.out hm (Nat.le_refl _) HB4.out.size)
      clear ho hm
      by_cases hkn : k < lb
      · have hn9 : lb ≤ 1073741824 := hl
        cases hlk : leadIn rs k rs.length
        · have HLK := Lib.hid hlk
          obtain ⟨dv, hdv⟩ : ∃ dv, dv = dotV (nullAt rs lb k rs.length) z := ⟨_, rfl⟩
          have HDV := Lib.hid hdv
          by_cases hd0 : dv = 0
          · have hkid : k < idx := by
              rcases Nat.lt_or_eq_of_le hk with h1 | h1
              · exact h1
              · have := (HH.out.hit (by omega)).2
                rw [← h1, ← hdv] at this
                exact absurd hd0 this
            subst hd0
            clear hlk hdv
            go_wp2_with (first
              | (go_at_call 43; refine (isStart_any _ a4 c4 rs lb k HA.out HSR.out.sees).mono ?_; rw [HLK.out]; rintro e w6 ⟨rfl, hb6⟩; have HB6 := Lib.hid hb6; obtain ⟨w7, hrun7, ho7, hm7⟩ := clear_run (HO.out.below hb6) (show 0 < lb by omega) 0; have HO7 := Lib.hid ho7; have HM7 := Lib.hid hm7; clear ho7 hm7 hb6)
              | (go_at_call 44; refine (fill_any _ w4.heap.size w5.heap.size w1.heap.size w4.heap.size _ lb a4 c4 rs lb k HA.out HO7.out ((HSR.out.below HB6.out).moved HM7.out (.inl (Nat.le_refl _))) (.inl (Nat.le_refl _)) hkn).mono ?_; rintro e w8 ⟨rfl, ho8, hm8⟩; have HO8 := Lib.hid ho8; have HM8 := Lib.hid hm8; clear ho8 hm8)
              | (go_at_call 21; refine (dot_any _ _ lb lb b lb cb (nullAt rs lb k rs.length) z hn9 hn9 HO8.out.sees (HS2.out.below (below_moved (below_moved (below_up HB.out HB6.out (Nat.le_refl _)) HM7.out (Nat.le_refl _) HB4.out.size) HM8.out (Nat.le_refl _) HB4.out.size))).mono ?_; rw [← HDV.out]; rintro e w9 ⟨rfl, hb9⟩; have HB9 := Lib.hid hb9; clear hb9))
            go_roundw
            case rel => exact ⟨k + 1, _, by omega, by go_num, HO8.out.below HB9.out, (((HM.out.trans (Moved.of_below HB6.out)).trans HM7.out).trans HM8.out).trans (Moved.of_below HB9.out)⟩
            case measure => simp [intOf]; omega
          · have hkid : k = idx := by
              rcases Nat.lt_or_eq_of_le hk with h1 | h1
              · rcases HH.out.miss k h1 with h2 | h2
                · rw [hlk] at h2; cases h2
                · rw [← hdv] at h2; exact absurd h2 hd0
              · exact h1
            have HRES : Hid (nv = nullAt rs lb k rs.length) := Lib.hid (by rw [HNV.out, if_neg (by omega), hkid])
            have hd0b : (dv != 0) = true := by simp [hd0]
            clear hlk hdv hkid
            go_wp2_with (first
              | (go_at_call 43; refine (isStart_any _ a4 c4 rs lb k HA.out HSR.out.sees).mono ?_; rw [HLK.out]; rintro e w6 ⟨rfl, hb6⟩; have HB6 := Lib.hid hb6; obtain ⟨w7, hrun7, ho7, hm7⟩ := clear_run (HO.out.below hb6) (show 0 < lb by omega) 0; have HO7 := Lib.hid ho7; have HM7 := Lib.hid hm7; clear ho7 hm7 hb6)
              | (go_at_call 44; refine (fill_any _ w4.heap.size w5.heap.size w1.heap.size w4.heap.size _ lb a4 c4 rs lb k HA.out HO7.out ((HSR.out.below HB6.out).moved HM7.out (.inl (Nat.le_refl _))) (.inl (Nat.le_refl _)) hkn).mono ?_; rintro e w8 ⟨rfl, ho8, hm8⟩; have HO8 := Lib.hid ho8; have HM8 := Lib.hid hm8; clear ho8 hm8)
              | (go_at_call 21; refine (dot_any _ _ lb lb b lb cb (nullAt rs lb k rs.length) z hn9 hn9 HO8.out.sees (HS2.out.below (below_moved (below_moved (below_up HB.out HB6.out (Nat.le_refl _)) HM7.out (Nat.le_refl _) HB4.out.size) HM8.out (Nat.le_refl _) HB4.out.size))).mono ?_; rw [← HDV.out]; rintro e w9 ⟨rfl, hb9⟩; have HB9 := Lib.hid hb9; clear hb9))
            go_ret
            rw [HRES.out]
            have hmv := (((HM.out.trans (Moved.of_below HB6.out)).trans HM7.out).trans HM8.out).trans (Moved.of_below (lo := w4.heap.size) (hi := w5.heap.size) HB9.out)
            exact ⟨_, _, _, rfl, (HO8.out.below HB9.out).wide HB4.out.size hmv.size (Nat.le_refl _), below_moved HB5.out hmv (Nat.le_refl _) HB4.out.size⟩
        · have HLK := Lib.hid hlk
          have hkid : k < idx := by
            rcases Nat.lt_or_eq_of_le hk with h1 | h1
            · exact h1
            · have := (HH.out.hit (by omega)).1
              rw [← h1, hlk] at this
              cases this
          clear hlk
          go_wp2_with (go_at_call 43; refine (isStart_any _ a4 c4 rs lb k HA.out HSR.out.sees).mono ?_; rw [HLK.out]; rintro e w6 ⟨rfl, hb6⟩; have HB6 := Lib.hid hb6; clear hb6)
          go_roundw
          case rel => exact ⟨k + 1, _, by omega, by go_num, HO.out.below HB6.out, HM.out.trans (Moved.of_below HB6.out)⟩
          case measure => simp [intOf]; omega
      · have HRES : Hid (nv = []) := Lib.hid (by rw [HNV.out, if_pos (by omega)])
        go_wp2
        go_ret
        rw [HRES.out]
        exact ⟨_, _, _, rfl, own_empty _ _ HB.out.size, HB.out.alloc HB.out.size _⟩
end Go.Proofs.Ytbclnklejleobaa
