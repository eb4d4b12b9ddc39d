/- The model's NullVector. -/
import Derived.Test.YtbclnklejleobaaNullS
namespace Go.Proofs.Ytbclnklejleobaa
open Go.RowKit
/-- What the search finds, and what it passes. -/
structure NullHit (rs : List (List Int)) (z : List Int) (n idx : Nat) : Prop where
  le : idx ≤ n
  miss : ∀ k, k < idx → leadIn rs k rs.length = true ∨ dotV (nullAt rs n k rs.length) z = 0
  hit : idx < n → leadIn rs idx rs.length = false ∧ dotV (nullAt rs n idx rs.length) z ≠ 0
theorem null_hit (rs : List (List Int)) (z : List Int) (n : Nat) : NullHit rs z n (nullIdx rs z n) := by
  obtain ⟨_, h2, h3, h4⟩ := findA_spec (fun f => if leadIn rs f rs.length = true then 0 else dotV (nullAt rs n f rs.length) z) n 0
  refine ⟨by unfold nullIdx; omega, fun k hk => ?_, fun hk => ?_⟩
  · have := h3 k (Nat.zero_le _) hk
    cases hl : leadIn rs k rs.length
    · rw [hl, if_neg (by decide)] at this
      exact .inr this
    · exact .inl rfl
  · have h5 := h4.resolve_left (by unfold nullIdx at hk; omega)
    unfold nullIdx
    generalize findA (fun f => if leadIn rs f rs.length = true then 0 else dotV (nullAt rs n f rs.length) z) n 0 = i at h5
    cases hl : leadIn rs i rs.length
    · rw [hl, if_neg (by decide)] at h5
      exact ⟨rfl, h5⟩
    · rw [hl, if_pos rfl] at h5
      exact absurd rfl h5
theorem null_yes {ms : List (List Int)} {z : List Int} (h : bothV ms z = true) : nullV ms z = if nullIdx (rrL ms z.length) z z.length = z.length then [] else nullAt (rrL ms z.length) z.length (nullIdx (rrL ms z.length) z z.length) (rrL ms z.length).length := by unfold nullV; rw [if_pos h]
theorem own_empty (w : World) (lo : Nat) (h : lo ≤ w.heap.size) : Own .i64 3 (w.alloc (.cells #[] 3)) lo (w.alloc (.cells #[] 3)).heap.size (some ⟨w.heap.size, 0, none⟩) 0 0 [] :=
  (own_nil .i64 3 w).wide h (by simp) (Nat.le_refl _)
set_option maxRecDepth 20000 in
set_option maxHeartbeats 1600000 in
theorem specNV_any (W : World) (a : Option Addr) (len cap : Nat) (ms : List (List Int)) (b : Option Addr) (lb cb : Nat) (z : List Int) (hsm : SmallM ms) (hs : SeesM W a len ms) (hl : lb ≤ 1073741824) (hc : lb ≤ cb) (hcm : cb ≤ maxLen) (hs2 : Sees .i64 W b lb z) :
    Calls Try.prog 20 #[.slice a len cap, .slice b lb cb] W (Made .i64 3 (nullV ms z) W) := by
  have HS := Lib.hid hs
  have HSM := Lib.hid hsm
  have HS2 := Lib.hid hs2
  have HLB := Lib.hid hs2.1
  cases hv : bothV ms z
  · have HE := Lib.hid (null_none hv)
    have HV := Lib.hid hv
    clear hv hs hsm hs2
    go_enter Try.func20, Try.ntmps20
    go_wp2_with (go_at_call 49; refine (specBoth_any _ a len cap ms b lb cb z HSM.out HS.out hl hc hcm HS2.out).mono ?_; rw [HV.out]; rintro e w1 ⟨rfl, hb1⟩; have HB1 := Lib.hid hb1; clear hb1)
    go_ret
    rw [HE.out]
    exact ⟨_, _, _, rfl, own_empty w1 _ HB1.out.size, HB1.out.alloc HB1.out.size _⟩
  · cases hin : inSpanV ms z
    · have HA := Lib.hid (null_at hv)
      have HRV : Hid (rrV ms (lb : Int) = rrL ms z.length) := Lib.hid (by
        have h1 : isMat ms (z.length : Int) = true := by simp only [bothV, Bool.and_eq_true] at hv; exact hv.1
        unfold rrV
        rw [← hs2.1, if_pos h1]
        simp)
      have HNV := Lib.hid (null_yes hv)
      have HH := Lib.hid (null_hit (rrL ms z.length) z z.length)
      obtain ⟨idx, hidx⟩ : ∃ idx, idx = nullIdx (rrL ms z.length) z z.length := ⟨_, rfl⟩
      rw [← hidx] at HH HNV
      obtain ⟨rs, hrs⟩ : ∃ rs, rs = rrL ms z.length := ⟨_, rfl⟩
      rw [← hrs] at HH HNV HRV HA
      rw [HLB.out] at HH HNV HA
      obtain ⟨nv, hnv⟩ : ∃ nv, nv = nullV ms z := ⟨_, rfl⟩
      rw [← hnv] at HNV ⊢
      have hn6 : lb ≤ 6 := HA.out.n6
      have hr6 : rs.length ≤ 6 := HA.out.many
      have hidl : idx ≤ lb := HH.out.le
      have HV := Lib.hid hv
      have HIN := Lib.hid hin
      clear hv hin hs hsm hs2 hrs hidx hnv
      go_enter Try.func20, Try.ntmps20
      go_wp2_with (first
        | (go_at_call 49; refine (specBoth_any _ a len cap ms b lb cb z HSM.out HS.out hl hc hcm HS2.out).mono ?_; rw [HV.out]; rintro e w1 ⟨rfl, hb1⟩; have HB1 := Lib.hid hb1; clear hb1)
        | (go_at_call 29; refine (specSpan_any _ a len cap ms b lb cb z HSM.out (HS.out.below HB1.out) hl hc hcm (HS2.out.below HB1.out)).mono ?_; rw [HIN.out]; rintro e w2 ⟨rfl, hb2⟩; have HB2 := Lib.hid (below_up HB1.out hb2 (Nat.le_refl _)); clear hb2)
        | (go_at_call 25; refine (specRR_any _ a len cap ms (lb : Int) HSM.out (by omega) (by omega) (HS.out.below HB2.out)).mono ?_; rw [HRV.out]; rintro e w4 ⟨a4, l4, c4, rfl, hs4, _, _, hb4⟩; have hl4 := hs4.1; subst hl4; have HS4 := Lib.hid hs4.sees; have HB4 := Lib.hid (below_up HB2.out hb4 (Nat.le_refl _)); clear hs4 hb4))
      go_loopw [6, 7, 8, 9] (fun i _ _ _ wr => ∃ k : Nat, k ≤ idx ∧ i = .int .i64 k ∧ Below W.heap.size W wr ∧ Below w4.heap.size w4 wr) (fun i _ _ _ _ => lb - (intOf i).toNat)
      case atStart => exact ⟨0, Nat.zero_le _, rfl, HB4.out, Below.refl _ _⟩
      case round =>
        obtain ⟨k, hk, rfl, hb, hb4⟩ := hrel
        have HB := Lib.hid hb
        have HB5 := Lib.hid hb4
        have HSR := Lib.hid (HS4.out.below hb4)
        clear hb hb4
        by_cases hkn : k < lb
        · go_wp2_with fail
          go_loop [7, 8] (fun v i => ∃ u : Nat, u ≤ rs.length ∧ i = .int .i64 u ∧ v = .bool (leadIn rs k u)) (fun _ i => rs.length - (intOf i).toNat)
          case atStart => exact ⟨0, Nat.zero_le _, rfl, rfl⟩
          case round =>
            obtain ⟨u, hu, rfl, rfl⟩ := hrel
            by_cases hul : u < rs.length
            · obtain ⟨b5, off5, ar, cr, rfl, _, hcw, _, _, hsr⟩ := HSR.out.2 u hul
              rw [HA.out.wid u hul] at hcw hsr
              have HSU := Lib.hid hsr
              have hlb9 : lb ≤ 1073741824 := hl
              obtain ⟨d, hd⟩ : ∃ d, d = leadL (row rs u) := ⟨_, rfl⟩
              have HD := Lib.hid hd
              cases hlk : leadIn rs k u
              · have HN : Hid (leadIn rs k (u + 1) = decide (d = k)) := Lib.hid (by rw [leadIn, hlk, ← hd]; rfl)
                clear hsr hd hlk
                go_wp2_with (go_at_call 50; refine (specLead_any _ ar lb cr (row rs u) hlb9 HSU.out).mono ?_; rw [← HD.out]; rintro e w' ⟨rfl, rfl⟩)
                go_round
                case rel => exact ⟨u + 1, by omega, by go_num, by rw [HN.out]; by_cases h : d = k; simp [h]; simp [h]; omega⟩
                case measure => simp [intOf]; omega
              · have HN : Hid (leadIn rs k (u + 1) = true) := Lib.hid (by rw [leadIn, hlk]; rfl)
                clear hsr hd hlk
                go_wp2
                go_round
                case rel => exact ⟨u + 1, by omega, by go_num, by rw [HN.out]⟩
                case measure => simp [intOf]; omega
            · obtain rfl : u = rs.length := by omega
              cases hlk : leadIn rs k rs.length
              · have HLK := Lib.hid hlk
                obtain ⟨dv, hdv⟩ : ∃ dv, dv = dotV (nullAt rs lb k rs.length) z := ⟨_, rfl⟩
                have HDV := Lib.hid hdv
                have hn9 : lb ≤ 1073741824 := hl
                by_cases hd0 : dv = 0
                · have hkid : k < idx := by
                    rcases Nat.lt_or_eq_of_le hk with h1 | h1
                    · exact h1
                    · have := (HH.out.hit (by omega)).2
                      rw [← h1, ← hdv] at this
                      exact absurd hd0 this
                  subst hd0
                  clear hlk hdv
                  go_wp2_with (first
                    | (go_at_call 51; refine (specNull_any _ a4 c4 rs lb k HA.out HSR.out hkn HLK.out).mono ?_; rintro e w6 ⟨a6, l6, c6, rfl, ho6, hb6⟩; have hl6 : lb = l6 := (by have h1 := ho6.1; rw [nullAt_len] at h1; exact h1); subst hl6; have HO6 := Lib.hid ho6; have HB6 := Lib.hid hb6; clear ho6 hb6)
                    | (go_at_call 32; refine (specDot_any _ a6 lb c6 b lb cb (nullAt rs lb k rs.length) z hn9 hn9 HO6.out.sees (HS2.out.below (below_up HB.out HB6.out (Nat.le_refl _)))).mono ?_; rw [← HDV.out]; rintro e w7 ⟨rfl, hb7⟩; have HB7 := Lib.hid hb7; clear hb7))
                  go_roundw
                  case rel => exact ⟨k + 1, by omega, by go_num, below_up (below_up HB.out HB6.out (Nat.le_refl _)) HB7.out (Nat.le_refl _), below_up (below_up HB5.out HB6.out (Nat.le_refl _)) HB7.out (Nat.le_refl _)⟩
                  case measure => simp [intOf]; omega
                · have hkid : k = idx := by
                    rcases Nat.lt_or_eq_of_le hk with h1 | h1
                    · rcases HH.out.miss k h1 with h2 | h2
                      · rw [hlk] at h2; cases h2
                      · rw [← hdv] at h2; exact absurd h2 hd0
                    · exact h1
                  have HRES : Hid (nv = nullAt rs lb k rs.length) := Lib.hid (by rw [HNV.out, if_neg (by omega), hkid])
                  have hd0b : (dv != 0) = true := by simp [hd0]
                  clear hlk hdv hkid
                  go_wp2_with (first
                    | (go_at_call 51; refine (specNull_any _ a4 c4 rs lb k HA.out HSR.out hkn HLK.out).mono ?_; rintro e w6 ⟨a6, l6, c6, rfl, ho6, hb6⟩; have hl6 : lb = l6 := (by have h1 := ho6.1; rw [nullAt_len] at h1; exact h1); subst hl6; have HO6 := Lib.hid ho6; have HB6 := Lib.hid hb6; clear ho6 hb6)
                    | (go_at_call 32; refine (specDot_any _ a6 lb c6 b lb cb (nullAt rs lb k rs.length) z hn9 hn9 HO6.out.sees (HS2.out.below (below_up HB.out HB6.out (Nat.le_refl _)))).mono ?_; rw [← HDV.out]; rintro e w7 ⟨rfl, hb7⟩; have HB7 := Lib.hid hb7; clear hb7))
                  go_ret
                  rw [HRES.out]
                  exact ⟨_, _, _, rfl, (HO6.out.below HB7.out).wide HB.out.size HB7.out.size (Nat.le_refl _), below_up (below_up HB.out HB6.out (Nat.le_refl _)) HB7.out (Nat.le_refl _)⟩
              · have hkid : k < idx := by
                  rcases Nat.lt_or_eq_of_le hk with h1 | h1
                  · exact h1
                  · have := (HH.out.hit (by omega)).1
                    rw [← h1, hlk] at this
                    cases this
                clear hlk
                go_wp2
                go_roundw
                case rel => exact ⟨k + 1, by omega, by go_num, HB.out, HB5.out⟩
                case measure => simp [intOf]; omega
        · have HRES : Hid (nv = []) := Lib.hid (by rw [HNV.out, if_pos (by omega)])
          go_wp2
          go_ret
          rw [HRES.out]
          exact ⟨_, _, _, rfl, own_empty _ _ HB.out.size, HB.out.alloc HB.out.size _⟩
    · have HE := Lib.hid (null_in hv hin)
      have HV := Lib.hid hv
      have HIN := Lib.hid hin
      clear hv hin hs hsm hs2
      go_enter Try.func20, Try.ntmps20
      go_wp2_with (first
        | (go_at_call 49; refine (specBoth_any _ a len cap ms b lb cb z HSM.out HS.out hl hc hcm HS2.out).mono ?_; rw [HV.out]; rintro e w1 ⟨rfl, hb1⟩; have HB1 := Lib.hid hb1; clear hb1)
        | (go_at_call 29; refine (specSpan_any _ a len cap ms b lb cb z HSM.out (HS.out.below HB1.out) hl hc hcm (HS2.out.below HB1.out)).mono ?_; rw [HIN.out]; rintro e w2 ⟨rfl, hb2⟩; have HB2 := Lib.hid (below_up HB1.out hb2 (Nat.le_refl _)); clear hb2))
      go_ret
      rw [HE.out]
      exact ⟨_, _, _, rfl, own_empty w2 _ HB2.out.size, HB2.out.alloc HB2.out.size _⟩
end Go.Proofs.Ytbclnklejleobaa
