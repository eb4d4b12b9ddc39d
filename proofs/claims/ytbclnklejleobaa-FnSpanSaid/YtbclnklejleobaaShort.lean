/- How the program makes a row tidy in place. -/
import Derived.Test.YtbclnklejleobaaIdx
import Derived.Test.YtbclnklejleobaaRatP
namespace Go.Proofs.Ytbclnklejleobaa
open Go.RowKit
theorem startV_lead {zs : List Int} (h : leadL zs < zs.length) : startV zs = (leadL zs : Int) := by unfold startV; rw [if_neg (by omega)]
theorem startV_none {zs : List Int} (h : leadL zs = zs.length) : startV zs = -1 := by unfold startV; rw [if_pos h]
set_option maxRecDepth 20000 in
set_option maxHeartbeats 1600000 in
theorem shorten_any (W : World) (lo hi : Nat) (a : Option Addr) (len cap : Nat) (zs : List Int) (hl : len ≤ 1073741824) (ho : Own .i64 3 W lo hi a len cap zs) (hf : Fit 4000000000000000000 zs) :
    Calls Try.prog 61 #[.slice a len cap] W fun e w' => e = .returned (.tuple #[]) ∧ Own .i64 3 w' lo hi a len cap (tidyL zs) ∧ Moved lo hi W w' := by
  have HO0 := Lib.hid ho
  have HS := Lib.hid ho.sees
  have HL := Lib.hid ho.1
  have HF := Lib.hid hf
  clear ho hf
  rcases Nat.lt_or_eq_of_le (leadL_le zs) with hlz | hlz
  · have HSV := Lib.hid (startV_lead hlz)
    rcases HO0.out.spot with ⟨_, h0, _⟩ | ⟨g, rfl, hg1, hg2, _, _, hcell, _⟩
    · have := HL.out
      omega
    have hgW : g < W.heap.size := Nat.lt_of_lt_of_le hg2 HO0.out.2.2.1
    have HC := Lib.hid hcell
    obtain ⟨l, hl2⟩ : ∃ l : Nat, l = leadL zs := ⟨_, rfl⟩
    have hll : l < len := by rw [hl2, ← HL.out]; exact hlz
    obtain ⟨y, hy⟩ : ∃ y, y = zs.getD l 0 := ⟨_, rfl⟩
    have hyv : y = vec zs (leadL zs) := by rw [hy, ← hl2]; rfl
    have hy0 : y ≠ 0 := by rw [hyv]; exact leadL_at hlz
    obtain ⟨d, hd⟩ : ∃ d, d = divL zs := ⟨_, rfl⟩
    have hd0 : d ≠ 0 := by rw [hd]; exact divL_ne hlz
    have HXD : Hid (d = if y < 0 then -(gcdN len (vec zs) : Int) else (gcdN len (vec zs) : Int)) := Lib.hid (by rw [hd, hyv, ← HL.out]; rfl)
    have HY := Lib.hid hy
    have HD := Lib.hid hd
    have HLZ := Lib.hid hlz
    rw [← hl2] at HSV
    clear hcell hl2 hyv hd hy hlz
    go_enter Try.func61, Try.ntmps61
    go_wp2_with (go_at_call 47; refine (startOf_any _ _ _ _ zs hl HS.out).mono ?_; rw [HSV.out]; rintro e w' ⟨rfl, rfl⟩)
    go_loopw [3, 13, 5] (fun v i _ wr => ∃ (k : Nat) (x : Int), k ≤ len ∧ i = .int .i64 k ∧ v = .int .i64 x ∧ 0 ≤ x ∧ x ≤ 4000000000000000000 ∧ Hid (x = (gcdN k (vec zs) : Int)) ∧ Below W.heap.size W wr) (fun _ i _ _ => len - (intOf i).toNat)
    case atStart => exact ⟨0, 0, Nat.zero_le _, rfl, rfl, by decide, by decide, Lib.hid rfl, Below.refl _ _⟩
    case round =>
      obtain ⟨k, x, hk, rfl, rfl, hx0, hx1, HX, hb⟩ := hrel
      have HB0 := Lib.hid hb
      by_cases hlt : k < len
      · have hc := (hb.cell (p := ⟨g, k, none⟩) hgW).trans (HC.out k hlt)
        have hfb := HF.out k
        obtain ⟨y2, hy2⟩ : ∃ y, y = zs.getD k 0 := ⟨_, rfl⟩
        rw [← hy2] at hc
        rw [show vec zs k = y2 from hy2.symm] at hfb
        obtain ⟨hb0, hb1⟩ := hfb
        obtain ⟨gg, hg⟩ : ∃ g : Int, g = (Int.gcd x y2 : Int) := ⟨_, rfl⟩
        have HG : Hid (gg = (gcdN (k + 1) (vec zs) : Int)) := Lib.hid (by rw [hg, HX.out, gcdN, hy2]; rfl)
        have hg0 : 0 ≤ gg := by omega
        have hg1 : gg ≤ 4000000000000000000 := by rw [HG.out]; exact HF.out.gcd (by decide) _
        have HGE := Lib.hid hg
        clear hb hy2 hg
        go_wp2_with (go_at_call 75; refine (prgGcd_any x y2 _ (by omega) hx1 hb0 hb1).mono ?_; rw [← HGE.out]; rintro e w3 ⟨rfl, hb3⟩; have HB3 := Lib.hid (below_up HB0.out hb3 (Nat.le_refl _)); clear hb3)
        go_roundw
        case rel => exact ⟨k + 1, gg, by omega, by go_num, rfl, hg0, hg1, HG, HB3.out⟩
        case measure => simp [intOf]; omega
      · obtain rfl : k = len := by omega
        have HB : Hid (Moved lo hi W wr) := Lib.hid (Moved.of_below hb)
        have HO1 := Lib.hid (HO0.out.below hb)
        have hc := (hb.cell (p := ⟨g, l, none⟩) hgW).trans (HC.out l hll)
        rw [← HY.out] at hc
        have HXE : Hid (d = if y < 0 then -x else x) := Lib.hid (by rw [HX.out]; exact HXD.out)
        clear hb
        by_cases hyn : y < 0
        · have HXF : Hid (d = -x) := Lib.hid (by rw [HXE.out, if_pos hyn])
          go_wp2_with fail
          rw [← HXF.out]
          go_loopw [30, 6] (fun i _ wr2 => ∃ j : Nat, j ≤ k ∧ i = .int .i64 j ∧ Own .i64 3 wr2 lo hi (some ⟨g, 0, none⟩) k cap (over (tidyL zs) zs j) ∧ Moved lo hi W wr2) (fun i _ _ => k - (intOf i).toNat)
          case atStart => exact ⟨0, Nat.zero_le _, rfl, by rw [over_zero]; exact HO1.out, HB.out⟩
          case round =>
            obtain ⟨j, hj, rfl, ho, hb⟩ := hrel
            have HO := Lib.hid ho
            have HBB := Lib.hid hb
            by_cases hjl : j < k
            · have hsp := ho.spot
              rcases hsp with ⟨hx, _⟩ | ⟨g', hg', _, _, _, _, hcs, hfz⟩
              · cases hx
              · cases hg'
                have hcd := hcs j hjl
                have hfd := hfz j
                rw [over_ahead (by rw [tidyL_len]) (by rw [HL.out]; exact hjl)] at hcd
                have hzb := HF.out j
                obtain ⟨z, hz⟩ : ∃ z, z = zs.getD j 0 := ⟨_, rfl⟩
                rw [← hz] at hcd
                rw [show vec zs j = z from hz.symm] at hzb
                obtain ⟨hz0', hz1'⟩ := hzb
                have hqb := tdiv_fit (g := d) hz0' hz1'
                obtain ⟨q, hq⟩ : ∃ q, z.tdiv d = q := ⟨_, rfl⟩
                have HN : Hid ((tidyL zs).getD j 0 = q) := Lib.hid (by
                  show vec (tidyL zs) j = q
                  unfold tidyL
                  rw [if_neg (by have := HLZ.out; omega), vec_mapL (by rw [HL.out]; exact hjl), ← HD.out, ← hq, hz]
                  rfl)
                rw [hq] at hqb
                obtain ⟨hq0, hq1⟩ := hqb
                clear hcs hfz ho hb hz
                go_wp2
                go_roundw
                case rel =>
                  have hst := HO.out.stored j q (WalkArith.wf_i64 (by omega))
                  have e := over_set (tidyL zs) zs j (by rw [tidyL_len]) (by rw [tidyL_len, HL.out]; exact hjl)
                  rw [HN.out] at e
                  rw [e] at hst
                  exact ⟨j + 1, by omega, by go_num, hst.1, HBB.out.trans hst.2⟩
                case measure => simp [intOf]; omega
            · clear ho hb
              obtain rfl : j = k := by omega
              go_wp2
              refine bodyPost_end (results_none rfl _ _ _) rfl ?_
              have h := HO.out
              have e : over (tidyL zs) zs j = tidyL zs := by
                have := over_all (tidyL zs) zs (by rw [tidyL_len])
                rwa [tidyL_len, HL.out] at this
              rw [e] at h
              exact ⟨rfl, h, HBB.out⟩
        · have HXF : Hid (d = x) := Lib.hid (by rw [HXE.out, if_neg hyn])
          go_wp2_with fail
          rw [← HXF.out]
          go_loopw [30, 6] (fun i _ wr2 => ∃ j : Nat, j ≤ k ∧ i = .int .i64 j ∧ Own .i64 3 wr2 lo hi (some ⟨g, 0, none⟩) k cap (over (tidyL zs) zs j) ∧ Moved lo hi W wr2) (fun i _ _ => k - (intOf i).toNat)
          case atStart => exact ⟨0, Nat.zero_le _, rfl, by rw [over_zero]; exact HO1.out, HB.out⟩
          case round =>
            obtain ⟨j, hj, rfl, ho, hb⟩ := hrel
            have HO := Lib.hid ho
            have HBB := Lib.hid hb
            by_cases hjl : j < k
            · have hsp := ho.spot
              rcases hsp with ⟨hx, _⟩ | ⟨g', hg', _, _, _, _, hcs, hfz⟩
              · cases hx
              · cases hg'
                have hcd := hcs j hjl
                have hfd := hfz j
                rw [over_ahead (by rw [tidyL_len]) (by rw [HL.out]; exact hjl)] at hcd
                have hzb := HF.out j
                obtain ⟨z, hz⟩ : ∃ z, z = zs.getD j 0 := ⟨_, rfl⟩
                rw [← hz] at hcd
                rw [show vec zs j = z from hz.symm] at hzb
                obtain ⟨hz0', hz1'⟩ := hzb
                have hqb := tdiv_fit (g := d) hz0' hz1'
                obtain ⟨q, hq⟩ : ∃ q, z.tdiv d = q := ⟨_, rfl⟩
                have HN : Hid ((tidyL zs).getD j 0 = q) := Lib.hid (by
                  show vec (tidyL zs) j = q
                  unfold tidyL
                  rw [if_neg (by have := HLZ.out; omega), vec_mapL (by rw [HL.out]; exact hjl), ← HD.out, ← hq, hz]
                  rfl)
                rw [hq] at hqb
                obtain ⟨hq0, hq1⟩ := hqb
                clear hcs hfz ho hb hz
                go_wp2
                go_roundw
                case rel =>
                  have hst := HO.out.stored j q (WalkArith.wf_i64 (by omega))
                  have e := over_set (tidyL zs) zs j (by rw [tidyL_len]) (by rw [tidyL_len, HL.out]; exact hjl)
                  rw [HN.out] at e
                  rw [e] at hst
                  exact ⟨j + 1, by omega, by go_num, hst.1, HBB.out.trans hst.2⟩
                case measure => simp [intOf]; omega
            · clear ho hb
              obtain rfl : j = k := by omega
              go_wp2
              refine bodyPost_end (results_none rfl _ _ _) rfl ?_
              have h := HO.out
              have e : over (tidyL zs) zs j = tidyL zs := by
                have := over_all (tidyL zs) zs (by rw [tidyL_len])
                rwa [tidyL_len, HL.out] at this
              rw [e] at h
              exact ⟨rfl, h, HBB.out⟩
  · have HSV := Lib.hid (startV_none hlz)
    have HE : Hid (tidyL zs = zs) := Lib.hid (by unfold tidyL; rw [if_pos hlz])
    clear hlz
    go_enter Try.func61, Try.ntmps61
    go_wp2_with (go_at_call 47; refine (startOf_any _ _ _ _ zs hl HS.out).mono ?_; rw [HSV.out]; rintro e w' ⟨rfl, rfl⟩)
    refine bodyPost_ret (results_none rfl _ _ _) rfl ?_
    rw [HE.out]
    exact ⟨rfl, HO0.out, Moved.refl _ _ _⟩
end Go.Proofs.Ytbclnklejleobaa
