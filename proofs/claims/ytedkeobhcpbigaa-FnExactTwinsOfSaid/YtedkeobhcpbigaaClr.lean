/- How the model clears a column of a row. -/
import Derived.Test.YtedkeobhcpbigaaLead
import Derived.Test.YtedkeobhcpbigaaStepSl
import Derived.Deep.RegionHeld3
import Derived.Test.YtedkeobhcpbigaaMat
import Derived.Test.YtedkeobhcpbigaaRatI
namespace Go.Proofs.Ytedkeobhcpbigaa
open Go.RowKit
theorem mul_fit {x y A B C : Int} (hx : -A ≤ x ∧ x ≤ A) (hy : -B ≤ y ∧ y ≤ B) (hA : 0 ≤ A) (hB : 0 ≤ B) (hC : A * B = C) : -C ≤ x * y ∧ x * y ≤ C := by
  have h : (x * y).natAbs ≤ A.toNat * B.toNat := by
    rw [Int.natAbs_mul]
    exact Nat.mul_le_mul (by omega) (by omega)
  have h2 : ((A.toNat * B.toNat : Nat) : Int) = C := by
    rw [← hC, Int.natCast_mul]
    congr 1 <;> omega
  omega
/-- The products and their difference stay in range. -/
theorem comb_fit {x y u t : Int} (hx : -2000000000 ≤ x ∧ x ≤ 2000000000) (hy : -2000000000 ≤ y ∧ y ≤ 2000000000) (hu : -1000000000 ≤ u ∧ u ≤ 1000000000) (ht : -1000000000 ≤ t ∧ t ≤ 1000000000) :
    (-2000000000000000000 ≤ x * u ∧ x * u ≤ 2000000000000000000) ∧ (-2000000000000000000 ≤ y * t ∧ y * t ≤ 2000000000000000000) ∧ -4000000000000000000 ≤ x * u - y * t ∧ x * u - y * t ≤ 4000000000000000000 := by
  have h1 := mul_fit hx hu (by decide) (by decide) (C := 2000000000000000000) (by decide)
  have h2 := mul_fit hy ht (by decide) (by decide) (C := 2000000000000000000) (by decide)
  refine ⟨h1, h2, ?_, ?_⟩ <;> omega
theorem combL_fit {a p : List Int} {k : Nat} (ha : Fit 2000000000 a) (hp : Fit 2000000000 p) (hak : -1000000000 ≤ vec a k ∧ vec a k ≤ 1000000000) (hpk : -1000000000 ≤ vec p k ∧ vec p k ≤ 1000000000) : Fit 4000000000000000000 (combL a p k) := by
  intro j
  rcases Nat.lt_or_ge j a.length with hj | hj
  · rw [combL_at hj]
    exact (comb_fit (ha j) (hp j) hpk hak).2.2
  · rw [vec_beyond (by rw [combL_len]; exact hj)]
    decide
theorem combL_next {a p : List Int} {k j : Nat} (hj : j < a.length) : (combL a p k).take j ++ [vec a j * vec p k - vec p j * vec a k] = (combL a p k).take (j + 1) := by
  rw [List.take_succ_eq_append_getElem (by rw [combL_len]; exact hj)]
  have := combL_at (p := p) (k := k) hj
  rw [← this]
  simp [vec, List.getD, combL_len, hj]
set_option maxHeartbeats 1600000 in
theorem specClear_any (W : World) (a : Option Addr) (len ca : Nat) (b : Option Addr) (cb : Nat) (zs ys : List Int) (k : Nat) (hl : len ≤ 1073741824) (hk : k < len) (hs : Sees .i64 W a len zs) (hs2 : Sees .i64 W b len ys)
    (hf : Fit 2000000000 zs) (hf2 : Fit 2000000000 ys) (hzk : -1000000000 ≤ vec zs k ∧ vec zs k ≤ 1000000000) (hyk : -1000000000 ≤ vec ys k ∧ vec ys k ≤ 1000000000) :
    Calls Try.prog 79 #[.slice a len ca, .slice b len cb, .int .i64 (k : Int)] W (Made .i64 3 (clearL zs ys k) W) := by
  have HS := Lib.hid hs
  have HS2 := Lib.hid hs2
  have HL := Lib.hid hs.1
  have HF := Lib.hid hf
  have HF2 := Lib.hid hf2
  have HZK := Lib.hid hzk
  have HYK := Lib.hid hyk
  clear hs hs2 hf hf2 hzk hyk
  obtain ⟨i0, hi, hz0, hz1, hz2⟩ := info_parts info_i64
  go_enter Try.func79, Try.ntmps79
  go_wp2_with fail
  go_loopw [7, 8] (fun v i wr => ∃ (j : Nat) (a' : Option Addr) (l' c' : Nat), j ≤ len ∧ i = .int .i64 j ∧ v = .slice a' l' c' ∧ Own .i64 3 wr W.heap.size wr.heap.size a' l' c' ((combL zs ys k).take j) ∧ Below W.heap.size W wr) (fun _ i _ => len - (intOf i).toNat)
  case atStart => exact ⟨0, _, _, _, Nat.zero_le _, rfl, rfl, (own_nil _ _ _).wide (Nat.le_refl _) (by simp) (Nat.le_refl _), (Below.refl _ _).alloc (Nat.le_refl _) _⟩
  case round =>
    obtain ⟨j, a', l', c', hj, rfl, rfl, ho, hb⟩ := hrel
    have HO := Lib.hid ho
    have HB := Lib.hid hb
    have hsz := hb.size
    have hl' : l' ≤ 1073741824 := by have h := ho.1; rw [List.length_take, combL_len, HL.out] at h; have := Nat.min_le_left j len; omega
    by_cases hlt : j < len
    · rcases HS.out.2.2 with h0 | ⟨b1, o1, rfl, hb1, hcell1⟩
      · omega
      · rcases HS2.out.2.2 with h0 | ⟨b2, o2, rfl, hb2, hcell2⟩
        · omega
        · have c1 := (hb.cell (p := ⟨b1, o1 + j, none⟩) hb1).trans (hcell1 j hlt)
          have c2 := (hb.cell (p := ⟨b2, o2 + k, none⟩) hb2).trans (hcell2 k hk)
          have c3 := (hb.cell (p := ⟨b2, o2 + j, none⟩) hb2).trans (hcell2 j hlt)
          have c4 := (hb.cell (p := ⟨b1, o1 + k, none⟩) hb1).trans (hcell1 k hk)
          obtain ⟨f1, f2, f3, f4⟩ := comb_fit (HF.out j) (HF2.out j) HYK.out HZK.out
          have HN := Lib.hid (combL_next (p := ys) (k := k) (j := j) (a := zs) (by rw [HL.out]; exact hlt))
          obtain ⟨x, hx⟩ : ∃ x, x = vec zs j := ⟨_, rfl⟩
          obtain ⟨u, hu⟩ : ∃ u, u = vec ys k := ⟨_, rfl⟩
          obtain ⟨y, hy⟩ : ∃ y, y = vec ys j := ⟨_, rfl⟩
          obtain ⟨t, ht⟩ : ∃ t, t = vec zs k := ⟨_, rfl⟩
          rw [show zs.getD j 0 = x from hx.symm] at c1
          rw [show ys.getD k 0 = u from hu.symm] at c2
          rw [show ys.getD j 0 = y from hy.symm] at c3
          rw [show zs.getD k 0 = t from ht.symm] at c4
          rw [← hx, ← hu] at f1
          rw [← hy, ← ht] at f2
          rw [← hx, ← hu, ← hy, ← ht] at f3 f4 HN
          obtain ⟨m1, e1⟩ : ∃ m, x * u = m := ⟨_, rfl⟩
          obtain ⟨m2, e2⟩ : ∃ m, y * t = m := ⟨_, rfl⟩
          obtain ⟨r, e3⟩ : ∃ r, m1 - m2 = r := ⟨_, rfl⟩
          rw [e1] at f1 f3 f4 HN
          rw [e2] at f2 f3 f4 HN
          rw [e3] at f3 f4 HN
          have w1 : IntKind.i64.wrap (x * u) = m1 := by rw [e1]; exact IntWalk.i64_in _ (by omega)
          have w2 : IntKind.i64.wrap (y * t) = m2 := by rw [e2]; exact IntWalk.i64_in _ (by omega)
          have w3 : IntKind.i64.wrap (m1 - m2) = r := by rw [e3]; exact IntWalk.i64_in _ (by omega)
          have hj0 : (0 : Int) ≤ (j : Int) := Int.natCast_nonneg _
          have hk0 : (0 : Int) ≤ (k : Int) := Int.natCast_nonneg _
          have hji : (j : Int) < (len : Int) := by omega
          have hki : (k : Int) < (len : Int) := by omega
          clear hcell1 hcell2 ho hb hx hu hy ht e1 e2 e3 f1 f2
          go_wp2_with fail
          go_region_held3 (fun w' => w'.cell? ⟨b1, o1 + j, none⟩ = some (.int .i64 x) ∧ w'.cell? ⟨b2, o2 + k, none⟩ = some (.int .i64 u) ∧ w'.cell? ⟨b2, o2 + j, none⟩ = some (.int .i64 y) ∧ w'.cell? ⟨b1, o1 + k, none⟩ = some (.int .i64 t)) (go_keep) (first
            | (refine step_append_sees rfl _ _ 25 rfl 3 i0 .i64 8 Try.underlying25 hi hz0 hz1 hz2 _ _ _ _ rfl _ _ ((HO.out.alloc _).below (Below.refl _ _).drew) _ 1 1 [r] rfl ((sees_one (WalkArith.wf_i64 (by omega)) _ _).below (Below.refl _ _).drew) (by unfold maxLen; omega) (by omega) (by simp; omega) ?_; intro a4 len4 cap4 w4 hlen4 ho4 hm4; have hbb := hm4.below (B := W.heap.size) (Nat.le_refl _) (by simp; omega); have k1 : w4.cell? ⟨b1, o1 + j, none⟩ = some (.int .i64 x) := (hbb.cell (p := ⟨b1, o1 + j, none⟩) hb1).trans (by rw [World.cell?_drew, World.cell?_alloc_past _ _ _ (by omega)]; exact c1); have k2 : w4.cell? ⟨b2, o2 + k, none⟩ = some (.int .i64 u) := (hbb.cell (p := ⟨b2, o2 + k, none⟩) hb2).trans (by rw [World.cell?_drew, World.cell?_alloc_past _ _ _ (by omega)]; exact c2); have k3 : w4.cell? ⟨b2, o2 + j, none⟩ = some (.int .i64 y) := (hbb.cell (p := ⟨b2, o2 + j, none⟩) hb2).trans (by rw [World.cell?_drew, World.cell?_alloc_past _ _ _ (by omega)]; exact c3); have k4 : w4.cell? ⟨b1, o1 + k, none⟩ = some (.int .i64 t) := (hbb.cell (p := ⟨b1, o1 + k, none⟩) hb1).trans (by rw [World.cell?_drew, World.cell?_alloc_past _ _ _ (by omega)]; exact c4); clear hlen4 hbb; have HO4 := Lib.hid ho4; have HM4 := Lib.hid hm4; clear ho4 hm4))
          go_wp2
          go_roundw
          case rel => exact ⟨j + 1, _, _, _, by omega, by go_num, rfl, by rw [← HN.out]; exact HO4.out, below_moved ((HB.out.alloc hsz _).drew) HM4.out (Nat.le_refl _) (Nat.le_refl _)⟩
          case measure => simp [intOf]; omega
    · have HE : Hid ((combL zs ys k).take j = combL zs ys k) := Lib.hid (List.take_of_length_le (by rw [combL_len, HL.out]; omega))
      have HLL : Hid (l' = len) := Lib.hid (by have h := ho.1; rw [HE.out, combL_len, HL.out] at h; omega)
      clear ho hb
      go_wp2_with (go_at_call 93; refine (specTidy_any _ a' l' c' (combL zs ys k) hl' (by have h := HO.out.sees; rw [HE.out] at h; exact h) (combL_fit HF.out HF2.out HZK.out HYK.out)).mono ?_; rintro e w' ⟨a5, l5, c5, rfl, ho5, hb5⟩; have HO5 := Lib.hid (ho5.wide (lo2 := W.heap.size) hsz (Nat.le_refl _) (Nat.le_refl _)); have HB5 := Lib.hid (below_up HB.out hb5 (Nat.le_refl _)); clear ho5 hb5)
      go_ret
      exact ⟨_, _, _, rfl, HO5.out, HB5.out⟩
end Go.Proofs.Ytedkeobhcpbigaa
/- How the program makes a row tidy in place. -/
namespace Go.Proofs.Ytedkeobhcpbigaa
open Go.RowKit
theorem startV_lead {zs : List Int} (h : leadL zs < zs.length) : startV zs = (leadL zs : Int) := by unfold startV; rw [if_neg (by omega)]
theorem startV_none {zs : List Int} (h : leadL zs = zs.length) : startV zs = -1 := by unfold startV; rw [if_pos h]
set_option maxRecDepth 20000 in
set_option maxHeartbeats 1600000 in
theorem shorten_any (W : World) (lo hi : Nat) (a : Option Addr) (len cap : Nat) (zs : List Int) (hl : len ≤ 1073741824) (ho : Own .i64 3 W lo hi a len cap zs) (hf : Fit 4000000000000000000 zs) :
    Calls Try.prog 89 #[.slice a len cap] W fun e w' => e = .returned (.tuple #[]) ∧ Own .i64 3 w' lo hi a len cap (tidyL zs) ∧ Moved lo hi W w' := by
  have HO0 := Lib.hid ho
  have HS := Lib.hid ho.sees
  have HL := Lib.hid ho.1
  have HF := Lib.hid hf
  clear ho hf
  rcases Nat.lt_or_eq_of_le (leadL_le zs) with hlz | hlz
  · have HSV := Lib.hid (startV_lead hlz)
    rcases HO0.out.spot with ⟨_, h0, _⟩ | ⟨g, rfl, hg1, hg2, _, _, hcell, _⟩
    · have := HL.out
      omega
    have hgW : g < W.heap.size := Nat.lt_of_lt_of_le hg2 HO0.out.2.2.1
    have HC := Lib.hid hcell
    obtain ⟨l, hl2⟩ : ∃ l : Nat, l = leadL zs := ⟨_, rfl⟩
    have hll : l < len := by rw [hl2, ← HL.out]; exact hlz
    obtain ⟨y, hy⟩ : ∃ y, y = zs.getD l 0 := ⟨_, rfl⟩
    have hyv : y = vec zs (leadL zs) := by rw [hy, ← hl2]; rfl
    have hy0 : y ≠ 0 := by rw [hyv]; exact leadL_at hlz
    obtain ⟨d, hd⟩ : ∃ d, d = divL zs := ⟨_, rfl⟩
    have hd0 : d ≠ 0 := by rw [hd]; exact divL_ne hlz
    have HXD : Hid (d = if y < 0 then -(gcdN len (vec zs) : Int) else (gcdN len (vec zs) : Int)) := Lib.hid (by rw [hd, hyv, ← HL.out]; rfl)
    have HY := Lib.hid hy
    have HD := Lib.hid hd
    have HLZ := Lib.hid hlz
    rw [← hl2] at HSV
    clear hcell hl2 hyv hd hy hlz
    go_enter Try.func89, Try.ntmps89
    go_wp2_with (go_at_call 63; refine (startOf_any _ _ _ _ zs hl HS.out).mono ?_; rw [HSV.out]; rintro e w' ⟨rfl, rfl⟩)
    go_loopw [3, 13, 5] (fun v i _ wr => ∃ (k : Nat) (x : Int), k ≤ len ∧ i = .int .i64 k ∧ v = .int .i64 x ∧ 0 ≤ x ∧ x ≤ 4000000000000000000 ∧ Hid (x = (gcdN k (vec zs) : Int)) ∧ Below W.heap.size W wr) (fun _ i _ _ => len - (intOf i).toNat)
    case atStart => exact ⟨0, 0, Nat.zero_le _, rfl, rfl, by decide, by decide, Lib.hid rfl, Below.refl _ _⟩
    case round =>
      obtain ⟨k, x, hk, rfl, rfl, hx0, hx1, HX, hb⟩ := hrel
      have HB0 := Lib.hid hb
      by_cases hlt : k < len
      · have hc := (hb.cell (p := ⟨g, k, none⟩) hgW).trans (HC.out k hlt)
        have hfb := HF.out k
        obtain ⟨y2, hy2⟩ : ∃ y, y = zs.getD k 0 := ⟨_, rfl⟩
        rw [← hy2] at hc
        rw [show vec zs k = y2 from hy2.symm] at hfb
        obtain ⟨hb0, hb1⟩ := hfb
        obtain ⟨gg, hg⟩ : ∃ g : Int, g = (Int.gcd x y2 : Int) := ⟨_, rfl⟩
        have HG : Hid (gg = (gcdN (k + 1) (vec zs) : Int)) := Lib.hid (by rw [hg, HX.out, gcdN, hy2]; rfl)
        have hg0 : 0 ≤ gg := by omega
        have hg1 : gg ≤ 4000000000000000000 := by rw [HG.out]; exact HF.out.gcd (by decide) _
        have HGE := Lib.hid hg
        clear hb hy2 hg
        go_wp2_with (go_at_call 99; refine (prgGcd_any x y2 _ (by omega) hx1 hb0 hb1).mono ?_; rw [← HGE.out]; rintro e w3 ⟨rfl, hb3⟩; have HB3 := Lib.hid (below_up HB0.out hb3 (Nat.le_refl _)); clear hb3)
        go_roundw
        case rel => exact ⟨k + 1, gg, by omega, by go_num, rfl, hg0, hg1, HG, HB3.out⟩
        case measure => simp [intOf]; omega
      · obtain rfl : k = len := by omega
        have HB : Hid (Moved lo hi W wr) := Lib.hid (Moved.of_below hb)
        have HO1 := Lib.hid (HO0.out.below hb)
        have hc := (hb.cell (p := ⟨g, l, none⟩) hgW).trans (HC.out l hll)
        rw [← HY.out] at hc
        have HXE : Hid (d = if y < 0 then -x else x) := Lib.hid (by rw [HX.out]; exact HXD.out)
        clear hb
        by_cases hyn : y < 0
        · have HXF : Hid (d = -x) := Lib.hid (by rw [HXE.out, if_pos hyn])
          go_wp2_with fail
          rw [← HXF.out]
          go_loopw [30, 6] (fun i _ wr2 => ∃ j : Nat, j ≤ k ∧ i = .int .i64 j ∧ Own .i64 3 wr2 lo hi (some ⟨g, 0, none⟩) k cap (over (tidyL zs) zs j) ∧ Moved lo hi W wr2) (fun i _ _ => k - (intOf i).toNat)
          case atStart => exact ⟨0, Nat.zero_le _, rfl, by rw [over_zero]; exact HO1.out, HB.out⟩
          case round =>
            obtain ⟨j, hj, rfl, ho, hb⟩ := hrel
            have HO := Lib.hid ho
            have HBB := Lib.hid hb
            by_cases hjl : j < k
            · have hsp := ho.spot
              rcases hsp with ⟨hx, _⟩ | ⟨g', hg', _, _, _, _, hcs, hfz⟩
              · cases hx
              · cases hg'
                have hcd := hcs j hjl
                have hfd := hfz j
                rw [over_ahead (by rw [tidyL_len]) (by rw [HL.out]; exact hjl)] at hcd
                have hzb := HF.out j
                obtain ⟨z, hz⟩ : ∃ z, z = zs.getD j 0 := ⟨_, rfl⟩
                rw [← hz] at hcd
                rw [show vec zs j = z from hz.symm] at hzb
                obtain ⟨hz0', hz1'⟩ := hzb
                have hqb := tdiv_fit (g := d) hz0' hz1'
                obtain ⟨q, hq⟩ : ∃ q, z.tdiv d = q := ⟨_, rfl⟩
                have HN : Hid ((tidyL zs).getD j 0 = q) := Lib.hid (by
                  show vec (tidyL zs) j = q
                  unfold tidyL
                  rw [if_neg (by have := HLZ.out; omega), vec_mapL (by rw [HL.out]; exact hjl), ← HD.out, ← hq, hz]
                  rfl)
                rw [hq] at hqb
                obtain ⟨hq0, hq1⟩ := hqb
                clear hcs hfz ho hb hz
                go_wp2
                go_roundw
                case rel =>
                  have hst := HO.out.stored j q (WalkArith.wf_i64 (by omega))
                  have e := over_set (tidyL zs) zs j (by rw [tidyL_len]) (by rw [tidyL_len, HL.out]; exact hjl)
                  rw [HN.out] at e
                  rw [e] at hst
                  exact ⟨j + 1, by omega, by go_num, hst.1, HBB.out.trans hst.2⟩
                case measure => simp [intOf]; omega
            · clear ho hb
              obtain rfl : j = k := by omega
              go_wp2
              refine bodyPost_end (results_none rfl _ _ _) rfl ?_
              have h := HO.out
              have e : over (tidyL zs) zs j = tidyL zs := by
                have := over_all (tidyL zs) zs (by rw [tidyL_len])
                rwa [tidyL_len, HL.out] at this
              rw [e] at h
              exact ⟨rfl, h, HBB.out⟩
        · have HXF : Hid (d = x) := Lib.hid (by rw [HXE.out, if_neg hyn])
          go_wp2_with fail
          rw [← HXF.out]
          go_loopw [30, 6] (fun i _ wr2 => ∃ j : Nat, j ≤ k ∧ i = .int .i64 j ∧ Own .i64 3 wr2 lo hi (some ⟨g, 0, none⟩) k cap (over (tidyL zs) zs j) ∧ Moved lo hi W wr2) (fun i _ _ => k - (intOf i).toNat)
          case atStart => exact ⟨0, Nat.zero_le _, rfl, by rw [over_zero]; exact HO1.out, HB.out⟩
          case round =>
            obtain ⟨j, hj, rfl, ho, hb⟩ := hrel
            have HO := Lib.hid ho
            have HBB := Lib.hid hb
            by_cases hjl : j < k
            · have hsp := ho.spot
              rcases hsp with ⟨hx, _⟩ | ⟨g', hg', _, _, _, _, hcs, hfz⟩
              · cases hx
              · cases hg'
                have hcd := hcs j hjl
                have hfd := hfz j
                rw [over_ahead (by rw [tidyL_len]) (by rw [HL.out]; exact hjl)] at hcd
                have hzb := HF.out j
                obtain ⟨z, hz⟩ : ∃ z, z = zs.getD j 0 := ⟨_, rfl⟩
                rw [← hz] at hcd
                rw [show vec zs j = z from hz.symm] at hzb
                obtain ⟨hz0', hz1'⟩ := hzb
                have hqb := tdiv_fit (g := d) hz0' hz1'
                obtain ⟨q, hq⟩ : ∃ q, z.tdiv d = q := ⟨_, rfl⟩
                have HN : Hid ((tidyL zs).getD j 0 = q) := Lib.hid (by
                  show vec (tidyL zs) j = q
                  unfold tidyL
                  rw [if_neg (by have := HLZ.out; omega), vec_mapL (by rw [HL.out]; exact hjl), ← HD.out, ← hq, hz]
                  rfl)
                rw [hq] at hqb
                obtain ⟨hq0, hq1⟩ := hqb
                clear hcs hfz ho hb hz
                go_wp2
                go_roundw
                case rel =>
                  have hst := HO.out.stored j q (WalkArith.wf_i64 (by omega))
                  have e := over_set (tidyL zs) zs j (by rw [tidyL_len]) (by rw [tidyL_len, HL.out]; exact hjl)
                  rw [HN.out] at e
                  rw [e] at hst
                  exact ⟨j + 1, by omega, by go_num, hst.1, HBB.out.trans hst.2⟩
                case measure => simp [intOf]; omega
            · clear ho hb
              obtain rfl : j = k := by omega
              go_wp2
              refine bodyPost_end (results_none rfl _ _ _) rfl ?_
              have h := HO.out
              have e : over (tidyL zs) zs j = tidyL zs := by
                have := over_all (tidyL zs) zs (by rw [tidyL_len])
                rwa [tidyL_len, HL.out] at this
              rw [e] at h
              exact ⟨rfl, h, HBB.out⟩
  · have HSV := Lib.hid (startV_none hlz)
    have HE : Hid (tidyL zs = zs) := Lib.hid (by unfold tidyL; rw [if_pos hlz])
    clear hlz
    go_enter Try.func89, Try.ntmps89
    go_wp2_with (go_at_call 63; refine (startOf_any _ _ _ _ zs hl HS.out).mono ?_; rw [HSV.out]; rintro e w' ⟨rfl, rfl⟩)
    refine bodyPost_ret (results_none rfl _ _ _) rfl ?_
    rw [HE.out]
    exact ⟨rfl, HO0.out, Moved.refl _ _ _⟩
end Go.Proofs.Ytedkeobhcpbigaa
/- How the program clears a column of a row in place. -/
namespace Go.Proofs.Ytedkeobhcpbigaa
open Go.RowKit
set_option maxRecDepth 20000 in
set_option maxHeartbeats 1600000 in
theorem clearCol_any (W : World) (lo hi : Nat) (a : Option Addr) (len cap : Nat) (b : Option Addr) (cb : Nat) (zs ys : List Int) (k : Nat) (hl : len ≤ 1073741824) (hk : k < len) (ho : Own .i64 3 W lo hi a len cap zs) (hs2 : Sees .i64 W b len ys) (hne : ∀ x, b = some x → ¬ (lo ≤ x.block ∧ x.block < hi))
    (hf : Fit 2000000000 zs) (hf2 : Fit 2000000000 ys) (hzk : -1000000000 ≤ vec zs k ∧ vec zs k ≤ 1000000000) (hyk : -1000000000 ≤ vec ys k ∧ vec ys k ≤ 1000000000) :
    Calls Try.prog 73 #[.slice a len cap, .slice b len cb, .int .i64 (k : Int)] W fun e w' => e = .returned (.tuple #[]) ∧ Own .i64 3 w' lo hi a len cap (clearL zs ys k) ∧ Moved lo hi W w' := by
  have HO0 := Lib.hid ho
  have HS := Lib.hid ho.sees
  have HS2 := Lib.hid hs2
  have HL := Lib.hid ho.1
  have HF := Lib.hid hf
  have HF2 := Lib.hid hf2
  have HZK := Lib.hid hzk
  have HYK := Lib.hid hyk
  rcases ho.spot with ⟨_, h0, _⟩ | ⟨g, rfl, hg1, hg2, _, _, hcell, _⟩
  · omega
  rcases hs2.2.2 with h0 | ⟨b2, o2, rfl, hb2, hcell2⟩
  · omega
  have hgW : g < W.heap.size := Nat.lt_of_lt_of_le hg2 ho.2.2.1
  have HNE := Lib.hid (hne _ rfl)
  have HC2 := Lib.hid hcell2
  have c1 := hcell k hk
  have c2 := hcell2 k hk
  obtain ⟨t, ht⟩ : ∃ t, t = vec zs k := ⟨_, rfl⟩
  obtain ⟨u, hu⟩ : ∃ u, u = vec ys k := ⟨_, rfl⟩
  rw [show zs.getD k 0 = t from ht.symm] at c1
  rw [show ys.getD k 0 = u from hu.symm] at c2
  have HT := Lib.hid ht
  have HU := Lib.hid hu
  have hk0 : (0 : Int) ≤ (k : Int) := Int.natCast_nonneg _
  have hki : (k : Int) < (len : Int) := by omega
  clear ho hs2 hf hf2 hzk hyk hcell hcell2 ht hu hne
  go_enter Try.func73, Try.ntmps73
  go_wp2_with fail
  go_quiet (fail)
  go_wp2_with fail
  go_loopw [19, 8] (fun i _ wr => ∃ j : Nat, j ≤ len ∧ i = .int .i64 j ∧ Own .i64 3 wr lo hi (some ⟨g, 0, none⟩) len cap (over (combL zs ys k) zs j) ∧ Moved lo hi W wr) (fun i _ _ => len - (intOf i).toNat)
  case atStart => exact ⟨0, Nat.zero_le _, rfl, by rw [over_zero]; exact HO0.out.below (below_drewN0 _ _ _), Moved.drewN _ _ _ _⟩
  case round =>
    obtain ⟨j, hj, rfl, ho, hb⟩ := hrel
    have HO := Lib.hid ho
    have HB := Lib.hid hb
    by_cases hjl : j < len
    · have hsp := ho.spot
      rcases hsp with ⟨hx, _⟩ | ⟨g', hg', _, _, _, _, hcs, hfz⟩
      · cases hx
      · cases hg'
        have hcd := hcs j hjl
        have hfd := hfz j
        rw [over_ahead (by rw [combL_len]) (by rw [HL.out]; exact hjl)] at hcd
        have hcy := (World.cell?_of_block (w := W) (a := ⟨b2, o2 + j, none⟩) (hb.block b2 hb2 HNE.out)).trans (HC2.out j hjl)
        obtain ⟨f1, f2, f3, f4⟩ := comb_fit (HF.out j) (HF2.out j) HYK.out HZK.out
        obtain ⟨x, hx⟩ : ∃ x, x = vec zs j := ⟨_, rfl⟩
        obtain ⟨y, hy⟩ : ∃ y, y = vec ys j := ⟨_, rfl⟩
        rw [show zs.getD j 0 = x from hx.symm] at hcd
        rw [show ys.getD j 0 = y from hy.symm] at hcy
        rw [← hx, ← HU.out, Int.mul_comm x u] at f1
        rw [← hy, ← HT.out, Int.mul_comm y t] at f2
        rw [← hx, ← hy, ← HU.out, ← HT.out, Int.mul_comm x u, Int.mul_comm y t] at f3 f4
        obtain ⟨m1, e1⟩ : ∃ m, u * x = m := ⟨_, rfl⟩
        obtain ⟨m2, e2⟩ : ∃ m, t * y = m := ⟨_, rfl⟩
        obtain ⟨r, e3⟩ : ∃ r, m1 - m2 = r := ⟨_, rfl⟩
        rw [e1] at f1 f3 f4
        rw [e2] at f2 f3 f4
        rw [e3] at f3 f4
        have w1 : IntKind.i64.wrap (u * x) = m1 := by rw [e1]; exact IntWalk.i64_in _ (by omega)
        have w2 : IntKind.i64.wrap (t * y) = m2 := by rw [e2]; exact IntWalk.i64_in _ (by omega)
        have w3 : IntKind.i64.wrap (m1 - m2) = r := by rw [e3]; exact IntWalk.i64_in _ (by omega)
        have HN : Hid ((combL zs ys k).getD j 0 = r) := Lib.hid (by
          show vec (combL zs ys k) j = r
          rw [combL_at (by rw [HL.out]; exact hjl), ← e3, ← e1, ← e2, hx, hy, HU.out, HT.out, Int.mul_comm (vec ys k), Int.mul_comm (vec zs k)])
        have hj0 : (0 : Int) ≤ (j : Int) := Int.natCast_nonneg _
        have hji : (j : Int) < (len : Int) := by omega
        clear hcs hfz ho hb hx hy e1 e2 e3 f1 f2
        go_wp2_with fail
        go_region_with (fail)
        all_goals (go_wp2)
        all_goals
          go_roundw
          case rel =>
            have hst := (HO.out.below (Below.refl _ _).drew).stored j r (WalkArith.wf_i64 (by omega))
            have e := over_set (combL zs ys k) zs j (by rw [combL_len]) (by rw [combL_len, HL.out]; exact hjl)
            rw [HN.out] at e
            rw [e] at hst
            exact ⟨j + 1, by omega, by go_num, hst.1, (HB.out.trans (Moved.drewN _ _ _ 1)).trans hst.2⟩
          case measure => simp [intOf]; omega
    · clear ho hb
      obtain rfl : j = len := by omega
      have e : over (combL zs ys k) zs j = combL zs ys k := by
        have := over_all (combL zs ys k) zs (by rw [combL_len])
        rwa [combL_len, HL.out] at this
      have HE := Lib.hid e
      clear e
      go_wp2_with (go_at_call 89; refine (shorten_any _ lo hi _ j cap (combL zs ys k) hl (by have h := HO.out; rw [HE.out] at h; exact h) (combL_fit HF.out HF2.out HZK.out HYK.out)).mono ?_; rintro e w' ⟨rfl, ho5, hb5⟩; have HO5 := Lib.hid ho5; have HB5 := Lib.hid hb5; clear ho5 hb5)
      go_end0
      exact ⟨rfl, HO5.out, HB.out.trans HB5.out⟩
end Go.Proofs.Ytedkeobhcpbigaa
