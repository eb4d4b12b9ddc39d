/- Where a row begins, and how the model makes it tidy. -/
import Derived.Test.YtedkeobhcpbigaaRedA
import Derived.Test.YtedkeobhcpbigaaSlA
import Derived.Test.YtedkeobhcpbigaaRatA
import Derived.IntWalk
namespace Go.Proofs.Ytedkeobhcpbigaa
open Go.RowKit
/-- Numbers whose products and differences stay far from the machine's ends. -/
def Fit (B : Int) (z : List Int) : Prop := ∀ j, -B ≤ vec z j ∧ vec z j ≤ B
theorem over_ahead {ys zs : List Int} {k : Nat} (hl : ys.length = zs.length) (hk : k < zs.length) : (over ys zs k).getD k 0 = zs.getD k 0 := by
  unfold over List.getD
  rw [List.getElem?_append_right (by simp; omega)]
  simp only [List.length_take, Nat.min_eq_left (show k ≤ ys.length by omega), Nat.sub_self, List.getElem?_drop, Nat.add_zero]
theorem gcdN_fit {n : Nat} {v : Nat → Int} {B : Nat} (h : ∀ j, j < n → (v j).natAbs ≤ B) : gcdN n v ≤ B := by
  induction n with
  | zero => exact Nat.zero_le _
  | succ n ih =>
    have h1 := ih fun j hj => h j (by omega)
    have h2 := h n (Nat.lt_succ_self n)
    rw [gcdN]
    by_cases h0 : gcdN n v = 0
    · rw [h0]
      simpa using h2
    · exact Nat.le_trans (Nat.le_of_dvd (by omega) (Int.natCast_dvd_natCast.1 (Int.gcd_dvd_left (gcdN n v : Int) (v n)))) h1
theorem Fit.gcd {B : Int} {z : List Int} (h : Fit B z) (hB : 0 ≤ B) (n : Nat) : (gcdN n (vec z) : Int) ≤ B := by
  have := gcdN_fit (n := n) (v := vec z) (B := B.toNat) (fun j _ => by have := h j; omega)
  omega
theorem tdiv_fit {z g B : Int} (h0 : -B ≤ z) (h1 : z ≤ B) : -B ≤ z.tdiv g ∧ z.tdiv g ≤ B := by
  have := Int.natAbs_tdiv_le_natAbs z g
  omega
theorem Fit.tidy {B : Int} {z : List Int} (h : Fit B z) : Fit B (tidyL z) := by
  intro j
  rcases Nat.lt_or_ge j z.length with hj | hj
  · unfold tidyL
    split
    · exact h j
    · rw [vec_mapL hj]
      exact tdiv_fit (h j).1 (h j).2
  · rw [vec_beyond (by rw [tidyL_len]; exact hj), ← vec_beyond hj]
    exact h j
theorem Fit.up {B C : Int} {z : List Int} (h : Fit B z) (hc : B ≤ C) : Fit C z := fun j => by have := h j; omega
theorem specLead_any (W : World) (a : Option Addr) (len cap : Nat) (zs : List Int) (hl : len ≤ 1073741824) (hs : Sees .i64 W a len zs) :
    Calls Try.prog 78 #[.slice a len cap] W fun e w' => e = .returned (.int .i64 (leadL zs : Int)) ∧ W = w' := by
  have HS := Lib.hid hs
  have HL := Lib.hid hs.1
  clear hs
  obtain ⟨v, hv⟩ : ∃ v : Int, v = (leadL zs : Int) := ⟨_, rfl⟩
  rw [← hv]
  have HV := Lib.hid hv
  clear hv
  go_enter Try.func78, Try.ntmps78
  go_wp2
  go_loop [3] (fun i => ∃ k : Nat, k ≤ len ∧ i = .int .i64 k ∧ Hid (∀ j, j < k → vec zs j = 0)) (fun i => len - (intOf i).toNat)
  case atStart => exact ⟨0, Nat.zero_le _, rfl, Lib.hid (fun j hj => by omega)⟩
  case round =>
    obtain ⟨k, hk, rfl, HZ⟩ := hrel
    by_cases hlt : k < len
    · rcases HS.out.2.2 with h0 | ⟨b, off, rfl, hbB, hcell⟩
      · omega
      · have hc := hcell k hlt
        obtain ⟨x, hx⟩ : ∃ x, x = zs.getD k 0 := ⟨_, rfl⟩
        rw [← hx] at hc
        have HX := Lib.hid hx
        clear hcell hx
        by_cases h0 : x = 0
        · subst h0
          go_wp2
          go_round
          case rel => exact ⟨k + 1, by omega, by go_num, Lib.hid (fun j hj => by rcases Nat.lt_or_eq_of_le (Nat.lt_succ_iff.1 hj) with h | h; exact HZ.out j h; subst h; exact HX.out.symm)⟩
          case measure => simp [intOf]; omega
        · have HE : Hid (v = k) := Lib.hid (by rw [HV.out, leadL_eq (p := k) (by rw [HL.out]; omega) HZ.out (.inr (by rw [← show x = vec zs k from HX.out]; exact h0))])
          go_wp2
          go_ret
          exact ⟨ret_intV HE.out.symm, rfl⟩
    · obtain rfl : k = len := by omega
      have HE : Hid (v = k) := Lib.hid (by rw [HV.out, leadL_eq (p := k) (by rw [HL.out]; omega) HZ.out (.inl HL.out.symm)])
      go_wp2
      go_ret
      exact ⟨ret_intV HE.out.symm, rfl⟩
set_option maxRecDepth 20000 in
set_option maxHeartbeats 1600000 in
theorem specTidy_any (W : World) (a : Option Addr) (len cap : Nat) (zs : List Int) (hl : len ≤ 1073741824) (hs : Sees .i64 W a len zs) (hf : Fit 4000000000000000000 zs) :
    Calls Try.prog 93 #[.slice a len cap] W (Made .i64 3 (tidyL zs) W) := by
  have HS := Lib.hid hs
  have HL := Lib.hid hs.1
  have HF := Lib.hid hf
  clear hs hf
  obtain ⟨i0, hi, hz0, hz1, hz2⟩ := info_parts info_i64
  go_enter Try.func93, Try.ntmps93
  go_wp2_with fail
  go_loop [3, 4] (fun g i => ∃ (k : Nat) (x : Int), k ≤ len ∧ i = .int .i64 k ∧ g = .int .i64 x ∧ 0 ≤ x ∧ x ≤ 4000000000000000000 ∧ Hid (x = (gcdN k (vec zs) : Int))) (fun _ i => len - (intOf i).toNat)
  case atStart => exact ⟨0, 0, Nat.zero_le _, rfl, rfl, by decide, by decide, Lib.hid rfl⟩
  case round =>
    obtain ⟨k, x, hk, rfl, rfl, hx0, hx1, HX⟩ := hrel
    by_cases hlt : k < len
    · rcases HS.out.2.2 with h0 | ⟨b, off, rfl, hbB, hcell⟩
      · omega
      · have hc := hcell k hlt
        have hb := HF.out k
        obtain ⟨y, hy⟩ : ∃ y, y = zs.getD k 0 := ⟨_, rfl⟩
        rw [← hy] at hc
        rw [show vec zs k = y from hy.symm] at hb
        obtain ⟨hb0, hb1⟩ := hb
        obtain ⟨g, hg⟩ : ∃ g : Int, g = (Int.gcd x y : Int) := ⟨_, rfl⟩
        have HG : Hid (g = (gcdN (k + 1) (vec zs) : Int)) := Lib.hid (by rw [hg, HX.out, gcdN, hy]; rfl)
        have hg0 : 0 ≤ g := by omega
        have hg1 : g ≤ 4000000000000000000 := by rw [HG.out]; exact HF.out.gcd (by decide) _
        have HGE := Lib.hid hg
        clear hcell hy hg
        go_wp2_with (go_at_call 101; refine (specGcd_any x y _ (by omega) hx1 hb0 hb1).mono ?_; rw [← HGE.out]; rintro e w' ⟨rfl, rfl⟩)
        go_round
        case rel => exact ⟨k + 1, g, by omega, by go_num, rfl, hg0, hg1, HG⟩
        case measure => simp [intOf]; omega
    · obtain rfl : k = len := by omega
      obtain ⟨l, hl2⟩ : ∃ l : Nat, l = leadL zs := ⟨_, rfl⟩
      have hlle : l ≤ k := by rw [hl2, ← HL.out]; exact leadL_le zs
      have HLL := Lib.hid hl2
      by_cases hll : l = k
      · have HE : Hid ([] ++ zs = tidyL zs) := Lib.hid (by rw [List.nil_append]; unfold tidyL; rw [if_pos (by rw [HL.out, ← hl2]; exact hll)])
        subst hll
        clear hl2
        go_wp2_with (first
          | (at_builtin; refine wp_append_sees rfl _ _ 25 rfl 3 i0 .i64 8 Try.underlying25 hi hz0 hz1 hz2 _ _ _ _ rfl _ _ (own_nil _ _ _) _ _ _ _ rfl (HS.out.alloc _) (by unfold maxLen; omega) (by omega) (by simp) ?_; intro a2 len2 cap2 w2 hlen2 ho2 hm2; rw [Nat.zero_add] at hlen2; replace hlen2 := hlen2.symm; subst hlen2; have HO2 := Lib.hid (ho2.wide (lo2 := W.heap.size) (Nat.le_refl _) (Nat.le_refl _) (Nat.le_refl _)); have HB2 := Lib.hid (below_moved ((Below.refl W.heap.size W).alloc (Nat.le_refl _) _) hm2 (Nat.le_refl _) (Nat.le_refl _)); clear ho2 hm2)
          | (go_at_call 78; refine (specLead_any _ _ _ _ zs (by omega) (HS.out.below HB2.out)).mono ?_; rw [← HLL.out]; rintro e w' ⟨rfl, rfl⟩))
        go_ret
        have h := HO2.out
        rw [HE.out] at h
        exact ⟨_, _, _, rfl, h, HB2.out⟩
      · have hlz : leadL zs < zs.length := by rw [HL.out, ← hl2]; omega
        rcases HS.out.2.2 with h0 | ⟨b, off, rfl, hbB, hcell⟩
        · omega
        · have HC := Lib.hid hcell
          have HBB := Lib.hid hbB
          obtain ⟨y, hy⟩ : ∃ y, y = zs.getD l 0 := ⟨_, rfl⟩
          have hyv : y = vec zs (leadL zs) := by rw [hy, ← hl2]; rfl
          have hy0 : y ≠ 0 := by rw [hyv]; exact leadL_at hlz
          obtain ⟨d, hd⟩ : ∃ d, d = divL zs := ⟨_, rfl⟩
          have hd0 : d ≠ 0 := by rw [hd]; exact divL_ne hlz
          have hxd : d = if y < 0 then -x else x := by rw [hd, hyv, HX.out, ← HL.out]; rfl
          have HY := Lib.hid hy
          have HD := Lib.hid hd
          have HLZ := Lib.hid hlz
          clear hcell hbB hl2 hyv hd hy hlz
          have hbo := HBB.out
          obtain ⟨neg, hneg⟩ : ∃ c : Bool, c = decide (y < 0) := ⟨_, rfl⟩
          cases neg
          · have hyn : 0 < y := by have := of_decide_eq_false hneg.symm; omega
            rw [if_neg (by omega)] at hxd
            clear hneg
            have HXD := Lib.hid hxd
            clear hxd
            go_wp2_with (first
              | (at_builtin; refine wp_append_sees rfl _ _ 25 rfl 3 i0 .i64 8 Try.underlying25 hi hz0 hz1 hz2 _ _ _ _ rfl _ _ (own_nil _ _ _) _ _ _ _ rfl (HS.out.alloc _) (by unfold maxLen; omega) (by omega) (by simp) ?_; intro a2 len2 cap2 w2 hlen2 ho2 hm2; rw [Nat.zero_add] at hlen2; replace hlen2 := hlen2.symm; subst hlen2; have HO2 := Lib.hid (ho2.wide (lo2 := W.heap.size) (Nat.le_refl _) (Nat.le_refl _) (Nat.le_refl _)); have HB2 := Lib.hid (below_moved ((Below.refl W.heap.size W).alloc (Nat.le_refl _) _) hm2 (Nat.le_refl _) (Nat.le_refl _)); clear ho2 hm2; have hc2 := (HB2.out.cell (p := ⟨b, off + l, none⟩) HBB.out).trans (HC.out l (by omega)); rw [← HY.out] at hc2)
              | (go_at_call 78; refine (specLead_any _ _ _ _ zs (by omega) (HS.out.below HB2.out)).mono ?_; rw [← HLL.out]; rintro e w' ⟨rfl, rfl⟩))
            rw [← HXD.out]
            go_loopw [7] (fun i wr => ∃ j : Nat, j ≤ k ∧ i = .int .i64 j ∧ Own .i64 3 wr W.heap.size w2.heap.size a2 k cap2 (over (tidyL zs) zs j) ∧ Below W.heap.size W wr) (fun i _ => k - (intOf i).toNat)
            case atStart => exact ⟨0, Nat.zero_le _, rfl, by rw [over_zero]; exact HO2.out, HB2.out⟩
            case round =>
              obtain ⟨j, hj, rfl, ho, hb⟩ := hrel
              have HO := Lib.hid ho
              have HB := Lib.hid hb
              by_cases hjl : j < k
              · have hsp := ho.spot
                rcases hsp with ⟨_, hx, _⟩ | ⟨g, rfl, hgl, hgh, _, _, hcs, hfz⟩
                · omega
                · have hcd := hcs j hjl
                  have hfd := hfz j
                  rw [over_ahead (by rw [tidyL_len]) (by rw [HL.out]; exact hjl)] at hcd
                  have hzb := HF.out j
                  obtain ⟨z, hz⟩ : ∃ z, z = zs.getD j 0 := ⟨_, rfl⟩
                  rw [← hz] at hcd
                  rw [show vec zs j = z from hz.symm] at hzb
                  obtain ⟨hz0', hz1'⟩ := hzb
                  have hqb := tdiv_fit (g := d) hz0' hz1'
                  obtain ⟨q, hq⟩ : ∃ q, z.tdiv d = q := ⟨_, rfl⟩
                  have HN : Hid ((tidyL zs).getD j 0 = q) := Lib.hid (by
                    show vec (tidyL zs) j = q
                    unfold tidyL
                    rw [if_neg (by have := HLZ.out; omega), vec_mapL (by rw [HL.out]; exact hjl), ← HD.out, ← hq, hz]
                    rfl)
                  rw [hq] at hqb
                  obtain ⟨hq0, hq1⟩ := hqb
                  clear hcs hfz ho hb hz
                  go_wp2
                  go_roundw
                  case rel =>
                    have hst := HO.out.stored j q (WalkArith.wf_i64 (by omega))
                    have e := over_set (tidyL zs) zs j (by rw [tidyL_len]) (by rw [tidyL_len, HL.out]; exact hjl)
                    rw [HN.out] at e
                    rw [e] at hst
                    exact ⟨j + 1, by omega, by go_num, hst.1, below_moved HB.out hst.2 (Nat.le_refl _) (Nat.le_refl _)⟩
                  case measure => simp [intOf]; omega
              · clear ho hb
                obtain rfl : j = k := by omega
                go_wp2
                go_ret
                have h := HO.out
                have e : over (tidyL zs) zs j = tidyL zs := by
                  have := over_all (tidyL zs) zs (by rw [tidyL_len])
                  rwa [tidyL_len, HL.out] at this
                rw [e] at h
                exact ⟨_, _, _, rfl, h.wide (Nat.le_refl _) h.2.2.1 (Nat.le_refl _), HB.out⟩
          · have hyn : y < 0 := of_decide_eq_true hneg.symm
            rw [if_pos hyn] at hxd
            clear hneg
            have HXD := Lib.hid hxd
            clear hxd
            go_wp2_with (first
              | (at_builtin; refine wp_append_sees rfl _ _ 25 rfl 3 i0 .i64 8 Try.underlying25 hi hz0 hz1 hz2 _ _ _ _ rfl _ _ (own_nil _ _ _) _ _ _ _ rfl (HS.out.alloc _) (by unfold maxLen; omega) (by omega) (by simp) ?_; intro a2 len2 cap2 w2 hlen2 ho2 hm2; rw [Nat.zero_add] at hlen2; replace hlen2 := hlen2.symm; subst hlen2; have HO2 := Lib.hid (ho2.wide (lo2 := W.heap.size) (Nat.le_refl _) (Nat.le_refl _) (Nat.le_refl _)); have HB2 := Lib.hid (below_moved ((Below.refl W.heap.size W).alloc (Nat.le_refl _) _) hm2 (Nat.le_refl _) (Nat.le_refl _)); clear ho2 hm2; have hc2 := (HB2.out.cell (p := ⟨b, off + l, none⟩) HBB.out).trans (HC.out l (by omega)); rw [← HY.out] at hc2)
              | (go_at_call 78; refine (specLead_any _ _ _ _ zs (by omega) (HS.out.below HB2.out)).mono ?_; rw [← HLL.out]; rintro e w' ⟨rfl, rfl⟩))
            rw [← HXD.out]
            go_loopw [7] (fun i wr => ∃ j : Nat, j ≤ k ∧ i = .int .i64 j ∧ Own .i64 3 wr W.heap.size w2.heap.size a2 k cap2 (over (tidyL zs) zs j) ∧ Below W.heap.size W wr) (fun i _ => k - (intOf i).toNat)
            case atStart => exact ⟨0, Nat.zero_le _, rfl, by rw [over_zero]; exact HO2.out, HB2.out⟩
            case round =>
              obtain ⟨j, hj, rfl, ho, hb⟩ := hrel
              have HO := Lib.hid ho
              have HB := Lib.hid hb
              by_cases hjl : j < k
              · have hsp := ho.spot
                rcases hsp with ⟨_, hx, _⟩ | ⟨g, rfl, hgl, hgh, _, _, hcs, hfz⟩
                · omega
                · have hcd := hcs j hjl
                  have hfd := hfz j
                  rw [over_ahead (by rw [tidyL_len]) (by rw [HL.out]; exact hjl)] at hcd
                  have hzb := HF.out j
                  obtain ⟨z, hz⟩ : ∃ z, z = zs.getD j 0 := ⟨_, rfl⟩
                  rw [← hz] at hcd
                  rw [show vec zs j = z from hz.symm] at hzb
                  obtain ⟨hz0', hz1'⟩ := hzb
                  have hqb := tdiv_fit (g := d) hz0' hz1'
                  obtain ⟨q, hq⟩ : ∃ q, z.tdiv d = q := ⟨_, rfl⟩
                  have HN : Hid ((tidyL zs).getD j 0 = q) := Lib.hid (by
                    show vec (tidyL zs) j = q
                    unfold tidyL
                    rw [if_neg (by have := HLZ.out; omega), vec_mapL (by rw [HL.out]; exact hjl), ← HD.out, ← hq, hz]
                    rfl)
                  rw [hq] at hqb
                  obtain ⟨hq0, hq1⟩ := hqb
                  clear hcs hfz ho hb hz
                  go_wp2
                  go_roundw
                  case rel =>
                    have hst := HO.out.stored j q (WalkArith.wf_i64 (by omega))
                    have e := over_set (tidyL zs) zs j (by rw [tidyL_len]) (by rw [tidyL_len, HL.out]; exact hjl)
                    rw [HN.out] at e
                    rw [e] at hst
                    exact ⟨j + 1, by omega, by go_num, hst.1, below_moved HB.out hst.2 (Nat.le_refl _) (Nat.le_refl _)⟩
                  case measure => simp [intOf]; omega
              · clear ho hb
                obtain rfl : j = k := by omega
                go_wp2
                go_ret
                have h := HO.out
                have e : over (tidyL zs) zs j = tidyL zs := by
                  have := over_all (tidyL zs) zs (by rw [tidyL_len])
                  rwa [tidyL_len, HL.out] at this
                rw [e] at h
                exact ⟨_, _, _, rfl, h.wide (Nat.le_refl _) h.2.2.1 (Nat.le_refl _), HB.out⟩
end Go.Proofs.Ytedkeobhcpbigaa
