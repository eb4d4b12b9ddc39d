/- UsefulRows and DelayOf, the model's. -/
import Derived.Test.YtedkeobhcpbigaaToM
import Derived.Test.YtedkeobhcpbigaaDotS
namespace Go.Proofs.Ytedkeobhcpbigaa
open Go.RowKit
theorem row_takeO {ms : List (List Int)} {i r : Nat} (h : r < i) : row (ms.take i) r = row ms r := by simp [row, List.getD, h]
theorem seesM_takeO {w : World} {a : Option Addr} {len : Nat} {ms : List (List Int)} (h : SeesM w a len ms) {i : Nat} (hi : i ≤ len) : SeesM w a i (ms.take i) := by
  refine ⟨by rw [List.length_take, h.1]; omega, fun r hr => ?_⟩
  obtain ⟨b, off, ar, cr, h1, h2, h3, h4, h5, h6⟩ := h.2 r (by omega)
  rw [row_takeO hr]
  exact ⟨b, off, ar, cr, h1, h2, h3, h4, h5, h6⟩
theorem tot_takeO {ms : List (List Int)} {i : Nat} : ∀ j, j ≤ i → tot (ms.take i) j = tot ms j
  | 0, _ => rfl
  | j + 1, h => by rw [tot, tot, tot_takeO j (by omega), row_takeO (by omega)]
theorem smallM_takeO {ms : List (List Int)} (h : SmallM ms) {i : Nat} (hi : i ≤ ms.length) : SmallM (ms.take i) := by
  unfold SmallM at h ⊢
  rw [List.length_take, Nat.min_eq_left hi, tot_takeO i (Nat.le_refl _)]
  have := tot_mono ms hi
  omega
set_option maxRecDepth 20000 in
set_option maxHeartbeats 3200000 in
theorem specUsef_any (W : World) (a : Option Addr) (len cap : Nat) (ms : List (List Int)) (cols : Int) (hsm : SmallM ms) (hn : -9223372036854775808 ≤ cols) (hm : cols ≤ 9223372036854775807) (hs : SeesM W a len ms) (hcl : len ≤ cap) :
    Calls Try.prog 36 #[.slice a len cap, .int .i64 cols] W (Made .i64 3 (usefV ms cols) W) := by
  have HS := Lib.hid hs
  have HM := Lib.hid hsm
  have hlen := hs.1
  subst hlen
  have HO0 := Lib.hid ((own_nil .i64 3 W).wide (lo2 := W.heap.size) (hi2 := (W.alloc (.cells #[] 3)).heap.size) (Nat.le_refl _) (by simp) (Nat.le_refl _))
  have HB0 := Lib.hid ((Below.refl W.heap.size W).alloc (Nat.le_refl _) (.cells #[] 3))
  obtain ⟨i0, hi, hz0, hz1, hz2⟩ := info_parts info_i64
  have hl20 : ms.length ≤ 1048576 := by unfold SmallM at hsm; omega
  clear hs hsm
  cases h1 : isMat ms cols
  · have H1 := Lib.hid h1
    have HE : Hid (usefV ms cols = []) := Lib.hid (by unfold usefV; rw [h1]; rfl)
    clear h1
    go_enter Try.func36, Try.ntmps36
    go_wp2_with fail
    go_loopw [5, 6] (fun v s wr => ∃ (a' : Option Addr) (c' : Nat), s = .int .i64 0 ∧ v = .slice a' 0 c' ∧ Own .i64 3 wr W.heap.size wr.heap.size a' 0 c' [] ∧ Below W.heap.size W wr) (fun _ _ _ => 0)
    case atStart => exact ⟨_, _, rfl, rfl, HO0.out, HB0.out⟩
    case round =>
      obtain ⟨a', c', rfl, rfl, ho, hb⟩ := hrel
      have HO := Lib.hid ho
      have HB := Lib.hid hb
      clear ho hb
      by_cases hpos : 0 < ms.length
      · have hpi : (0 : Int) < (ms.length : Int) := by omega
        go_wp2_with (first | (go_at_call 54; refine (specIsM_any _ a ms.length cap ms cols HM.out hn hm (HS.out.below HB.out)).mono ?_; rw [H1.out]; rintro e w1 ⟨rfl, hb1⟩; have HO1 := Lib.hid (HO.out.below hb1); have hsz := hb1.size; have HB1 := Lib.hid (below_up HB.out hb1 (Nat.le_refl _)); clear hb1))
        go_ret
        exact ⟨_, _, _, rfl, by rw [HE.out]; exact HO1.out.wide (Nat.le_refl _) hsz (Nat.le_refl _), HB1.out⟩
      · have hpi : ¬ (0 : Int) < (ms.length : Int) := by omega
        go_wp2
        go_ret
        exact ⟨_, _, _, rfl, by rw [HE.out]; exact HO.out, HB.out⟩
  · have H1 := Lib.hid h1
    have h12 := (isMat_true h1).2.1
    have HE : Hid (usefV ms cols = usefK ms ms.length) := Lib.hid (by unfold usefV; rw [if_pos h1])
    clear h1
    go_enter Try.func36, Try.ntmps36
    go_wp2_with fail
    go_loopw [5, 6] (fun v s wr => ∃ (k l' : Nat) (a' : Option Addr) (c' : Nat), k ≤ ms.length ∧ l' ≤ k ∧ s = .int .i64 k ∧ v = .slice a' l' c' ∧ Own .i64 3 wr W.heap.size wr.heap.size a' l' c' (usefK ms k) ∧ Below W.heap.size W wr) (fun _ s _ => ms.length - (intOf s).toNat)
    case atStart => exact ⟨0, 0, _, _, Nat.zero_le _, Nat.zero_le _, rfl, rfl, HO0.out, HB0.out⟩
    case round =>
      obtain ⟨k, l', a', c', hk, hl', rfl, rfl, ho, hb⟩ := hrel
      have HO := Lib.hid ho
      have HB := Lib.hid hb
      by_cases hlt : k < ms.length
      · obtain ⟨b, off, ar, cr, rfl, hbl, hrc, hq1, hq2, hq3⟩ := HS.out.2 k hlt
        obtain ⟨z, hz⟩ : ∃ z, z = row ms k := ⟨_, rfl⟩
        rw [← hz] at hrc hq1 hq3
        have hzl : z.length ≤ 1048576 := by rw [hz]; have := HM.out.row hlt; omega
        have HZ := Lib.hid hz
        obtain ⟨t, ht⟩ : ∃ t, inSpanV (ms.take k) z = t := ⟨_, rfl⟩
        have HT := Lib.hid ht
        have HN : Hid (usefK ms (k + 1) = if t = true then usefK ms k else usefK ms k ++ [(k : Int)]) := Lib.hid (by rw [usefK, ← hz, ht])
        have HKW : Hid ((Lit.int .i64 (k : Int)).wf = true) := Lib.hid (WalkArith.wf_i64 (by omega))
        have HQ := Lib.hid hq3
        have HRC := Lib.hid (And.intro hrc hbl)
        have k00 : (0 : Int) ≤ (k : Int) := by omega
        have k01 : (k : Int) < (ms.length : Int) := by omega
        have k02 : (k : Int) ≤ (cap : Int) := by omega
        clear ho hb hz ht hrc hq3
        go_wp2_with (first
          | (go_at_call 54; refine (specIsM_any _ _ ms.length cap ms _ HM.out hn hm (HS.out.below HB.out)).mono ?_; rw [H1.out]; rintro e w1 ⟨rfl, hb1⟩; have HO1 := Lib.hid (HO.out.below hb1); have hsz1 := hb1.size; have HB1 := Lib.hid (below_up HB.out hb1 (Nat.le_refl _)); clear hb1))
        have hc1 := (HB1.out.cell (p := ⟨b, off + k, none⟩) HRC.out.2).trans HRC.out.1
        have hbl1 : b < w1.heap.size := Nat.lt_of_lt_of_le hbl HB1.out.size
        go_region_held3 (fun w' => w'.cell? ⟨b, off + k, none⟩ = some (.slice ar z.length cr)) (go_keep) (first
          | (go_at_call 55; refine (specSpan_any _ (some ⟨b, off, none⟩) k cap (ms.take k) ar z.length cr z (smallM_takeO HM.out (Nat.le_of_lt hlt)) (seesM_takeO ((HS.out.below HB1.out).below (Below.refl _ _).drew) (Nat.le_of_lt hlt)) (by omega) hq1 hq2 ((HQ.out.below HB1.out).below (Below.refl _ _).drew)).mono ?_; rw [HT.out]; rintro e w3 ⟨rfl, hb3⟩; have hb3 := below_up (Below.refl w1.heap.size w1).drew hb3 (Nat.le_refl _); have HO3 := Lib.hid (HO1.out.below hb3); have hsz3 := hb3.size; have HB3 := Lib.hid (below_up HB1.out hb3 (Nat.le_refl _)); have hc1 := (hb3.cell (p := ⟨b, off + k, none⟩) hbl1).trans hc1; clear hb3))
        cases t
        · go_wp2_with (first
            | (at_builtin; refine wp_append_sees rfl _ _ 25 rfl 3 i0 .i64 8 Try.underlying25 hi hz0 hz1 hz2 _ _ _ _ rfl _ _ (HO3.out.alloc _) _ _ _ _ rfl (sees_one (x := (k : Int)) HKW.out _ _) (by unfold maxLen; omega) (by omega) (by have := HB3.out.size; simp; omega) ?_; intro b4 len4 cap4 w4 hlen4 ho4 hm4; subst hlen4; have HO4 := Lib.hid ho4; have HM4 := Lib.hid hm4; clear ho4 hm4))
          go_roundw
          case rel => exact ⟨k + 1, l' + 1, _, _, by omega, by omega, by go_num, rfl, by rw [HN.out]; exact HO4.out, below_moved (HB3.out.alloc HB3.out.size _) HM4.out (Nat.le_refl _) (Nat.le_refl _)⟩
          case measure => simp [intOf]; omega
        · go_wp2_with fail
          go_roundw
          case rel => exact ⟨k + 1, l', _, _, by omega, by omega, by go_num, rfl, by rw [HN.out]; exact HO3.out.wide (Nat.le_refl _) (by omega) (Nat.le_refl _), HB3.out⟩
          case measure => simp [intOf]; omega
      · obtain rfl : k = ms.length := by omega
        go_wp2
        go_ret
        exact ⟨_, _, _, rfl, by rw [HE.out]; exact ho, hb⟩
/-- The delay of a link, if it follows. -/
def delV (ms : List (List Int)) (vs : List Int) (k n : Int) : Option (Int × Int) := if (unitV k n).length = 0 then none else valR ms vs (unitV k n)
set_option maxRecDepth 20000 in
set_option maxHeartbeats 1600000 in
theorem specDel_any (W : World) (a : Option Addr) (len cap : Nat) (ms : List (List Int)) (b : Option Addr) (lb cb : Nat) (vs : List Int) (k n : Int) (hk0 : -9223372036854775808 ≤ k) (hk1 : k ≤ 9223372036854775807) (hsm : SmallM ms) (hs : SeesM W a len ms) (hl : lb ≤ 1073741824) (hs2 : Sees .i64 W b lb vs) (r : Option (Int × Int)) (hr : r = delV ms vs k n) :
    Calls Try.prog 32 #[.slice a len cap, .slice b lb cb, .int .i64 k, .int .i64 n] W (RatRes (dN r) (dD r) r.isSome W) := by
  obtain ⟨V, hV⟩ : ∃ V, V = W.alloc (.cells #[.int .i64 0, .int .i64 0] 30) := ⟨_, rfl⟩
  have hBV : Below W.heap.size W V := by rw [hV]; exact (Below.refl _ _).alloc (Nat.le_refl _) _
  have HRV := Lib.hid (show PairAt V W.heap.size 0 0 by rw [hV]; exact pair_new _ _ _ _)
  have HS := Lib.hid (hs.below hBV)
  have HS2 := Lib.hid (hs2.below hBV)
  have HM := Lib.hid hsm
  have HBV := Lib.hid hBV
  have HV := Lib.hid hV
  have HRR := Lib.hid hr
  have hul := unitV_len k n
  obtain ⟨us, hus⟩ : ∃ us, us = unitV k n := ⟨_, rfl⟩
  have HUS := Lib.hid hus
  rw [← hus] at hul
  clear hs hs2 hsm hBV hV hr hus
  go_enter Try.func32, Try.ntmps32
  go_wp2_with fail
  rw [← HV.out]
  go_at_call 22
  refine (specUnit_any V k n hk0 hk1).mono ?_
  rw [← HUS.out]
  rintro e w2 ⟨a2, l2, c2, rfl, ho2, hb2⟩
  have hl2 : us.length = l2 := ho2.1
  have hl26 : l2 ≤ 6 := by omega
  have HU2 := Lib.hid ho2
  have HR2 := Lib.hid (HRV.out.below hb2)
  have HB2 := Lib.hid (below_up HBV.out hb2 (Nat.le_refl _))
  have HS22 := Lib.hid (HS2.out.below hb2)
  have HSM2 := Lib.hid (HS.out.below hb2)
  clear ho2 hb2
  by_cases h0 : l2 = 0
  · have HN : Hid (r = none) := Lib.hid (by rw [HRR.out]; unfold delV; rw [← HUS.out, if_pos (by omega)])
    have r0 := HR2.out.c0
    have r1 := HR2.out.c1
    have rf0 := HR2.out.f0
    have rf1 := HR2.out.f1
    have h0i : (l2 : Int) = 0 := by omega
    clear hl2
    subst h0
    go_wp2
    refine bodyPost_ret (v := .tuple #[.agg #[.int .i64 0, .int .i64 0], .bool false]) (by simp [results, Try.results32, go_sem, r0, r1]) rfl ?_
    rw [HN.out]
    exact ⟨rfl, Below.setCell (Below.setCell HB2.out (Nat.le_refl _) _) (Nat.le_refl _) _⟩
  · have HN : Hid (r = valR ms vs us) := Lib.hid (by rw [HRR.out]; unfold delV; rw [← HUS.out, if_neg (by omega)])
    have h0i : ¬ (l2 : Int) = 0 := by omega
    have h0b : ((l2 : Int) == 0) = false := by simp; omega
    go_wp2_with fail
    go_at_call 56
    refine (specVal_any w2 a len cap ms b lb cb vs a2 l2 c2 us HM.out HSM2.out hl HS22.out (by omega) HU2.out.cap HU2.out.capMax HU2.out.sees r HN.out).mono ?_
    rintro e w3 ⟨rfl, hb3⟩
    have HR3 := Lib.hid (HR2.out.below hb3)
    have HB3 := Lib.hid (below_up HB2.out hb3 (Nat.le_refl _))
    have r0 := HR3.out.c0
    have r1 := HR3.out.c1
    have rf0 := HR3.out.f0
    have rf1 := HR3.out.f1
    clear hb3
    go_wp2
    refine bodyPost_ret (v := .tuple #[.agg #[.int .i64 (dN r), .int .i64 (dD r)], .bool r.isSome]) (by simp [results, Try.results32, go_sem, r0, r1]) rfl ?_
    exact ⟨rfl, Below.setCell (Below.setCell HB3.out (Nat.le_refl _) _) (Nat.le_refl _) _⟩
end Go.Proofs.Ytedkeobhcpbigaa
