/- One pass over the rows that wait, the program's. -/
import Derived.Test.YthcinjlghhfhmaaBdP3
namespace Go.Proofs.Ythcinjlghhfhmaa
open Go.RowKit
theorem idle_link {ms : List (List Int)} {ls p : List (Int × Int)} {vs : List Bool} {i j : Nat} {N D : Int} (hb : ∀ r, r < ms.length → (row ms r).getD j 0 = 0 ∨ (row ms r).getD j 0 = 1) (hw : vs.length = ms.length) (hi : (row ms i).getD j 0 = 1) (hj : j < p.length)
    (hN : N = narLo (row ms i) (iv ls i) p j) (hD : D = narHi (row ms i) (iv ls i) p j) (h : IdleAt ms ls p vs i j) : IdleAt ms ls (p.set j (N, D)) (keptOr N D (iv p j).1 (iv p j).2 vs (wakeV ms j vs ms.length)) i (j + 1) := by
  unfold keptOr
  by_cases e : N = (iv p j).1 ∧ D = (iv p j).2
  · rw [if_pos e]
    have e2 : p.set j (N, D) = p := by
      rw [e.1, e.2]
      exact set_iv hj
    rw [e2]
    exact idle_keep h (fun _ => ⟨hN ▸ e.1, hD ▸ e.2⟩)
  · rw [if_neg e]
    exact idle_wake hb hw hi h
theorem kept_len {N D a b : Int} {vs us : List Bool} {n : Nat} (h1 : vs.length = n) (h2 : us.length = n) : (keptOr N D a b vs us).length = n := by
  unfold keptOr
  split
  · exact h1
  · exact h2
/-- What a pass leaves. -/
def Passed (W w : World) (B g lc cc h ld cd : Nat) (ms : List (List Int)) (ls xs : List (Int × Int)) (n : Nat) (e : Ending) (w' : World) : Prop :=
  Moved W.heap.size B w w' ∧ ((e = .returned (.bool false) ∧ allR ms ls xs n = none) ∨
    ∃ xs' ws', e = .returned (.bool true) ∧ allR ms ls xs n = some xs' ∧ Idle ms ls xs' ws' ∧ OwnV w' g (g + 1) (some ⟨g, 0, none⟩) lc cc xs' ∧ OwnG 4 w' h (h + 1) (some ⟨h, 0, none⟩) ld cd (bv ws'))
set_option maxRecDepth 20000 in
set_option maxHeartbeats 6400000 in
theorem passP_any (W w : World) (B : Nat) (a : Option Addr) (len cap : Nat) (b : Option Addr) (lb cb g lc cc h ld cd : Nat) (ms : List (List Int)) (ls xs : List (Int × Int)) (ws : List Bool) (hb : Below W.heap.size W w) (hs : SeesM W a len ms) (hsl : SeesV W b lb ls) (hc : NwC w B a len cap b lb cb g lc cc h ld cd)
    (hov : OwnV w g (g + 1) (some ⟨g, 0, none⟩) lc cc xs) (how : OwnG 4 w h (h + 1) (some ⟨h, 0, none⟩) ld cd (bv ws)) (hld : ld = len) (hlb : lb = len) (hgW : W.heap.size ≤ g) (hhW : W.heap.size ≤ h) (hgB : g < B) (hhB : h < B) (hgh : g ≠ h)
    (hbd : bndV ms ls lc = true) (hok : ivsOk xs = true) (hid : Idle ms ls xs ws) :
    Calls Try.prog 63 #[.pointer (some ⟨B, 0, none⟩)] w (Passed W w B g lc cc h ld cd ms ls xs len) := by
  have hml := hs.1
  have hmt := isMat_true (bnd_true hbd).2.2.1
  have hl12 : len ≤ 12 := by omega
  have h6 : lc ≤ 6 := by omega
  have HROW : Hid (∀ i, i < len → (row ms i).length = lc) := Lib.hid (fun i hi => (bnd_row hbd (by omega)).1)
  have HBIT : Hid (∀ i, i < ms.length → ∀ k, k < lc → (row ms i).getD k 0 = 0 ∨ (row ms i).getD k 0 = 1) := Lib.hid (fun i hi => (bnd_row hbd hi).2)
  have hlsl := hsl.1
  have HLOK : Hid (∀ i, i < len → 0 ≤ (iv ls i).1 ∧ (iv ls i).1 ≤ (iv ls i).2 ∧ (iv ls i).2 ≤ 100000) := Lib.hid (fun i hi => ivsOk_true.1 (bnd_true hbd).2.1 i (by omega))
  have HXL := Lib.hid hov.1
  have HML := Lib.hid hml
  have HS := Lib.hid hs
  have HSL := Lib.hid hsl
  have HC := Lib.hid hc
  have HOV := Lib.hid hov
  have HOW := Lib.hid how
  have HB := Lib.hid hb
  have HOK := Lib.hid hok
  have HID := Lib.hid hid
  have HWL : Hid (ws.length = len) := Lib.hid (by have := how.1; simp [bv] at this; omega)
  have HLY := Lib.hid (And.intro hgW (And.intro hhW (And.intro hgB (And.intro hhB hgh))))
  have c0 := hc.c0
  have hlt := hc.lt
  subst hlb
  have HE := Lib.hid hld
  subst hld
  clear hmt hbd hlsl hml hs hsl hc hov how hb hok hid
  go_enter Try.func63, Try.ntmps63
  go_wp2
  go_loopw [12, 3, 4, 5, 6] (fun s12 _ _ _ _ wr => ∃ (i : Nat) (q : List (Int × Int)) (us : List Bool), i ≤ ld ∧ s12 = .int .i64 i ∧ Hid (allR ms ls xs i = some q) ∧ Hid (Idle ms ls q us) ∧ Hid (OwnV wr g (g + 1) (some ⟨g, 0, none⟩) lc cc q) ∧ Hid (OwnG 4 wr h (h + 1) (some ⟨h, 0, none⟩) ld cd (bv us)) ∧ Hid (Moved W.heap.size B w wr)) (fun s12 _ _ _ _ _ => ld - (intOf s12).toNat)
  case atStart => exact ⟨0, xs, ws, Nat.zero_le _, rfl, Lib.hid rfl, HID, HOV, HOW, Lib.hid (Moved.refl _ _ _)⟩
  case round =>
    clear HOV HOW HID c0
    obtain ⟨i, q, us, hi', rfl, HQ, HID, HOV, HOW, HM⟩ := hrel
    have HBW := Lib.hid (below_moved HB.out HM.out (Nat.le_refl _) (Nat.le_refl _))
    obtain ⟨V, rfl⟩ : ∃ V, V = wr := ⟨_, rfl⟩
    by_cases hil : i < ld
    · have him : i < ms.length := by rw [HML.out]; exact hil
      have HCV := Lib.hid (HC.out.moved HM.out (by omega))
      have c0 := HCV.out.c0
      have c3 := HCV.out.c3
      obtain ⟨b1, o1, ar, cr, rfl, hbl, hcr, _, _, hsr⟩ := HS.out.2 i hil
      have hrow := (HBW.out.cell (p := ⟨b1, o1 + i, none⟩) hbl).trans hcr
      obtain ⟨z, hz⟩ : ∃ z, z = row ms i := ⟨_, rfl⟩
      have hzl : z.length = lc := by rw [hz]; exact HROW.out i hil
      rw [← hz] at hrow hsr
      have HZ := Lib.hid hz
      have HZL := Lib.hid hzl
      have HSR := Lib.hid hsr
      have husl : us.length = ld := by have := HOW.out.1; simp [bv] at this; exact this
      obtain ⟨hx, hfz⟩ := HOW.out.cells i hil
      rw [bv_at (by rw [husl]; exact hil)] at hx
      have HUL := Lib.hid husl
      have i0 : (0 : Int) ≤ (i : Int) := by omega
      have i1 : (i : Int) < (ld : Int) := by omega
      have hqn := all_narrow HOK.out i q HQ.out
      have HQK : Hid (ivsOk q = true ∧ q.length = lc) := Lib.hid ⟨hqn.2.1, hqn.1.trans HXL.out⟩
      have HNX : Hid (allR ms ls xs (i + 1) = rowK z (iv ls i) (some q) lc) := Lib.hid (by rw [← HXL.out, hz, ← HQ.out]; rfl)
      clear hz hzl hsr hcr husl hqn
      cases hwt : wt us i
      · have HNX2 : Hid (allR ms ls xs (i + 1) = some q) := Lib.hid (by rw [HNX.out, HZ.out]; have := idle_row HQK.out.1 HID.out him hwt; rw [HQK.out.2] at this; exact this)
        rw [hwt] at hx
        clear hwt hfz
        go_wp2
        go_roundw
        case rel => exact ⟨i + 1, q, us, by omega, by go_num, HNX2, HID, HOV, HOW, HM⟩
        case measure => simp [intOf]; omega
      · rw [hwt] at hx
        have HST := Lib.hid (HOW.out.stored i (.bool false) rfl)
        obtain ⟨V2, hV2⟩ : ∃ V2, V2 = V.setCell ⟨h, i, none⟩ (.bool false) := ⟨_, rfl⟩
        have hm2 : Moved h (h + 1) V V2 := by rw [hV2]; exact HST.out.2
        have HOW2 : Hid (OwnG 4 V2 h (h + 1) (some ⟨h, 0, none⟩) ld cd (bv (us.set i false))) := Lib.hid (by rw [hV2, ← bv_set]; exact HST.out.1)
        have HOV2 := Lib.hid (HOV.out.moved hm2 (by have := HLY.out; omega))
        have HM2 : Hid (Moved W.heap.size B w V2) := Lib.hid (HM.out.trans (moved_one hm2 HLY.out.2.1 HLY.out.2.2.2.1))
        have HID2 := Lib.hid (idle_start (i := i) HID.out)
        have HVS := Lib.hid hV2
        clear hwt HST hm2 hV2 HOW HOV HM HID HBW
        go_wp2_with fail
        rw [← HVS.out]
        clear HVS hx hfz c0 c3 hrow HCV
        go_loopw [33, 5, 6] (fun s33 _ _ wr => ∃ (j : Nat) (p : List (Int × Int)) (vs : List Bool), j ≤ z.length ∧ s33 = .int .i64 j ∧ Hid (rowK z (iv ls i) (some q) j = some p) ∧ Hid (IdleAt ms ls p vs i j) ∧ Hid (OwnV wr g (g + 1) (some ⟨g, 0, none⟩) lc cc p) ∧ Hid (OwnG 4 wr h (h + 1) (some ⟨h, 0, none⟩) ld cd (bv vs)) ∧ Hid (Moved W.heap.size B w wr)) (fun s33 _ _ _ => z.length - (intOf s33).toNat)
        case atStart => exact ⟨0, q, _, Nat.zero_le _, rfl, Lib.hid rfl, HID2, HOV2, HOW2, HM2⟩
        case round =>
          clear HOV2 HOW2 HM2 HID2
          obtain ⟨j, p, vs, hj', rfl, HP, HIA, HOV, HOW, HM⟩ := hrel
          have HBW := Lib.hid (below_moved HB.out HM.out (Nat.le_refl _) (Nat.le_refl _))
          obtain ⟨V3, rfl⟩ : ∃ V3, V3 = wr := ⟨_, rfl⟩
          by_cases hjl : j < z.length
          · have hjc : j < lc := by rw [← HZL.out]; exact hjl
            obtain ⟨b2, o2, rfl, hb2, hcz⟩ : ∃ b2 o2, ar = some ⟨b2, o2, none⟩ ∧ b2 < W.heap.size ∧ W.cell? ⟨b2, o2 + j, none⟩ = some (.int .i64 (z.getD j 0)) := by
              rcases HSR.out.2.2 with h0 | ⟨b2, o2, e, hb2, hcz⟩
              · omega
              · exact ⟨b2, o2, e, hb2, hcz j (by omega)⟩
            have hzz := (HBW.out.cell (p := ⟨b2, o2 + j, none⟩) hb2).trans hcz
            obtain ⟨c, hcx⟩ : ∃ c, c = z.getD j 0 := ⟨_, rfl⟩
            rw [← hcx] at hzz
            have HCX := Lib.hid hcx
            have j0 : (0 : Int) ≤ (j : Int) := by omega
            have j1 : (j : Int) < (z.length : Int) := by omega
            have HST : Hid (rowK z (iv ls i) (some q) (j + 1) = cellK z (iv ls i) j p) := Lib.hid (by simp only [rowK, HP.out]; rfl)
            have hpn := row_narrow HQK.out.1 j (by rw [HQK.out.2]; omega) p HP.out
            have HPK : Hid (ivsOk p = true ∧ p.length = lc) := Lib.hid ⟨hpn.2.1, hpn.1.trans HQK.out.2⟩
            have HVL : Hid (vs.length = ms.length) := Lib.hid (by have := HOW.out.1; simp [bv] at this; rw [HML.out]; exact this)
            clear hcx hcz hpn
            by_cases hc1 : c = 1
            · obtain ⟨N, hN⟩ : ∃ n, n = narLo z (iv ls i) p j := ⟨_, rfl⟩
              obtain ⟨D, hD⟩ : ∃ n, n = narHi z (iv ls i) p j := ⟨_, rfl⟩
              have HN := Lib.hid hN
              have HD := Lib.hid hD
              have hz1 : z.getD j 0 = 1 := by rw [← HCX.out]; exact hc1
              have HZ1 := Lib.hid hz1
              have HCV := Lib.hid (HC.out.moved HM.out (by omega))
              have HLINK := Lib.hid (linkP_any W V3 B (some ⟨b1, o1, none⟩) ld cap b ld cb g lc cc h ld cd ms ls p vs i j hl12 HBW.out HS.out HSL.out HCV.out HOV.out HOW.out rfl rfl HLY.out.1 HLY.out.2.1 HLY.out.2.2.1 HLY.out.2.2.2.1 HLY.out.2.2.2.2 HROW.out hil hjc h6 HPK.out.1 (HLOK.out i hil) N D (by rw [← HZ.out]; exact hN) (by rw [← HZ.out]; exact hD))
              have HIL := Lib.hid (idle_link (N := N) (D := D) (ms := ms) (ls := ls) (p := p) (vs := vs) (i := i) (j := j) (fun r hr => HBIT.out r hr j hjc) HVL.out (by rw [← HZ.out]; exact hz1) (by rw [HPK.out.2]; exact hjc) (by rw [← HZ.out]; exact hN) (by rw [← HZ.out]; exact hD) HIA.out)
              subst hc1
              clear hN hD hz1
              by_cases hDN : D < N
              · have hd : decide (N ≤ D) = false := decide_eq_false (by omega)
                have HDD := Lib.hid hd
                have HNONE : Hid (allR ms ls xs ld = none) := Lib.hid (all_stop10 (i := i + 1) (by rw [HNX.out]; exact row_stop (k := j + 1) (by rw [HST.out]; exact cell_out (by rw [HZ1.out]; omega) (by rw [← HN.out, ← HD.out]; exact hDN)) lc hjc) ld hil)
                clear hd
                go_wp2_with (go_at_call 77; refine HLINK.out.mono ?_; rw [HDD.out]; rintro e w5 ⟨rfl, _, _, hm5⟩; have HM5 := Lib.hid (HM.out.trans hm5); clear hm5)
                go_ret
                exact ⟨HM5.out, .inl ⟨rfl, HNONE.out⟩⟩
              · have hd : decide (N ≤ D) = true := decide_eq_true (by omega)
                have HDD := Lib.hid hd
                have HPS : Hid (rowK z (iv ls i) (some q) (j + 1) = some (p.set j (N, D))) := Lib.hid (by rw [HST.out, HN.out, HD.out]; exact cell_in (by rw [HZ1.out]; omega) (by rw [← HN.out, ← HD.out]; exact hDN))
                clear hd
                go_wp2_with (go_at_call 77; refine HLINK.out.mono ?_; rw [HDD.out]; rintro e w5 ⟨rfl, ho5, hg5, hm5⟩; have HM5 := Lib.hid (HM.out.trans hm5); have HO5 := Lib.hid ho5; have HG5 := Lib.hid hg5; clear hm5 ho5 hg5)
                go_roundw
                case rel => exact ⟨j + 1, p.set j (N, D), _, by omega, by go_num, HPS, HIL, HO5, Lib.hid (by have h := HG5.out; rw [← HML.out] at h ⊢; exact h), HM5⟩
                case measure => simp [intOf]; omega
            · have hc2 : (c == 1) = false := by simp [hc1]
              have hz0 : z.getD j 0 = 0 := by
                have h01 := HBIT.out i him j hjc
                rw [← HZ.out] at h01
                rcases h01 with h | h
                · exact h
                · exact absurd (HCX.out.trans h) hc1
              have HPS : Hid (rowK z (iv ls i) (some q) (j + 1) = some p) := Lib.hid (by rw [HST.out]; exact cell_zero hz0)
              have HIL := Lib.hid (idle_keep HIA.out (fix_zero (by rw [← HZ.out]; exact hz0)))
              clear hz0
              go_wp2
              go_roundw
              case rel => exact ⟨j + 1, p, vs, by omega, by go_num, HPS, HIL, HOV, HOW, HM⟩
              case measure => simp [intOf]; omega
          · obtain rfl : j = z.length := by omega
            have HNX2 : Hid (allR ms ls xs (i + 1) = some p) := Lib.hid (by rw [HNX.out, ← HZL.out]; exact HP.out)
            have HID2 : Hid (Idle ms ls p vs) := Lib.hid (idle_end HIA.out (by have h := (row_narrow HQK.out.1 z.length (by rw [HQK.out.2, HZL.out]; exact Nat.le_refl _) p HP.out).1; rw [h, HQK.out.2, HZL.out]; exact Nat.le_refl _))
            go_wp2
            go_roundw
            case rel => exact ⟨i + 1, p, vs, by omega, by go_num, HNX2, HID2, HOV, HOW, HM⟩
            case measure => simp [intOf]; omega
    · obtain rfl : i = ld := by omega
      go_wp2
      go_ret
      exact ⟨HM.out, .inr ⟨q, us, rfl, HQ.out, HID.out, HOV.out, HOW.out⟩⟩
end Go.Proofs.Ythcinjlghhfhmaa
