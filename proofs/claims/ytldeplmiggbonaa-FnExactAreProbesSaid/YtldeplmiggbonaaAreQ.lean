/- AreProbes: in plain words, the model's and the program's. -/
import Derived.Test.YtldeplmiggbonaaSlQo
import Derived.Test.YtldeplmiggbonaaNetR
import Derived.Test.YtldeplmiggbonaaNetW
namespace Go.Proofs.Ytldeplmiggbonaa
open Go.RowKit
/-- A probe's path is not empty and leads where the probe says. -/
def leadsB (ls : List (Int × Int)) (p : Prb) : Bool := !decide (p.2.2 = []) && isPathB ls p.2.2 p.1 p.2.1
def areQ (n : Int) (ls : List (Int × Int)) (ps : List Prb) : Bool := netB n ls && decide (ps.length ≤ 12) && ps.all (leadsB ls)
theorem leads_nil {ls : List (Int × Int)} {x y : Int} {zs : List Int} (h : zs.length = 0) : leadsB ls (x, y, zs) = false := by
  have := List.eq_nil_of_length_eq_zero h
  subst this
  rfl
theorem leads_cons {ls : List (Int × Int)} {x y : Int} {zs : List Int} (h : ¬ zs.length = 0) : leadsB ls (x, y, zs) = isPathB ls zs x y := by
  have h1 : ¬ zs = [] := fun e => h (by rw [e]; rfl)
  simp [leadsB, h1]
theorem all_no {ls : List (Int × Int)} {ps : List Prb} {k : Nat} (hk : k < ps.length) (h : leadsB ls (prb ps k) = false) : ps.all (leadsB ls) = false := by
  rw [List.all_eq_false]
  exact ⟨_, prb_mem hk, by rw [h]; decide⟩
theorem all_yes {ls : List (Int × Int)} {ps : List Prb} (h : ∀ r, r < ps.length → leadsB ls (prb ps r) = true) : ps.all (leadsB ls) = true := by
  rw [List.all_eq_true]
  intro p hp
  obtain ⟨r, hr, rfl⟩ := List.getElem_of_mem hp
  have := h r hr
  simpa [prb, List.getD, hr] using this
theorem areQ_no {n : Int} {ls : List (Int × Int)} {ps : List Prb} {k : Nat} (hk : k < ps.length) (h : leadsB ls (prb ps k) = false) : areQ n ls ps = false := by
  unfold areQ
  rw [all_no hk h, Bool.and_false]
theorem areQ_all {n : Int} {ls : List (Int × Int)} {ps : List Prb} (h : ps.all (leadsB ls) = true) : areQ n ls ps = (netB n ls && decide (ps.length ≤ 12)) := by
  unfold areQ
  rw [h, Bool.and_true]
theorem next_leads {ls : List (Int × Int)} {ps : List Prb} {k : Nat} (h : ∀ r, r < k → leadsB ls (prb ps r) = true) (hk : leadsB ls (prb ps k) = true) : ∀ r, r < k + 1 → leadsB ls (prb ps r) = true := fun r hr => by
  by_cases hrk : r < k
  · exact h r hrk
  · obtain rfl : r = k := by omega
    exact hk
set_option maxRecDepth 20000 in
set_option maxHeartbeats 3200000 in
theorem specAre_any (W : World) (n : Int) (a : Option Addr) (len cap : Nat) (ls : List (Int × Int)) (q : Option Addr) (lq cq : Nat) (ps : List Prb) (hl : len ≤ 1073741824) (hs : SeesL W a len ls) (hsm : SmallM (pathsOf ps)) (hq : SeesQ W q lq ps) :
    Calls Try.prog 26 #[.agg #[.int .i64 n, .slice a len cap], .slice q lq cq] W fun e w' => e = .returned (.bool (areQ n ls ps)) ∧ Below W.heap.size W w' := by
  obtain ⟨V, hV⟩ : ∃ V, V = W.alloc (.cells #[.int .i64 n, .slice a len cap] 33) := ⟨_, rfl⟩
  have HBV : Hid (Below W.heap.size W V) := Lib.hid (by rw [hV]; exact below_new _ _)
  have HN := Lib.hid (show NetAt V W.heap.size n a len cap by rw [hV]; exact net_new _ _ _ _ _ _)
  have HS := Lib.hid (hs.below HBV.out)
  have HQ := Lib.hid (hq.below HBV.out)
  have HL := Lib.hid hq.1
  have HM := Lib.hid hsm
  have hlq : lq ≤ 1048576 := by unfold SmallM at hsm; rw [pathsOf_len] at hsm; have := hq.1; omega
  clear hs hq hsm
  obtain ⟨v, hv⟩ : ∃ v : Bool, v = areQ n ls ps := ⟨_, rfl⟩
  rw [← hv]
  have HV := Lib.hid hv
  clear hv
  go_enter Try.func26, Try.ntmps26
  go_wp2_with fail
  rw [← hV]
  clear hV
  go_wp2_with fail
  go_loopw [5] (fun i wr => ∃ k : Nat, k ≤ lq ∧ i = .int .i64 k ∧ Hid (∀ r, r < k → leadsB ls (prb ps r) = true) ∧ Below V.heap.size V wr) (fun i _ => lq - (intOf i).toNat)
  case atStart => exact ⟨0, Nat.zero_le _, rfl, Lib.hid (fun r hr => by omega), Below.refl _ _⟩
  case round =>
    obtain ⟨k, hk, rfl, HA, hb⟩ := hrel
    have HB := Lib.hid hb
    have HSW := Lib.hid (HS.out.below hb)
    have HNW := Lib.hid (HN.out.below hb)
    have HQW := Lib.hid (HQ.out.below hb)
    have c0 := HNW.out.c0
    have c1 := HNW.out.c1
    clear hb
    by_cases hlt : k < lq
    · have hkm : k < ps.length := by rw [HL.out]; exact hlt
      obtain ⟨b, off, ar, cr, rfl, hbl, hc0, hc1, hc2, hle, hcm, hsr⟩ := HQW.out.2.2 k hlt
      obtain ⟨x, y, zs, hp⟩ : ∃ x y zs, prb ps k = (x, y, zs) := ⟨_, _, _, rfl⟩
      have hrl : zs.length ≤ 1073741824 := by
        have h := totQ_le HM.out hkm
        rw [hp] at h
        simp only at h
        omega
      rw [hp] at hc0 hc1 hc2 hsr hle
      simp only at hc0 hc1 hc2 hsr hle
      have HP := Lib.hid hp
      have HR := Lib.hid (hsr.below (Below.refl _ _).drew)
      have HLE := Lib.hid hle
      have i0k : (0 : Int) ≤ (k : Int) := by omega
      have i1k : (k : Int) < (lq : Int) := by omega
      clear hp hsr hle hcm
      by_cases h0 : zs.length = 0
      · have HE : Hid (v = false) := Lib.hid (by rw [HV.out]; exact areQ_no hkm (by rw [HP.out]; exact leads_nil h0))
        rw [h0] at hc2
        clear h0
        go_wp2_with fail
        go_quiet (fail)
        go_wp2
        go_ret
        exact ⟨ret_bool HE.out.symm, HBV.out.trans ((below_up HB.out (below_drewN0 _ _ _) (Nat.le_refl _)).mono HBV.out.size)⟩
      · have HLC : Hid (leadsB ls (prb ps k) = isPathB ls zs x y) := Lib.hid (by rw [HP.out]; exact leads_cons h0)
        obtain ⟨l, hl0⟩ : ∃ l, l = zs.length := ⟨_, rfl⟩
        have HLL := Lib.hid hl0
        rw [← hl0] at hc2 h0 hrl
        obtain ⟨m, rfl⟩ : ∃ m, l = m + 1 := ⟨l - 1, by omega⟩
        clear hl0 h0
        cases hin : isPathB ls zs x y
        · have HIN := Lib.hid hin
          have HE : Hid (v = false) := Lib.hid (by rw [HV.out]; exact areQ_no hkm (HLC.out.trans hin))
          clear hin
          go_wp2_with fail
          go_region_held3 (fun w' => w'.cell? ⟨b, off + k * 3, none⟩ = some (.int .i64 x) ∧ w'.cell? ⟨b, off + k * 3 + 1, none⟩ = some (.int .i64 y) ∧ w'.cell? ⟨b, off + k * 3 + 2, none⟩ = some (.slice ar (m + 1) cr) ∧ w'.cell? ⟨W.heap.size, 0, none⟩ = some (.int .i64 n) ∧ w'.cell? ⟨W.heap.size, 1, none⟩ = some (.slice a len cap)) (go_keep) (first
            | (go_at_call 44; refine (specPath_any _ n a len cap ls ar (m + 1) cr zs x y hl (HSW.out.below (Below.refl _ _).drew) hrl (by rw [HLL.out]; exact HLE.out) (by rw [HLL.out]; exact HR.out)).mono ?_; rw [HIN.out]; rintro e w2 ⟨rfl, hb2⟩; have HB2 := Lib.hid (below_up HB.out.drew hb2 (Nat.le_refl _)); have d0 := (hb2.cell (p := ⟨b, off + k * 3, none⟩) hbl).trans hc0; have d1 := (hb2.cell (p := ⟨b, off + k * 3 + 1, none⟩) hbl).trans hc1; have d2 := (hb2.cell (p := ⟨b, off + k * 3 + 2, none⟩) hbl).trans hc2; have d3 := (hb2.cell (p := ⟨W.heap.size, 0, none⟩) HNW.out.lt).trans c0; have d4 := (hb2.cell (p := ⟨W.heap.size, 1, none⟩) HNW.out.lt).trans c1; clear hb2))
          all_goals go_wp2
          all_goals go_ret
          all_goals exact ⟨ret_bool HE.out.symm, HBV.out.trans (HB2.out.mono HBV.out.size)⟩
        · have HIN := Lib.hid hin
          have HA2 := Lib.hid (next_leads HA.out (HLC.out.trans hin))
          clear hin
          go_wp2_with fail
          go_region_held3 (fun w' => w'.cell? ⟨b, off + k * 3, none⟩ = some (.int .i64 x) ∧ w'.cell? ⟨b, off + k * 3 + 1, none⟩ = some (.int .i64 y) ∧ w'.cell? ⟨b, off + k * 3 + 2, none⟩ = some (.slice ar (m + 1) cr) ∧ w'.cell? ⟨W.heap.size, 0, none⟩ = some (.int .i64 n) ∧ w'.cell? ⟨W.heap.size, 1, none⟩ = some (.slice a len cap)) (go_keep) (first
            | (go_at_call 44; refine (specPath_any _ n a len cap ls ar (m + 1) cr zs x y hl (HSW.out.below (Below.refl _ _).drew) hrl (by rw [HLL.out]; exact HLE.out) (by rw [HLL.out]; exact HR.out)).mono ?_; rw [HIN.out]; rintro e w2 ⟨rfl, hb2⟩; have HB2 := Lib.hid (below_up HB.out.drew hb2 (Nat.le_refl _)); have d0 := (hb2.cell (p := ⟨b, off + k * 3, none⟩) hbl).trans hc0; have d1 := (hb2.cell (p := ⟨b, off + k * 3 + 1, none⟩) hbl).trans hc1; have d2 := (hb2.cell (p := ⟨b, off + k * 3 + 2, none⟩) hbl).trans hc2; have d3 := (hb2.cell (p := ⟨W.heap.size, 0, none⟩) HNW.out.lt).trans c0; have d4 := (hb2.cell (p := ⟨W.heap.size, 1, none⟩) HNW.out.lt).trans c1; clear hb2))
          all_goals go_wp2
          all_goals go_roundw
          case rel => exact ⟨k + 1, by omega, by go_num, HA2, HB2.out⟩
          case measure => simp [intOf]; omega
    · obtain rfl : k = lq := by omega
      have HE : Hid (v = (netB n ls && decide (k ≤ 12))) := Lib.hid (by rw [HV.out, ← HL.out]; exact areQ_all (all_yes (fun r hr => HA.out r (by rw [HL.out] at hr; exact hr))))
      cases hin : netB n ls
      · have HIN := Lib.hid hin
        have HX : Hid (v = false) := Lib.hid (by rw [HE.out, hin]; rfl)
        clear hin
        go_wp2_with (go_at_call 45; refine (specNet_any _ n a len cap ls hl HSW.out).mono ?_; rw [HIN.out]; rintro e w2 ⟨rfl, hb2⟩; have HB2 := Lib.hid (below_up HB.out hb2 (Nat.le_refl _)); clear hb2)
        go_ret
        exact ⟨ret_bool HX.out.symm, HBV.out.trans (HB2.out.mono HBV.out.size)⟩
      · have HIN := Lib.hid hin
        have HX : Hid (v = decide (k ≤ 12)) := Lib.hid (by rw [HE.out, hin]; rfl)
        clear hin
        by_cases h12 : k ≤ 12
        · have HY : Hid (v = true) := Lib.hid (by rw [HX.out]; exact decide_eq_true h12)
          go_wp2_with (go_at_call 45; refine (specNet_any _ n a len cap ls hl HSW.out).mono ?_; rw [HIN.out]; rintro e w2 ⟨rfl, hb2⟩; have HB2 := Lib.hid (below_up HB.out hb2 (Nat.le_refl _)); clear hb2)
          go_ret
          exact ⟨ret_bool (by rw [HY.out]; exact decide_eq_true (by omega)), HBV.out.trans (HB2.out.mono HBV.out.size)⟩
        · have HY : Hid (v = false) := Lib.hid (by rw [HX.out]; exact decide_eq_false h12)
          go_wp2_with (go_at_call 45; refine (specNet_any _ n a len cap ls hl HSW.out).mono ?_; rw [HIN.out]; rintro e w2 ⟨rfl, hb2⟩; have HB2 := Lib.hid (below_up HB.out hb2 (Nat.le_refl _)); clear hb2)
          go_ret
          exact ⟨ret_bool (by rw [HY.out]; exact decide_eq_false (by omega)), HBV.out.trans (HB2.out.mono HBV.out.size)⟩
end Go.Proofs.Ytldeplmiggbonaa
