/- The program's AreProbes. -/
import Derived.Test.YtjckcggjmcaaoaaAreQ
namespace Go.Proofs.Ytjckcggjmcaaoaa
open Go.RowKit
/-- The first probe that leads nowhere, or -1. -/
def idxNo (ls : List (Int × Int)) (ps : List Prb) : Int := match ps.findIdx? (fun p => !leadsB ls p) with
  | some i => (i : Int)
  | none => -1
theorem prb_at {ps : List Prb} {r : Nat} (h : r < ps.length) : ps[r] = prb ps r := by simp [prb, List.getD, h]
theorem idxNo_at {ls : List (Int × Int)} {ps : List Prb} {k : Nat} (hk : k < ps.length) (h1 : leadsB ls (prb ps k) = false) (h2 : ∀ r, r < k → leadsB ls (prb ps r) = true) : idxNo ls ps = (k : Int) := by
  have h : ps.findIdx? (fun p => !leadsB ls p) = some k := by
    rw [List.findIdx?_eq_some_iff_getElem]
    exact ⟨hk, by rw [prb_at]; simpa using h1, fun j hj => by rw [prb_at]; simpa using h2 j hj⟩
  unfold idxNo
  rw [h]
theorem idxNo_none {ls : List (Int × Int)} {ps : List Prb} (h2 : ∀ r, r < ps.length → leadsB ls (prb ps r) = true) : idxNo ls ps = -1 := by
  have h : ps.findIdx? (fun p => !leadsB ls p) = none := by
    rw [List.findIdx?_eq_none_iff]
    intro p hp
    obtain ⟨r, hr, rfl⟩ := List.getElem_of_mem hp
    rw [prb_at hr, h2 r hr]
    rfl
  unfold idxNo
  rw [h]
theorem idxNo_cases (ls : List (Int × Int)) (ps : List Prb) : (idxNo ls ps = -1 ∧ ps.all (leadsB ls) = true) ∨ (0 ≤ idxNo ls ps ∧ ps.all (leadsB ls) = false) := by
  by_cases h : ∀ r, r < ps.length → leadsB ls (prb ps r) = true
  · exact .inl ⟨idxNo_none h, all_yes h⟩
  · obtain ⟨k, hk⟩ : ∃ k, k < ps.length ∧ leadsB ls (prb ps k) = false := by
      apply Classical.byContradiction
      intro hn
      exact h (fun r hr => by
        cases hb : leadsB ls (prb ps r)
        · exact absurd ⟨r, hr, hb⟩ hn
        · rfl)
    refine .inr ⟨?_, all_no hk.1 hk.2⟩
    unfold idxNo
    split
    · omega
    · rename_i he
      rw [List.findIdx?_eq_none_iff] at he
      have := he _ (prb_mem hk.1)
      rw [hk.2] at this
      cases this
set_option maxRecDepth 20000 in
set_option maxHeartbeats 1600000 in
theorem nowhere_any (W : World) (B : Nat) (n : Int) (a : Option Addr) (len cap : Nat) (ls : List (Int × Int)) (x y : Int) (ar : Option Addr) (l cr : Nat) (zs : List Int) (hl : len ≤ 1073741824) (hs : SeesL W a len ls) (hn : NetAt W B n a len cap) (hrl : l ≤ 1073741824) (hz : zs.length = l) (hr : Sees .i64 W ar l zs) :
    Calls Try.prog 28 #[.agg #[.int .i64 x, .int .i64 y, .slice ar l cr], .pointer (some ⟨B, 0, none⟩)] W fun e w' => e = .returned (.bool (!leadsB ls (x, y, zs))) ∧ Below W.heap.size W w' := by
  have hb0 : Below W.heap.size W (W.alloc (.cells #[.int .i64 x, .int .i64 y, .slice ar l cr] 38)) := below_new _ _
  have c0 := (hn.below hb0).c0
  have c1 := (hn.below hb0).c1
  have HB := Lib.hid hb0
  have HS := Lib.hid (hs.below hb0)
  have HR := Lib.hid (hr.below hb0)
  have HZ := Lib.hid hz
  clear hb0 hs hr hn hz
  cases l with
  | zero =>
    have HE : Hid ((!leadsB ls (x, y, zs)) = true) := Lib.hid (by rw [leads_nil HZ.out]; rfl)
    go_enter Try.func28, Try.ntmps28
    go_wp2
    go_ret
    exact ⟨ret_bool HE.out.symm, HB.out⟩
  | succ m =>
    obtain ⟨t, ht⟩ : ∃ t, isPathB ls zs x y = t := ⟨_, rfl⟩
    have HT := Lib.hid ht
    have HE : Hid ((!leadsB ls (x, y, zs)) = !t) := Lib.hid (by rw [leads_cons (by rw [HZ.out]; omega), ht])
    clear ht
    go_enter Try.func28, Try.ntmps28
    go_wp2_with (go_at_call 29; refine (pathP_any _ n a len cap ls ar (m + 1) cr zs x y hl HS.out hrl HR.out).mono ?_; rw [HT.out]; rintro e w2 ⟨rfl, hb2⟩; have HB2 := Lib.hid (below_up HB.out hb2 (Nat.le_refl _)); clear hb2)
    go_ret
    exact ⟨ret_bool HE.out.symm, HB2.out⟩
set_option maxRecDepth 20000 in
set_option maxHeartbeats 1600000 in
theorem idxNo_any (W : World) (q : Option Addr) (lq cq : Nat) (ps : List Prb) (B : Nat) (n : Int) (a : Option Addr) (len cap : Nat) (ls : List (Int × Int)) (hl : len ≤ 1073741824) (hs : SeesL W a len ls) (hn : NetAt W B n a len cap) (hsm : SmallM (pathsOf ps)) (hq : SeesQ W q lq ps) :
    Calls Try.prog 35 #[.slice q lq cq, .func (.func 28) #[] #[.pointer (some ⟨B, 0, none⟩)]] W fun e w' => e = .returned (.int .i64 (idxNo ls ps)) ∧ Below W.heap.size W w' := by
  have HS := Lib.hid hs
  have HQ := Lib.hid hq
  have HN := Lib.hid hn
  have HL := Lib.hid hq.1
  have HM := Lib.hid hsm
  have hlq : lq ≤ 1048576 := by unfold SmallM at hsm; rw [pathsOf_len] at hsm; have := hq.1; omega
  obtain ⟨v, hv⟩ : ∃ v, v = idxNo ls ps := ⟨_, rfl⟩
  have HV := Lib.hid hv
  rw [← hv]
  clear hs hv hq hn hsm
  go_enter Try.func35, Try.ntmps35
  go_wp2
  go_loopw [8, 5] (fun i _ wr => ∃ k : Nat, k ≤ lq ∧ i = .int .i64 k ∧ Hid (∀ r, r < k → leadsB ls (prb ps r) = true) ∧ Below W.heap.size W wr) (fun i _ _ => lq - (intOf i).toNat)
  case atStart => exact ⟨0, Nat.zero_le _, rfl, Lib.hid (fun j hj => by omega), Below.refl _ _⟩
  case round =>
    obtain ⟨k, hk, rfl, HA, hb⟩ := hrel
    have HB := Lib.hid hb
    have HSW := Lib.hid (HS.out.below hb)
    have HNW := Lib.hid (HN.out.below hb)
    by_cases hlt : k < lq
    · have hkm : k < ps.length := by rw [HL.out]; exact hlt
      obtain ⟨b, off, ar, cr, rfl, hbl, hc0, hc1, hc2, hle, hcm, hsr⟩ := (HQ.out.below HB.out).2.2 k hlt
      obtain ⟨x, y, zs, hp⟩ : ∃ x y zs, prb ps k = (x, y, zs) := ⟨_, _, _, rfl⟩
      have hrl : zs.length ≤ 1073741824 := by
        have h := totQ_le HM.out hkm
        rw [hp] at h
        simp only at h
        omega
      rw [hp] at hc0 hc1 hc2 hle hsr
      have HP := Lib.hid hp
      have HR := Lib.hid hsr
      clear hp hle hsr hcm hb
      cases hin : leadsB ls (x, y, zs)
      · have HE : Hid (v = k) := Lib.hid (by rw [HV.out]; exact idxNo_at hkm (by rw [HP.out]; exact hin) HA.out)
        have HIN := Lib.hid hin
        clear hin
        go_wp2_with (go_at_call 28; refine (nowhere_any _ B n a len cap ls x y ar _ _ zs hl HSW.out HNW.out hrl rfl HR.out).mono ?_; rw [HIN.out]; rintro e w2 ⟨rfl, hb2'⟩; have HB2 := Lib.hid (below_up HB.out hb2' (Nat.le_refl _)); clear hb2')
        go_ret
        exact ⟨ret_int HE.out.symm, HB2.out⟩
      · have HIN := Lib.hid hin
        have HN2 := Lib.hid (next_leads HA.out (by rw [HP.out]; exact hin))
        clear hin
        go_wp2_with (go_at_call 28; refine (nowhere_any _ B n a len cap ls x y ar _ _ zs hl HSW.out HNW.out hrl rfl HR.out).mono ?_; rw [HIN.out]; rintro e w2 ⟨rfl, hb2'⟩; have HB2 := Lib.hid (below_up HB.out hb2' (Nat.le_refl _)); clear hb2')
        go_roundw
        case rel => exact ⟨k + 1, by omega, by go_num, HN2, HB2.out⟩
        case measure => simp [intOf]; omega
    · obtain rfl : k = lq := by omega
      have HE : Hid (v = -1) := Lib.hid (by rw [HV.out, idxNo_none (by rw [HL.out]; exact HA.out)])
      clear hb
      go_wp2
      go_ret
      exact ⟨ret_int HE.out.symm, HB.out⟩
theorem hasNo_any (W : World) (q : Option Addr) (lq cq : Nat) (ps : List Prb) (B : Nat) (n : Int) (a : Option Addr) (len cap : Nat) (ls : List (Int × Int)) (hl : len ≤ 1073741824) (hs : SeesL W a len ls) (hn : NetAt W B n a len cap) (hsm : SmallM (pathsOf ps)) (hq : SeesQ W q lq ps) :
    Calls Try.prog 31 #[.slice q lq cq, .func (.func 28) #[] #[.pointer (some ⟨B, 0, none⟩)]] W fun e w' => e = .returned (.bool (!ps.all (leadsB ls))) ∧ Below W.heap.size W w' := by
  have HX := Lib.hid (idxNo_any W q lq cq ps B n a len cap ls hl hs hn hsm hq)
  have hc := idxNo_cases ls ps
  obtain ⟨i, hi⟩ : ∃ i, i = idxNo ls ps := ⟨_, rfl⟩
  obtain ⟨t, ht⟩ : ∃ t, t = ps.all (leadsB ls) := ⟨_, rfl⟩
  rw [← hi, ← ht] at hc
  rw [← ht]
  have HI := Lib.hid hi
  have HC : Hid ((!t) = decide (0 ≤ i)) := Lib.hid (by
    rcases hc with ⟨h1, h2⟩ | ⟨h1, h2⟩
    · rw [h1, h2]; rfl
    · rw [h2, decide_eq_true h1]; rfl)
  clear hs hn hsm hq hi ht hc
  go_enter Try.func31, Try.ntmps31
  go_wp2_with (go_at_call 35; refine HX.out.mono ?_; rw [← HI.out]; rintro e w1 ⟨rfl, hb1⟩; have HB1 := Lib.hid hb1; clear hb1)
  go_ret
  exact ⟨ret_bool HC.out.symm, HB1.out⟩
set_option maxRecDepth 20000 in
set_option maxHeartbeats 1600000 in
theorem areP_any (W : World) (n : Int) (a : Option Addr) (len cap : Nat) (ls : List (Int × Int)) (q : Option Addr) (lq cq : Nat) (ps : List Prb) (hl : len ≤ 1073741824) (hs : SeesL W a len ls) (hsm : SmallM (pathsOf ps)) (hq : SeesQ W q lq ps) :
    Calls Try.prog 8 #[.agg #[.int .i64 n, .slice a len cap], .slice q lq cq] W fun e w' => e = .returned (.bool (areQ n ls ps)) ∧ Below W.heap.size W w' := by
  obtain ⟨V, hV⟩ : ∃ V, V = W.alloc (.cells #[.int .i64 n, .slice a len cap] 26) := ⟨_, rfl⟩
  have HBV : Hid (Below W.heap.size W V) := Lib.hid (by rw [hV]; exact below_new _ _)
  have HN := Lib.hid (show NetAt V W.heap.size n a len cap by rw [hV]; exact net_new _ _ _ _ _ _)
  have HS := Lib.hid (hs.below HBV.out)
  have HQ := Lib.hid (hq.below HBV.out)
  have HL := Lib.hid hq.1
  have HM := Lib.hid hsm
  have c0 := HN.out.c0
  have c1 := HN.out.c1
  clear hs hq hsm
  obtain ⟨v, hv⟩ : ∃ v : Bool, v = areQ n ls ps := ⟨_, rfl⟩
  have HV : Hid (v = (netB n ls && decide (lq ≤ 12) && ps.all (leadsB ls))) := Lib.hid (by rw [hv, ← HL.out]; rfl)
  rw [← hv]
  clear hv
  cases hin : netB n ls
  · have HIN := Lib.hid hin
    have HX : Hid (v = false) := Lib.hid (by rw [HV.out, hin]; rfl)
    clear hin
    go_enter Try.func8, Try.ntmps8
    go_wp2_with fail
    rw [← hV]
    clear hV
    go_wp2_with (go_at_call 30; refine (netP_any _ n a len cap ls hl HS.out).mono ?_; rw [HIN.out]; rintro e w2 ⟨rfl, hb2⟩; have HB2 := Lib.hid (below_up HBV.out hb2 (Nat.le_refl _)); clear hb2)
    go_ret
    exact ⟨ret_bool HX.out.symm, HB2.out⟩
  · have HIN := Lib.hid hin
    by_cases h12 : lq ≤ 12
    · have HX : Hid (v = ps.all (leadsB ls)) := Lib.hid (by rw [HV.out, hin, decide_eq_true h12]; rfl)
      clear hin
      have h13 : ((lq : Nat) : Int) ≤ 12 := by omega
      go_enter Try.func8, Try.ntmps8
      go_wp2_with fail
      rw [← hV]
      clear hV
      go_wp2_with (first
        | (go_at_call 30; refine (netP_any _ n a len cap ls hl HS.out).mono ?_; rw [HIN.out]; rintro e w2 ⟨rfl, hb2⟩; have HB2 := Lib.hid (below_up HBV.out hb2 (Nat.le_refl _)); have HS2 := Lib.hid (HS.out.below hb2); have HQ2 := Lib.hid (HQ.out.below hb2); have HN2 := Lib.hid (HN.out.below hb2); clear hb2)
        | (go_at_call 31; refine (hasNo_any _ q lq cq ps W.heap.size n a len cap ls hl HS2.out HN2.out HM.out HQ2.out).mono ?_; rintro e w3 ⟨rfl, hb3⟩; have HB3 := Lib.hid (below_up HB2.out hb3 (Nat.le_refl _)); clear hb3))
      go_ret
      exact ⟨ret_bool (by rw [HX.out]), HB3.out⟩
    · have HX : Hid (v = false) := Lib.hid (by rw [HV.out, decide_eq_false h12, Bool.and_false]; rfl)
      clear hin
      have h13 : ¬ ((lq : Nat) : Int) ≤ 12 := by omega
      go_enter Try.func8, Try.ntmps8
      go_wp2_with fail
      rw [← hV]
      clear hV
      go_wp2_with (go_at_call 30; refine (netP_any _ n a len cap ls hl HS.out).mono ?_; rw [HIN.out]; rintro e w2 ⟨rfl, hb2⟩; have HB2 := Lib.hid (below_up HBV.out hb2 (Nat.le_refl _)); clear hb2)
      go_ret
      exact ⟨ret_bool HX.out.symm, HB2.out⟩
end Go.Proofs.Ytjckcggjmcaaoaa
