/- Slices of probes: marks, and the look for them. -/
import Derived.Test.YtldeplmiggbonaaSlQm
namespace Go.Proofs.Ytldeplmiggbonaa
open Go.RowKit
/-- How many numbers the first r probes hold. -/
def totQ (ps : List Prb) (r : Nat) : Nat := 2 * r + tot (pathsOf ps) r
theorem totQ_succ {ps : List Prb} {r : Nat} (h : r < ps.length) : totQ ps (r + 1) = totQ ps r + 2 + (prb ps r).2.2.length := by
  unfold totQ
  simp only [tot]
  rw [pathsOf_row h]
  omega
def markOne (m : Int) (n : Nat) : Prb := (m, m + 1, marksI (m + 2) n)
/-- The first k probes hold the marks from m on. -/
def markedQ (m : Int) (ps : List Prb) (k : Nat) : List Prb := (List.range ps.length).map fun r => if r < k then markOne (m + (totQ ps r : Int)) (prb ps r).2.2.length else prb ps r
theorem markedQ_len (m : Int) (ps : List Prb) (k : Nat) : (markedQ m ps k).length = ps.length := by simp [markedQ]
theorem markedQ_at {m : Int} {ps : List Prb} {k r : Nat} (h : r < ps.length) : prb (markedQ m ps k) r = if r < k then markOne (m + (totQ ps r : Int)) (prb ps r).2.2.length else prb ps r := by
  show ((List.range ps.length).map fun r => if r < k then markOne (m + (totQ ps r : Int)) (prb ps r).2.2.length else prb ps r).getD r (0, 0, []) = _
  rw [List.getD_eq_getElem?_getD, List.getElem?_map, List.getElem?_range h]
  rfl
theorem markedQ_zero (m : Int) (ps : List Prb) : markedQ m ps 0 = ps := by
  apply List.ext_getElem?
  intro i
  by_cases hi : i < ps.length
  · simp [markedQ, prb, List.getD, hi]
  · rw [List.getElem?_eq_none (by rw [markedQ_len]; omega), List.getElem?_eq_none (by omega)]
theorem markedQ_set {m : Int} {ps : List Prb} {k : Nat} (h : k < ps.length) : (markedQ m ps k).set k (markOne (m + (totQ ps k : Int)) (prb ps k).2.2.length) = markedQ m ps (k + 1) := by
  apply List.ext_getElem?
  intro i
  by_cases hi : i < ps.length
  · rw [List.getElem?_set]
    by_cases hik : k = i
    · subst hik
      rw [if_pos rfl, if_pos (by rw [markedQ_len]; exact h)]
      simp [markedQ, h]
    · rw [if_neg hik]
      have e : (i < k) = (i < k + 1) := by rw [eq_iff_iff]; omega
      simp [markedQ, hi, e]
  · rw [List.getElem?_eq_none (by rw [List.length_set, markedQ_len]; omega), List.getElem?_eq_none (by rw [markedQ_len]; omega)]
theorem totQ_le {ps : List Prb} (h : SmallM (pathsOf ps)) {r : Nat} (hr : r < ps.length) : totQ ps r + 2 + (prb ps r).2.2.length ≤ 3145728 ∧ (prb ps r).2.2.length ≤ 1048576 := by
  have h1 := h.row (r := r) (by rw [pathsOf_len]; exact hr)
  rw [pathsOf_row hr] at h1
  unfold SmallM at h
  rw [pathsOf_len] at h
  unfold totQ
  omega
set_option maxRecDepth 20000 in
set_option maxHeartbeats 1600000 in
theorem markQ_any (W : World) (lo hi : Nat) (a : Option Addr) (len cap : Nat) (ps : List Prb) (m : Int) (hsm : SmallM (pathsOf ps)) (hm0 : 0 ≤ m) (hm1 : m ≤ 2305843009213693952) (hlo : lo ≤ W.heap.size) (ho : OwnQ W lo hi a len cap ps) :
    Calls Try.prog 23 #[.slice a len cap, .int .i64 m] W fun e w' => e = .returned (.int .i64 (m + (totQ ps len : Int))) ∧ OwnQ w' lo hi a len cap (markedQ m ps len) ∧ Moved lo hi W w' := by
  have HO0 := Lib.hid ho
  have HL := Lib.hid ho.1
  have HM := Lib.hid hsm
  have hl : len ≤ 1048576 := by unfold SmallM at hsm; rw [pathsOf_len] at hsm; have := ho.1; omega
  clear ho hsm
  go_enter Try.func23, Try.ntmps23
  go_wp2
  go_loopw [1, 5] (fun q i wr => ∃ (k : Nat) (x : Int), k ≤ len ∧ i = .int .i64 k ∧ q = .int .i64 x ∧ x = m + (totQ ps k : Int) ∧ OwnQ wr lo hi a len cap (markedQ m ps k) ∧ Moved lo hi W wr) (fun _ i _ => len - (intOf i).toNat)
  case atStart => exact ⟨0, m, Nat.zero_le _, rfl, rfl, by simp [totQ, tot], by rw [markedQ_zero]; exact HO0.out, Moved.refl _ _ _⟩
  case round =>
    obtain ⟨k, x, hk, rfl, rfl, hx, ho, hb⟩ := hrel
    have HO := Lib.hid ho
    have HB := Lib.hid hb
    have HX := Lib.hid hx
    clear hx
    by_cases hlt : k < len
    · have hkm : k < ps.length := by rw [HL.out]; exact hlt
      have hrow := totQ_le HM.out hkm
      have hsucc := totQ_succ hkm
      have HX0 : Hid (0 ≤ x ∧ x ≤ 3305843009213693952) := Lib.hid (by have := HX.out; omega)
      have hx0 := HX0.out.1
      have hx1 := HX0.out.2
      obtain ⟨g, aj, cj, rfl, hc0, hc1, hc2, hz0, hz1, hends⟩ := ho.ends k hlt
      obtain ⟨ho1, hmv1⟩ := hends x (x + 1) (WalkArith.wf_i64 (by omega)) (WalkArith.wf_i64 (by omega))
      obtain ⟨V, hV⟩ : ∃ V, V = (wr.setCell ⟨g, k * 3, none⟩ (.int .i64 x)).setCell ⟨g, k * 3 + 1, none⟩ (.int .i64 (x + 1)) := ⟨_, rfl⟩
      rw [← hV] at ho1 hmv1
      obtain ⟨g2, ai, ci, l2, h2, hg2, hc, hin, hlens⟩ := ho1.inner k hlt (Nat.le_trans hlo (Nat.le_trans hb.size hmv1.size))
      obtain rfl : g = g2 := by have := Option.some.inj hg2; exact congrArg Addr.block this
      have hq : prb ((markedQ m ps k).set k (x, x + 1, (prb (markedQ m ps k) k).2.2)) k = (x, x + 1, (prb ps k).2.2) := by
        rw [prb_set_same (by rw [markedQ_len]; exact hkm), markedQ_at hkm, if_neg (Nat.lt_irrefl _)]
      rw [hq] at hc hin hlens
      simp only at hc hin hlens
      have HIN := Lib.hid hin
      have HLN := Lib.hid hlens
      have HMV := Lib.hid hmv1
      obtain ⟨n, hn⟩ : ∃ n, n = (prb ps k).2.2.length := ⟨_, rfl⟩
      rw [← hn] at hc
      have hcv : V.cell? ⟨g, k * 3 + 2, none⟩ = wr.cell? ⟨g, k * 3 + 2, none⟩ := by rw [hV]; go_simp
      have hcw := hcv.symm.trans hc
      have hnl : n ≤ 1073741824 := by omega
      have HN := Lib.hid hn
      have HE : Hid (x + 1 + 1 + ((prb ps k).2.2.length : Int) = m + (totQ ps (k + 1) : Int)) := Lib.hid (by have := HX.out; omega)
      have HSET : Hid (((markedQ m ps k).set k (x, x + 1, (prb (markedQ m ps k) k).2.2)).set k (x, x + 1, marksI (x + 1 + 1) (prb ps k).2.2.length) = markedQ m ps (k + 1)) := Lib.hid (by
        rw [List.set_set, ← markedQ_set hkm, ← HX.out]
        unfold markOne
        rw [show x + 2 = x + 1 + 1 by omega])
      clear ho hb hin hlens hrow hsucc hg2 hq ho1 hmv1 hends hc2 hc hcv
      go_wp2_with fail
      rw [← hV]
      clear hV
      go_at_call 22
      rw [HN.out] at hnl
      refine (markI_any _ l2 h2 _ _ _ _ (x + 1 + 1) hnl (by omega) (by omega) HIN.out).mono ?_
      rintro e w2 ⟨rfl, ho2, hm2⟩
      have HF := Lib.hid (HLN.out w2 _ ho2 hm2)
      rw [HE.out]
      clear ho2 hm2 hn hnl hcw
      obtain ⟨y, hy⟩ : ∃ y, y = m + (totQ ps (k + 1) : Int) := ⟨_, rfl⟩
      rw [← hy]
      have HY := Lib.hid hy
      clear hy
      go_wp2
      go_roundw
      case rel =>
        have hf := HF.out
        rw [HSET.out] at hf
        exact ⟨k + 1, y, by omega, by go_num, rfl, HY.out, hf.1, (HB.out.trans HMV.out).trans hf.2⟩
      case measure => simp [intOf]; omega
    · obtain rfl : k = len := by omega
      clear ho hb
      go_wp2
      go_ret
      exact ⟨ret_intV HX.out, HO.out, HB.out⟩
set_option maxRecDepth 20000 in
set_option maxHeartbeats 1600000 in
theorem heldQ_any (W : World) (a : Option Addr) (len cap : Nat) (ps : List Prb) (m : Int) (hsm : SmallM (pathsOf ps)) (hL : ps.length = len) (hm0 : 0 ≤ m) (hm1 : m ≤ 2305843009213693952) (ha : SeesQ W a len (markedQ m ps len)) :
    Calls Try.prog 24 #[.slice a len cap, .int .i64 m] W fun e w' => e = .returned (.int .i64 (m + (totQ ps len : Int))) ∧ Below W.heap.size W w' := by
  have HA := Lib.hid ha
  have HL := Lib.hid hL
  have HM := Lib.hid hsm
  have hl : len ≤ 1048576 := by unfold SmallM at hsm; rw [pathsOf_len] at hsm; omega
  clear ha hsm hL
  go_enter Try.func24, Try.ntmps24
  go_wp2
  go_loopw [1, 5] (fun q i wr => ∃ (k : Nat) (x : Int), k ≤ len ∧ i = .int .i64 k ∧ q = .int .i64 x ∧ x = m + (totQ ps k : Int) ∧ Below W.heap.size W wr) (fun _ i _ => len - (intOf i).toNat)
  case atStart => exact ⟨0, m, Nat.zero_le _, rfl, rfl, by simp [totQ, tot], Below.refl _ _⟩
  case round =>
    obtain ⟨k, x, hk, rfl, rfl, hx, hb⟩ := hrel
    have HB := Lib.hid hb
    have HX := Lib.hid hx
    clear hx
    by_cases hlt : k < len
    · have hkm : k < ps.length := by rw [HL.out]; exact hlt
      have hrow := totQ_le HM.out hkm
      have hsucc := totQ_succ hkm
      have HX0 : Hid (0 ≤ x ∧ x ≤ 3305843009213693952) := Lib.hid (by have := HX.out; omega)
      have hx0 := HX0.out.1
      have hx1 := HX0.out.2
      obtain ⟨b, off, ar, cr, rfl, hbl, hc0, hc1, hc2, _, _, hsr⟩ := HA.out.2.2 k hlt
      rw [markedQ_at hkm, if_pos hlt, ← HX.out] at hc0 hc1 hc2 hsr
      simp only [markOne, marksI_len] at hc0 hc1 hc2 hsr
      rw [show x + 2 = x + 1 + 1 by omega] at hsr
      have hw0 := (hb.cell (p := ⟨b, off + k * 3, none⟩) hbl).trans hc0
      have hw1 := (hb.cell (p := ⟨b, off + k * 3 + 1, none⟩) hbl).trans hc1
      have hw2 := (hb.cell (p := ⟨b, off + k * 3 + 2, none⟩) hbl).trans hc2
      have HR := Lib.hid (hsr.below hb)
      obtain ⟨n, hn⟩ : ∃ n, n = (prb ps k).2.2.length := ⟨_, rfl⟩
      rw [← hn] at hw2 HR
      have hnl : n ≤ 1073741824 := by omega
      have HE : Hid (x + 1 + 1 + (n : Int) = m + (totQ ps (k + 1) : Int)) := Lib.hid (by have := HX.out; omega)
      obtain ⟨y, hy⟩ : ∃ y, y = x + 1 + 1 + (n : Int) := ⟨_, rfl⟩
      have HY := Lib.hid hy
      have hy0 : ¬ y < 0 := by omega
      clear hb hc0 hc1 hc2 hsr hrow hn hy hsucc
      go_wp2_with fail
      go_at_call 42
      refine (heldI_any _ _ n _ (x + 1 + 1) hnl (by omega) (by omega) HR.out).mono ?_
      rw [← HY.out]
      rintro e w2 ⟨rfl, hb2⟩
      have HB2 := Lib.hid (below_up HB.out hb2 (Nat.le_refl _))
      clear hb2 hw0 hw1 hw2
      go_wp2
      go_roundw
      case rel => exact ⟨k + 1, y, by omega, by go_num, rfl, HY.out.trans HE.out, HB2.out⟩
      case measure => simp [intOf]; omega
    · obtain rfl : k = len := by omega
      clear hb
      go_wp2
      go_ret
      exact ⟨ret_intV HX.out, HB.out⟩
end Go.Proofs.Ytldeplmiggbonaa
