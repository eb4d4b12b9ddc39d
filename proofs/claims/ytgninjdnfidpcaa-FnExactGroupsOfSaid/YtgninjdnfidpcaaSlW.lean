/- Slices of slices of integers, larger ones: compare, mark, look for the marks. -/
import Derived.Test.YtgninjdnfidpcaaSlA
namespace Go.Proofs.Ytgninjdnfidpcaa
open Go.RowKit
def SmallW (ms : List (List Int)) : Prop := ms.length + tot ms ms.length ≤ 8388608
theorem SmallW.row {ms : List (List Int)} (h : SmallW ms) {r : Nat} (hr : r < ms.length) : tot ms r + (row ms r).length ≤ 8388608 := by
  have := tot_mono ms (show r + 1 ≤ ms.length by omega)
  unfold SmallW at h
  simp only [tot] at this
  omega
set_option maxHeartbeats 800000 in
theorem eqW_yes (W : World) (a b : Option Addr) (len capa capb : Nat) (ms : List (List Int)) (hsm : SmallW ms) (ha : SeesM W a len ms) (hb : SeesM W b len ms) :
    Calls Try.prog 47 #[.slice a len capa, .slice b len capb] W fun e w' => e = .returned (.bool true) ∧ Below W.heap.size W w' := by
  have HA := Lib.hid ha
  have HZ := Lib.hid hb
  have HM := Lib.hid hsm
  have HL := Lib.hid ha.1
  have hl : len ≤ 8388608 := by unfold SmallW at hsm; have := ha.1; omega
  clear ha hb hsm
  go_enter Try.func47, Try.ntmps47
  go_wp2
  go_loopw [5] (fun i wr => ∃ k : Nat, k ≤ len ∧ i = .int .i64 k ∧ Below W.heap.size W wr) (fun i _ => len - (intOf i).toNat)
  case atStart => exact ⟨0, Nat.zero_le _, rfl, Below.refl _ _⟩
  case round =>
    obtain ⟨k, hk, rfl, hbw⟩ := hrel
    have HB := Lib.hid hbw
    by_cases hlt : k < len
    · obtain ⟨b1, o1, a1, c1, rfl, hb1, hc1, _, _, hs1⟩ := HA.out.2 k hlt
      obtain ⟨b2, o2, a2, c2, rfl, hb2, hc2, _, _, hs2⟩ := HZ.out.2 k hlt
      have hx := (hbw.cell (p := ⟨b1, o1 + k, none⟩) hb1).trans hc1
      have hy := (hbw.cell (p := ⟨b2, o2 + k, none⟩) hb2).trans hc2
      have hs1w := Lib.hid (hs1.below hbw)
      have hs2w := Lib.hid (hs2.below hbw)
      obtain ⟨zs, hzs⟩ : ∃ zs, zs = row ms k := ⟨_, rfl⟩
      rw [← hzs] at hx hy hs1w hs2w
      have hrl : zs.length ≤ 1073741824 := by
        have := HM.out.row (r := k) (by rw [HL.out]; exact hlt)
        rw [hzs]
        omega
      have hk0 : (0 : Int) ≤ (k : Int) := Int.natCast_nonneg _
      have hk1 : (k : Int) < (len : Int) := by omega
      clear hc1 hc2 hs1 hs2 hzs hbw
      go_wp2_with fail
      go_region_held3 (fun w' => w'.cell? ⟨b1, o1 + k, none⟩ = some (.slice a1 zs.length c1) ∧ w'.cell? ⟨b2, o2 + k, none⟩ = some (.slice a2 zs.length c2)) (go_keep) (first
        | (go_at_call 28; refine (eqI_yes _ _ _ zs.length _ _ zs hrl (hs1w.out.below (Below.refl _ _).drew) (hs2w.out.below (Below.refl _ _).drew)).mono ?_; rintro e w2 ⟨rfl, hb⟩; have HB2 := Lib.hid (below_up (w0 := wr) (Below.refl _ _).drew hb (Nat.le_refl _)); have hx := (HB2.out.cell (p := ⟨b1, o1 + k, none⟩) (World.block_lt_of_cell? _ _ hx)).trans hx; have hy := (HB2.out.cell (p := ⟨b2, o2 + k, none⟩) (World.block_lt_of_cell? _ _ hy)).trans hy; clear hb))
      go_wp2
      go_roundw
      case rel => exact ⟨k + 1, by omega, by go_num, HB.out.trans (HB2.out.mono HB.out.size)⟩
      case measure => simp [intOf]; omega
    · clear hbw
      go_wp2
      go_ret
      exact ⟨rfl, HB.out⟩
set_option maxHeartbeats 800000 in
theorem markW_any (W : World) (lo hi : Nat) (a : Option Addr) (len cap : Nat) (ms : List (List Int)) (m : Int) (hsm : SmallW ms) (hm0 : 0 ≤ m) (hm1 : m ≤ 2305843009213693952) (hlo : lo ≤ W.heap.size) (ho : OwnM W lo hi a len cap ms) :
    Calls Try.prog 48 #[.slice a len cap, .int .i64 m] W fun e w' => e = .returned (.int .i64 (m + (tot ms len : Int))) ∧ OwnM w' lo hi a len cap (marked m ms len) ∧ Moved lo hi W w' := by
  have HO0 := Lib.hid ho
  have HL := Lib.hid ho.1
  have HM := Lib.hid hsm
  have hl : len ≤ 8388608 := by unfold SmallW at hsm; have := ho.1; omega
  clear ho hsm
  go_enter Try.func48, Try.ntmps48
  go_wp2
  go_loopw [1, 5] (fun q i wr => ∃ (k : Nat) (x : Int), k ≤ len ∧ i = .int .i64 k ∧ q = .int .i64 x ∧ x = m + (tot ms k : Int) ∧ OwnM wr lo hi a len cap (marked m ms k) ∧ Moved lo hi W wr) (fun _ i _ => len - (intOf i).toNat)
  case atStart => exact ⟨0, m, Nat.zero_le _, rfl, rfl, by simp [tot], by rw [marked_zero]; exact HO0.out, Moved.refl _ _ _⟩
  case round =>
    obtain ⟨k, x, hk, rfl, rfl, hx, ho, hb⟩ := hrel
    have HO := Lib.hid ho
    have HB := Lib.hid hb
    have HX := Lib.hid hx
    clear hx
    by_cases hlt : k < len
    · have hkm : k < ms.length := by rw [HL.out]; exact hlt
      have hrow := HM.out.row hkm
      have HX0 : Hid (0 ≤ x ∧ x ≤ 4611686018427387904) := Lib.hid (by have := HX.out; omega)
      obtain ⟨g, ai, ci, l2, h2, rfl, hc, hin, hlens⟩ := ho.inner k hlt (Nat.le_trans hlo hb.size)
      rw [marked_row hkm, if_neg (Nat.lt_irrefl _)] at hc hin hlens
      have HIN := Lib.hid hin
      have HLN := Lib.hid hlens
      obtain ⟨n, hn⟩ : ∃ n, n = (row ms k).length := ⟨_, rfl⟩
      rw [← hn] at hc
      have hnl : n ≤ 1073741824 := by omega
      have HN := Lib.hid hn
      clear ho hb hin hlens hrow
      go_wp2_with fail
      go_at_call 30
      rw [HN.out] at hnl
      refine (markI_any _ l2 h2 _ _ _ _ x hnl HX0.out.1 HX0.out.2 HIN.out).mono ?_
      rintro e w2 ⟨rfl, ho2, hm2⟩
      have HF := Lib.hid (HLN.out w2 _ ho2 hm2)
      have HE : Hid (x + ((row ms k).length : Int) = m + (tot ms (k + 1) : Int)) := Lib.hid (by have := HX.out; simp only [tot]; omega)
      rw [HE.out]
      clear ho2 hm2 hn hnl hc
      obtain ⟨y, hy⟩ : ∃ y, y = m + (tot ms (k + 1) : Int) := ⟨_, rfl⟩
      rw [← hy]
      have HY := Lib.hid hy
      clear hy
      go_wp2
      go_roundw
      case rel =>
        have hf := HF.out
        rw [HX.out, marked_set hkm] at hf
        exact ⟨k + 1, y, by omega, by go_num, rfl, HY.out, hf.1, HB.out.trans hf.2⟩
      case measure => simp [intOf]; omega
    · obtain rfl : k = len := by omega
      clear ho hb
      go_wp2
      go_ret
      exact ⟨ret_intV HX.out, HO.out, HB.out⟩
set_option maxHeartbeats 800000 in
theorem heldW_any (W : World) (a : Option Addr) (len cap : Nat) (ms : List (List Int)) (m : Int) (hsm : SmallW ms) (hL : ms.length = len) (hm0 : 0 ≤ m) (hm1 : m ≤ 2305843009213693952) (ha : SeesM W a len (marked m ms len)) :
    Calls Try.prog 49 #[.slice a len cap, .int .i64 m] W fun e w' => e = .returned (.int .i64 (m + (tot ms len : Int))) ∧ Below W.heap.size W w' := by
  have HA := Lib.hid ha
  have HL := Lib.hid hL
  have HM := Lib.hid hsm
  have hl : len ≤ 8388608 := by unfold SmallW at hsm; omega
  clear ha hsm hL
  go_enter Try.func49, Try.ntmps49
  go_wp2
  go_loopw [1, 5] (fun q i wr => ∃ (k : Nat) (x : Int), k ≤ len ∧ i = .int .i64 k ∧ q = .int .i64 x ∧ x = m + (tot ms k : Int) ∧ Below W.heap.size W wr) (fun _ i _ => len - (intOf i).toNat)
  case atStart => exact ⟨0, m, Nat.zero_le _, rfl, rfl, by simp [tot], Below.refl _ _⟩
  case round =>
    obtain ⟨k, x, hk, rfl, rfl, hx, hb⟩ := hrel
    have HB := Lib.hid hb
    have HX := Lib.hid hx
    clear hx
    by_cases hlt : k < len
    · have hkm : k < ms.length := by rw [HL.out]; exact hlt
      have hrow := HM.out.row hkm
      have HX0 : Hid (0 ≤ x ∧ x ≤ 4611686018427387904) := Lib.hid (by have := HX.out; omega)
      obtain ⟨b, off, ar, cr, rfl, hbl, hc, _, _, hsr⟩ := HA.out.2 k hlt
      rw [marked_row hkm, if_pos hlt, ← HX.out, marksI_len] at hc hsr
      have hcw := (hb.cell (p := ⟨b, off + k, none⟩) hbl).trans hc
      have HR := Lib.hid (hsr.below hb)
      obtain ⟨n, hn⟩ : ∃ n, n = (row ms k).length := ⟨_, rfl⟩
      rw [← hn] at hcw HR
      have hnl : n ≤ 1073741824 := by omega
      have HE : Hid (x + (n : Int) = m + (tot ms (k + 1) : Int)) := Lib.hid (by have := HX.out; simp only [tot]; omega)
      obtain ⟨y, hy⟩ : ∃ y, y = x + (n : Int) := ⟨_, rfl⟩
      have HY := Lib.hid hy
      have hy0 : ¬ y < 0 := by have := HX0.out; omega
      clear hb hc hsr hrow hn hy
      go_wp2_with fail
      go_at_call 31
      refine (heldI_any _ _ n _ x hnl HX0.out.1 HX0.out.2 HR.out).mono ?_
      rw [← HY.out]
      rintro e w2 ⟨rfl, hb2⟩
      have HB2 := Lib.hid (below_up HB.out hb2 (Nat.le_refl _))
      clear hb2 hcw
      go_wp2
      go_roundw
      case rel => exact ⟨k + 1, y, by omega, by go_num, rfl, HY.out.trans HE.out, HB2.out⟩
      case measure => simp [intOf]; omega
    · obtain rfl : k = len := by omega
      clear hb
      go_wp2
      go_ret
      exact ⟨ret_intV HX.out, HB.out⟩
theorem tot_cap {ms : List (List Int)} {n : Nat} (h : ∀ i, i < ms.length → (row ms i).length ≤ n) : ∀ k, k ≤ ms.length → tot ms k ≤ k * n
  | 0, _ => by simp [tot]
  | k + 1, hk => by
    have := tot_cap h k (by omega)
    have := h k (by omega)
    simp only [tot]
    rw [Nat.succ_mul]
    omega
end Go.Proofs.Ytgninjdnfidpcaa
