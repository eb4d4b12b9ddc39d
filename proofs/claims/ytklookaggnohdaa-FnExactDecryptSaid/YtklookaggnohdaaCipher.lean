/- The program's Encrypt and Decrypt. -/
import Derived.Test.YtklookaggnohdaaStream
import Derived.Deep.RegionHeld3
namespace Go.Proofs.Ytklookaggnohdaa
open Go.RowKit
def encL (key : Int) (zs : List Int) : List Int := (List.range zs.length).map fun j => (zs.getD j 0 + strm key j) % 256
def decL (key : Int) (zs : List Int) : List Int := (List.range zs.length).map fun j => (zs.getD j 0 - strm key j) % 256
theorem encL_len (key : Int) (zs : List Int) : (encL key zs).length = zs.length := by simp [encL]
theorem decL_len (key : Int) (zs : List Int) : (decL key zs).length = zs.length := by simp [decL]
theorem encL_at {key : Int} {zs : List Int} {j : Nat} (h : j < zs.length) : (encL key zs).getD j 0 = (zs.getD j 0 + strm key j) % 256 := by simp [encL, List.getD, h]
theorem decL_at {key : Int} {zs : List Int} {j : Nat} (h : j < zs.length) : (decL key zs).getD j 0 = (zs.getD j 0 - strm key j) % 256 := by simp [decL, List.getD, h]
theorem over_at (ys zs : List Int) (k : Nat) (h : ys.length = zs.length) (hk : k < zs.length) : (over ys zs k).getD k 0 = zs.getD k 0 := by
  have h1 : ((ys.take k).length : Nat) = k := by simp; omega
  unfold over
  simp only [List.getD]
  rw [List.getElem?_append_right (by omega), h1, Nat.sub_self, List.getElem?_drop, Nat.add_zero]
set_option maxHeartbeats 1600000 in
theorem encrypt_any (W : World) (key : Int) (a : Option Addr) (len cap : Nat) (zs : List Int) (hk0 : -9223372036854775808 ≤ key) (hk1 : key ≤ 9223372036854775807) (hl : len ≤ 1073741824) (hs : Sees .u8 W a len zs) :
    Calls Try.prog 17 #[.int .i64 key, .slice a len cap] W (Made .u8 5 (encL key zs) W) := by
  have HS := Lib.hid hs
  have HL := Lib.hid hs.1
  clear hs
  go_enter Try.func17, Try.ntmps17
  go_wp2_with fail
  go_at_call 48
  refine (keyStream_any _ key).mono ?_
  rintro e w1 ⟨rfl, hst1, hb1, hz1⟩
  have HST1 := Lib.hid hst1
  have HB1 := Lib.hid hb1
  have HZ1 := Lib.hid hz1
  clear hst1 hb1 hz1
  go_wp2_with fail
  go_at_call 49
  refine (copyBytes_any _ _ _ _ _ _ hl (by decide) (by decide) (HS.out.below HB1.out)).mono ?_
  rintro e w2 ⟨a2, l2, c2, rfl, ho2, hb2⟩
  have hl2 : len = l2 := HL.out.symm.trans ho2.1
  subst hl2
  have HO2 := Lib.hid ho2
  have HB2 := Lib.hid (below_up HB1.out hb2 (Nat.le_refl _))
  have HST2 := Lib.hid (HST1.out.below hb2 (by rw [HZ1.out]; omega))
  have hz2 : W.heap.size + 1 < w1.heap.size := by rw [HZ1.out]; omega
  clear ho2 hb2
  go_wp2_with fail
  go_loopw [14] (fun i wr => ∃ k : Nat, k ≤ len ∧ i = .int .i64 k ∧ Own .u8 5 wr w1.heap.size w2.heap.size a2 len c2 (over (encL key zs) zs k) ∧ StrmAt wr W.heap.size (W.heap.size + 1) key k ∧ Below W.heap.size W wr) (fun i _ => len - (intOf i).toNat)
  case atStart => exact ⟨0, Nat.zero_le _, rfl, by rw [over_zero]; exact HO2.out, HST2.out, HB2.out⟩
  case round =>
    obtain ⟨k, hk, rfl, ho, hst, hb⟩ := hrel
    have HO := Lib.hid ho
    have HST := Lib.hid hst
    have HB := Lib.hid hb
    by_cases hlt : k < len
    · rcases ho.spot with ⟨_, hx, _⟩ | ⟨g, rfl, hg1, hg2, _, _, hcs, hfz⟩
      · omega
      · have hcd := hcs k hlt
        have hfd := hfz k
        have HG := Lib.hid hg1
        have hgW : W.heap.size + 1 < g := by omega
        have hgs : g < wr.heap.size := Nat.lt_of_lt_of_le hg2 ho.2.2.1
        rw [over_at _ _ _ (encL_len _ _) (by rw [HL.out]; exact hlt)] at hcd
        have hzb := bounds_u8 (HS.out.2.1 _ (getD_mem (j := k) (by rw [HL.out]; exact hlt)))
        obtain ⟨z, hze⟩ : ∃ z, z = zs.getD k 0 := ⟨_, rfl⟩
        rw [← hze] at hcd hzb
        have HZE := Lib.hid hze
        obtain ⟨hzb0, hzb1⟩ := hzb
        have hsb := strm_bd key k
        obtain ⟨hsb0, hsb1⟩ := hsb
        have hk0' : (0 : Int) ≤ (k : Int) := by omega
        have hklt : (k : Int) < (len : Int) := by omega
        have HCD : Hid (wr.drew.cell? ⟨g, k, none⟩ = some (.int .u8 z)) := Lib.hid (by simpa using hcd)
        have HFD : Hid (wr.drew.frozen? ⟨g, k, none⟩ = false) := Lib.hid (by simpa using hfd)
        clear hcs hfz ho hst hb hze hg1
        go_wp2_with fail
        go_region_with (first | (go_at_call 62; refine (next_any _ _ _ key k hk0 hk1 (by omega) (HST.out.drew)).mono ?_; rintro e w3 ⟨rfl, hst3, hm3⟩; have hc3 := (hm3.cell (b := g) (o := k) hgs (by omega)).trans HCD.out; have hf3 := (hm3.frozen (b := g) (o := k) hgs (by omega)).trans HFD.out; have HST3 := Lib.hid hst3; have HM3 := Lib.hid hm3; clear hst3 hm3))
        all_goals (go_wp2)
        all_goals
          go_roundw
          case rel =>
            have hst := ((HO.out.below (Below.refl _ _).drew).moved HM3.out (.inr hz2)).stored k ((z + strm key k) % 256) (WalkArith.wf_u8 (by omega))
            have e := over_set (encL key zs) zs k (encL_len _ _) (by rw [encL_len, HL.out]; exact hlt)
            rw [encL_at (by rw [HL.out]; exact hlt), ← HZE.out] at e
            rw [e] at hst
            exact ⟨k + 1, by omega, by go_num, hst.1, HST3.out.moved hst.2 hz2, below_moved (below_moved HB.out.drew HM3.out (Nat.le_refl _) (Nat.le_succ _)) hst.2 (Nat.le_refl _) (by omega)⟩
          case measure => simp [intOf]; omega
    · obtain rfl : k = len := by omega
      clear ho hst hb
      go_wp2
      go_ret
      have h := HO.out
      have e : over (encL key zs) zs k = encL key zs := by
        have := over_all (encL key zs) zs (encL_len _ _)
        rwa [encL_len, HL.out] at this
      rw [e] at h
      exact ⟨_, _, _, rfl, h.wide (by omega) h.2.2.1 (Nat.le_refl _), HB.out⟩
set_option maxHeartbeats 1600000 in
theorem decrypt_any (W : World) (key : Int) (a : Option Addr) (len cap : Nat) (zs : List Int) (hk0 : -9223372036854775808 ≤ key) (hk1 : key ≤ 9223372036854775807) (hl : len ≤ 1073741824) (hs : Sees .u8 W a len zs) :
    Calls Try.prog 16 #[.int .i64 key, .slice a len cap] W (Made .u8 5 (decL key zs) W) := by
  have HS := Lib.hid hs
  have HL := Lib.hid hs.1
  clear hs
  go_enter Try.func16, Try.ntmps16
  go_wp2_with fail
  go_at_call 48
  refine (keyStream_any _ key).mono ?_
  rintro e w1 ⟨rfl, hst1, hb1, hz1⟩
  have HST1 := Lib.hid hst1
  have HB1 := Lib.hid hb1
  have HZ1 := Lib.hid hz1
  clear hst1 hb1 hz1
  go_wp2_with fail
  go_at_call 49
  refine (copyBytes_any _ _ _ _ _ _ hl (by decide) (by decide) (HS.out.below HB1.out)).mono ?_
  rintro e w2 ⟨a2, l2, c2, rfl, ho2, hb2⟩
  have hl2 : len = l2 := HL.out.symm.trans ho2.1
  subst hl2
  have HO2 := Lib.hid ho2
  have HB2 := Lib.hid (below_up HB1.out hb2 (Nat.le_refl _))
  have HST2 := Lib.hid (HST1.out.below hb2 (by rw [HZ1.out]; omega))
  have hz2 : W.heap.size + 1 < w1.heap.size := by rw [HZ1.out]; omega
  clear ho2 hb2
  go_wp2_with fail
  go_loopw [14] (fun i wr => ∃ k : Nat, k ≤ len ∧ i = .int .i64 k ∧ Own .u8 5 wr w1.heap.size w2.heap.size a2 len c2 (over (decL key zs) zs k) ∧ StrmAt wr W.heap.size (W.heap.size + 1) key k ∧ Below W.heap.size W wr) (fun i _ => len - (intOf i).toNat)
  case atStart => exact ⟨0, Nat.zero_le _, rfl, by rw [over_zero]; exact HO2.out, HST2.out, HB2.out⟩
  case round =>
    obtain ⟨k, hk, rfl, ho, hst, hb⟩ := hrel
    have HO := Lib.hid ho
    have HST := Lib.hid hst
    have HB := Lib.hid hb
    by_cases hlt : k < len
    · rcases ho.spot with ⟨_, hx, _⟩ | ⟨g, rfl, hg1, hg2, _, _, hcs, hfz⟩
      · omega
      · have hcd := hcs k hlt
        have hfd := hfz k
        have HG := Lib.hid hg1
        have hgW : W.heap.size + 1 < g := by omega
        have hgs : g < wr.heap.size := Nat.lt_of_lt_of_le hg2 ho.2.2.1
        rw [over_at _ _ _ (decL_len _ _) (by rw [HL.out]; exact hlt)] at hcd
        have hzb := bounds_u8 (HS.out.2.1 _ (getD_mem (j := k) (by rw [HL.out]; exact hlt)))
        obtain ⟨z, hze⟩ : ∃ z, z = zs.getD k 0 := ⟨_, rfl⟩
        rw [← hze] at hcd hzb
        have HZE := Lib.hid hze
        obtain ⟨hzb0, hzb1⟩ := hzb
        have hsb := strm_bd key k
        obtain ⟨hsb0, hsb1⟩ := hsb
        have hk0' : (0 : Int) ≤ (k : Int) := by omega
        have hklt : (k : Int) < (len : Int) := by omega
        have HCD : Hid (wr.drew.cell? ⟨g, k, none⟩ = some (.int .u8 z)) := Lib.hid (by simpa using hcd)
        have HFD : Hid (wr.drew.frozen? ⟨g, k, none⟩ = false) := Lib.hid (by simpa using hfd)
        clear hcs hfz ho hst hb hze hg1
        go_wp2_with fail
        go_region_with (first | (go_at_call 62; refine (next_any _ _ _ key k hk0 hk1 (by omega) (HST.out.drew)).mono ?_; rintro e w3 ⟨rfl, hst3, hm3⟩; have hc3 := (hm3.cell (b := g) (o := k) hgs (by omega)).trans HCD.out; have hf3 := (hm3.frozen (b := g) (o := k) hgs (by omega)).trans HFD.out; have HST3 := Lib.hid hst3; have HM3 := Lib.hid hm3; clear hst3 hm3))
        all_goals (go_wp2)
        all_goals
          go_roundw
          case rel =>
            have hst := ((HO.out.below (Below.refl _ _).drew).moved HM3.out (.inr hz2)).stored k ((z - strm key k) % 256) (WalkArith.wf_u8 (by omega))
            have e := over_set (decL key zs) zs k (decL_len _ _) (by rw [decL_len, HL.out]; exact hlt)
            rw [decL_at (by rw [HL.out]; exact hlt), ← HZE.out] at e
            rw [e] at hst
            exact ⟨k + 1, by omega, by go_num, hst.1, HST3.out.moved hst.2 hz2, below_moved (below_moved HB.out.drew HM3.out (Nat.le_refl _) (Nat.le_succ _)) hst.2 (Nat.le_refl _) (by omega)⟩
          case measure => simp [intOf]; omega
    · obtain rfl : k = len := by omega
      clear ho hst hb
      go_wp2
      go_ret
      have h := HO.out
      have e : over (decL key zs) zs k = decL key zs := by
        have := over_all (decL key zs) zs (decL_len _ _)
        rwa [decL_len, HL.out] at this
      rw [e] at h
      exact ⟨_, _, _, rfl, h.wide (by omega) h.2.2.1 (Nat.le_refl _), HB.out⟩
end Go.Proofs.Ytklookaggnohdaa
