/- The model's Encrypt and Decrypt. -/
import Derived.Test.YtklookaggnohdaaCipher
import Derived.Test.YtklookaggnohdaaStepSl
namespace Go.Proofs.Ytklookaggnohdaa
open Go.RowKit
/-- The keyed hash of one number, and what the stream makes of it. -/
def KeyX (key : Int) (k : Nat) (w : World) (e : Ending) (w' : World) : Prop := ∃ x : Int, x % 256 = strm key k ∧ (0 ≤ x ∧ x ≤ 2147483646) ∧ e = .returned (.int .i64 x) ∧ Below w.heap.size w w'
theorem specKeyX_any (W : World) (key : Int) (k : Nat) (a : Option Addr) (cap : Nat) (hk0 : -9223372036854775808 ≤ key) (hk1 : key ≤ 9223372036854775807) (hs : Sees .i64 W a 1 [(k : Int)]) :
    Calls Try.prog 29 #[.int .i64 key, .slice a 1 cap] W (KeyX key k W) :=
  (specKeyed_any W key a 1 cap [(k : Int)] hk0 hk1 (by decide) hs).mono fun _ _ ⟨he, hb⟩ => ⟨_, rfl, keyV_bd _ _, he, hb⟩
theorem encL_next {key : Int} {zs : List Int} {k : Nat} (h : k < zs.length) : (encL key zs).take k ++ [(zs.getD k 0 + strm key k) % 256] = (encL key zs).take (k + 1) := by
  rw [List.take_succ_eq_append_getElem (by rw [encL_len]; exact h), ← encL_at h]
  simp [List.getD, encL_len, h]
theorem decL_next {key : Int} {zs : List Int} {k : Nat} (h : k < zs.length) : (decL key zs).take k ++ [(zs.getD k 0 - strm key k) % 256] = (decL key zs).take (k + 1) := by
  rw [List.take_succ_eq_append_getElem (by rw [decL_len]; exact h), ← decL_at h]
  simp [List.getD, decL_len, h]
theorem specModR_any (v r : Int) (w : World) (hr : r = v % 256) (h0 : -9223372036854775808 ≤ v) (h1 : v ≤ 9223372036854775807) : Calls Try.prog 22 #[.int .i64 v, .int .i64 256] w fun e w' => e = .returned (.int .i64 r) ∧ w = w' :=
  (specMod_any v 256 w ⟨h0, h1⟩).mono fun _ _ ⟨he, hw⟩ => ⟨by rw [he, hr]; unfold modV; rw [if_pos (inR_true.2 (by decide))], hw⟩
set_option maxHeartbeats 1600000 in
theorem specEncrypt_any (W : World) (key : Int) (a : Option Addr) (len cap : Nat) (zs : List Int) (hk0 : -9223372036854775808 ≤ key) (hk1 : key ≤ 9223372036854775807) (hl : len ≤ 1073741824) (hs : Sees .u8 W a len zs) :
    Calls Try.prog 38 #[.int .i64 key, .slice a len cap] W (Made .u8 5 (encL key zs) W) := by
  have HS := Lib.hid hs
  have HL := Lib.hid hs.1
  clear hs
  obtain ⟨i0, hi, hz0, hz1, hz2⟩ := info_parts info_u8
  go_enter Try.func38, Try.ntmps38
  go_wp2_with fail
  go_loopw [5, 6] (fun v i wr => ∃ (k : Nat) (a' : Option Addr) (l' c' : Nat), k ≤ len ∧ i = .int .i64 k ∧ v = .slice a' l' c' ∧ Own .u8 5 wr W.heap.size wr.heap.size a' l' c' ((encL key zs).take k) ∧ Below W.heap.size W wr) (fun _ i _ => len - (intOf i).toNat)
  case atStart => exact ⟨0, _, _, _, Nat.zero_le _, rfl, rfl, by rw [List.take_zero]; exact (own_nil _ _ _).wide (Nat.le_refl _) (by simp) (Nat.le_refl _), (Below.refl _ _).alloc (Nat.le_refl _) _⟩
  case round =>
    obtain ⟨k, a', l', c', hk, rfl, rfl, ho, hb⟩ := hrel
    have HO := Lib.hid ho
    have HB := Lib.hid hb
    have hsz := hb.size
    have hl' : l' ≤ 1073741824 := by have h := ho.1; rw [List.length_take] at h; have := Nat.min_le_left k (encL key zs).length; omega
    by_cases hlt : k < len
    · rcases HS.out.2.2 with h0 | ⟨b, off, rfl, hbB, hcell⟩
      · omega
      · have hc := (hb.cell (p := ⟨b, off + k, none⟩) hbB).trans (hcell k hlt)
        have hvb := bounds_u8 (HS.out.2.1 _ (getD_mem (j := k) (by rw [HL.out]; exact hlt)))
        have HN := Lib.hid (encL_next (key := key) (zs := zs) (k := k) (by rw [HL.out]; exact hlt))
        obtain ⟨z, hze⟩ : ∃ z, z = zs.getD k 0 := ⟨_, rfl⟩
        rw [← hze] at hc hvb HN
        obtain ⟨hv0, hv1⟩ := hvb
        have hk0' : (0 : Int) ≤ (off : Int) + (k : Int) := by omega
        have hk2' : (0 : Int) ≤ (k : Int) := by omega
        have hklt : (k : Int) < (len : Int) := by omega
        have HBB := Lib.hid (Nat.lt_of_lt_of_le hbB hsz)
        have HC := Lib.hid hc
        have hsb := strm_bd key k
        obtain ⟨s, hse⟩ : ∃ s, s = strm key k := ⟨_, rfl⟩
        rw [← hse] at hsb HN
        have HSE := Lib.hid hse
        obtain ⟨hsb0, hsb1⟩ := hsb
        obtain ⟨r, hr⟩ : ∃ r, r = (z + s) % 256 := ⟨_, rfl⟩
        rw [← hr] at HN
        have hr0 : 0 ≤ r := by omega
        have hr1 : r ≤ 255 := by omega
        have hws : IntKind.i64.wrap (z + s) = z + s := IntWalk.i64_in _ (by omega)
        have hwt : (z + s).tmod 256 = r := by rw [hr]; exact Int.tmod_eq_emod_of_nonneg (by omega)
        have hwr : IntKind.u8.wrap r = r := IntWalk.u8_in _ (by omega)
        have hwz : IntKind.i64.wrap z = z := IntWalk.i64_in _ (by omega)
        clear hcell ho hb hze hse hr
        go_wp2_with fail
        go_region_held3 (fun w' => w'.cell? ⟨b, off + k, none⟩ = some (.int .u8 z)) (go_keep) (first | (go_at_call 29; refine (specKeyX_any _ key k _ _ hk0 hk1 ((sees_one (WalkArith.wf_i64 (by omega)) _ _).below (Below.refl _ _).drew)).mono ?_; rintro e w3 ⟨x, hx, ⟨hx0, hx1⟩, rfl, hb3⟩; have hc3 : w3.cell? ⟨b, off + k, none⟩ = some (.int .u8 z) := (hb3.cell (p := ⟨b, off + k, none⟩) (by simp; have := HBB.out; omega)).trans (by have := HBB.out; rw [World.cell?_drew, World.cell?_alloc_past _ _ _ this]; exact HC.out); have hxt : x.tmod 256 = s := (by rw [HSE.out, ← hx]; exact Int.tmod_eq_emod_of_nonneg hx0); have HO3 := Lib.hid (((HO.out.alloc _).below (Below.refl _ _).drew).below hb3); have HB3 := Lib.hid ((HB.out.alloc hsz _).drew.trans (hb3.mono (by simp; omega))); have hsz3 := HB3.out.size; clear hx hb3) | (refine step_append_sees rfl _ _ 22 rfl 5 i0 .u8 1 Try.underlying22 hi hz0 hz1 hz2 _ _ _ _ rfl _ _ (HO3.out.alloc _) _ 1 1 [r] rfl (sees_one (WalkArith.wf_u8 (by omega)) _ _) (by unfold maxLen; omega) (by omega) (by simp; omega) ?_; intro a4 len4 cap4 w4 hlen4 ho4 hm4; have hc4 : w4.cell? ⟨b, off + k, none⟩ = some (.int .u8 z) := ((hm4.below (B := W.heap.size) (Nat.le_refl _) (by simp; omega)).cell (p := ⟨b, off + k, none⟩) hbB).trans (by rw [World.cell?_alloc_past _ _ _ (by omega)]; exact hc3); clear hlen4; have HO4 := Lib.hid ho4; have HM4 := Lib.hid hm4; clear ho4 hm4))
        go_wp2
        go_roundw
        case rel => exact ⟨k + 1, _, _, _, by omega, by go_num, rfl, by rw [← HN.out]; exact HO4.out, below_moved (HB3.out.alloc hsz3 _) HM4.out (Nat.le_refl _) (Nat.le_refl _)⟩
        case measure => simp [intOf]; omega
    · have HE : Hid ((encL key zs).take k = encL key zs) := Lib.hid (List.take_of_length_le (by rw [encL_len, HL.out]; omega))
      clear ho hb
      go_wp2
      go_ret
      exact ⟨_, _, _, rfl, by have h := HO.out; rw [HE.out] at h; exact h, HB.out⟩
set_option maxHeartbeats 1600000 in
theorem specDecrypt_any (W : World) (key : Int) (a : Option Addr) (len cap : Nat) (zs : List Int) (hk0 : -9223372036854775808 ≤ key) (hk1 : key ≤ 9223372036854775807) (hl : len ≤ 1073741824) (hs : Sees .u8 W a len zs) :
    Calls Try.prog 40 #[.int .i64 key, .slice a len cap] W (Made .u8 5 (decL key zs) W) := by
  have HS := Lib.hid hs
  have HL := Lib.hid hs.1
  clear hs
  obtain ⟨i0, hi, hz0, hz1, hz2⟩ := info_parts info_u8
  go_enter Try.func40, Try.ntmps40
  go_wp2_with fail
  go_loopw [5, 6] (fun v i wr => ∃ (k : Nat) (a' : Option Addr) (l' c' : Nat), k ≤ len ∧ i = .int .i64 k ∧ v = .slice a' l' c' ∧ Own .u8 5 wr W.heap.size wr.heap.size a' l' c' ((decL key zs).take k) ∧ Below W.heap.size W wr) (fun _ i _ => len - (intOf i).toNat)
  case atStart => exact ⟨0, _, _, _, Nat.zero_le _, rfl, rfl, by rw [List.take_zero]; exact (own_nil _ _ _).wide (Nat.le_refl _) (by simp) (Nat.le_refl _), (Below.refl _ _).alloc (Nat.le_refl _) _⟩
  case round =>
    obtain ⟨k, a', l', c', hk, rfl, rfl, ho, hb⟩ := hrel
    have HO := Lib.hid ho
    have HB := Lib.hid hb
    have hsz := hb.size
    have hl' : l' ≤ 1073741824 := by have h := ho.1; rw [List.length_take] at h; have := Nat.min_le_left k (decL key zs).length; omega
    by_cases hlt : k < len
    · rcases HS.out.2.2 with h0 | ⟨b, off, rfl, hbB, hcell⟩
      · omega
      · have hc := (hb.cell (p := ⟨b, off + k, none⟩) hbB).trans (hcell k hlt)
        have hvb := bounds_u8 (HS.out.2.1 _ (getD_mem (j := k) (by rw [HL.out]; exact hlt)))
        have HN := Lib.hid (decL_next (key := key) (zs := zs) (k := k) (by rw [HL.out]; exact hlt))
        obtain ⟨z, hze⟩ : ∃ z, z = zs.getD k 0 := ⟨_, rfl⟩
        rw [← hze] at hc hvb HN
        obtain ⟨hv0, hv1⟩ := hvb
        have hk0' : (0 : Int) ≤ (off : Int) + (k : Int) := by omega
        have hk2' : (0 : Int) ≤ (k : Int) := by omega
        have hklt : (k : Int) < (len : Int) := by omega
        have HBB := Lib.hid (Nat.lt_of_lt_of_le hbB hsz)
        have HC := Lib.hid hc
        have hsb := strm_bd key k
        obtain ⟨s, hse⟩ : ∃ s, s = strm key k := ⟨_, rfl⟩
        rw [← hse] at hsb HN
        have HSE := Lib.hid hse
        obtain ⟨hsb0, hsb1⟩ := hsb
        obtain ⟨r, hr⟩ : ∃ r, r = (z - s) % 256 := ⟨_, rfl⟩
        rw [← hr] at HN
        have hr0 : 0 ≤ r := by omega
        have hr1 : r ≤ 255 := by omega
        have hws : IntKind.i64.wrap (z - s) = z - s := IntWalk.i64_in _ (by omega)
        have HR := Lib.hid hr
        have hwr : IntKind.u8.wrap r = r := IntWalk.u8_in _ (by omega)
        have hwz : IntKind.i64.wrap z = z := IntWalk.i64_in _ (by omega)
        clear hcell ho hb hze hse hr
        go_wp2_with fail
        go_region_held3 (fun w' => w'.cell? ⟨b, off + k, none⟩ = some (.int .u8 z)) (go_keep) (first | (go_at_call 29; refine (specKeyX_any _ key k _ _ hk0 hk1 ((sees_one (WalkArith.wf_i64 (by omega)) _ _).below (Below.refl _ _).drew)).mono ?_; rintro e w3 ⟨x, hx, ⟨hx0, hx1⟩, rfl, hb3⟩; have hc3 : w3.cell? ⟨b, off + k, none⟩ = some (.int .u8 z) := (hb3.cell (p := ⟨b, off + k, none⟩) (by simp; have := HBB.out; omega)).trans (by have := HBB.out; rw [World.cell?_drew, World.cell?_alloc_past _ _ _ this]; exact HC.out); have hxt : x.tmod 256 = s := (by rw [HSE.out, ← hx]; exact Int.tmod_eq_emod_of_nonneg hx0); have HO3 := Lib.hid (((HO.out.alloc _).below (Below.refl _ _).drew).below hb3); have HB3 := Lib.hid ((HB.out.alloc hsz _).drew.trans (hb3.mono (by simp; omega))); have hsz3 := HB3.out.size; clear hx hb3) | (go_at_call 22; refine (specModR_any (z - s) r _ HR.out (by omega) (by omega)).mono ?_; rintro e w' ⟨rfl, rfl⟩) | (refine step_append_sees rfl _ _ 22 rfl 5 i0 .u8 1 Try.underlying22 hi hz0 hz1 hz2 _ _ _ _ rfl _ _ (HO3.out.alloc _) _ 1 1 [r] rfl (sees_one (WalkArith.wf_u8 (by omega)) _ _) (by unfold maxLen; omega) (by omega) (by simp; omega) ?_; intro a4 len4 cap4 w4 hlen4 ho4 hm4; have hc4 : w4.cell? ⟨b, off + k, none⟩ = some (.int .u8 z) := ((hm4.below (B := W.heap.size) (Nat.le_refl _) (by simp; omega)).cell (p := ⟨b, off + k, none⟩) hbB).trans (by rw [World.cell?_alloc_past _ _ _ (by omega)]; exact hc3); clear hlen4; have HO4 := Lib.hid ho4; have HM4 := Lib.hid hm4; clear ho4 hm4))
        go_wp2
        go_roundw
        case rel => exact ⟨k + 1, _, _, _, by omega, by go_num, rfl, by rw [← HN.out]; exact HO4.out, below_moved (HB3.out.alloc hsz3 _) HM4.out (Nat.le_refl _) (Nat.le_refl _)⟩
        case measure => simp [intOf]; omega
    · have HE : Hid ((decL key zs).take k = decL key zs) := Lib.hid (List.take_of_length_le (by rw [decL_len, HL.out]; omega))
      clear ho hb
      go_wp2
      go_ret
      exact ⟨_, _, _, rfl, by have h := HO.out; rw [HE.out] at h; exact h, HB.out⟩
end Go.Proofs.Ytklookaggnohdaa
