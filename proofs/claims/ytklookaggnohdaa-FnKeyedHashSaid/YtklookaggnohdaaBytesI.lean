/- Bytes as integers: the model's BytesToInts and the program's. -/
import Derived.Test.YtklookaggnohdaaConcat
namespace Go.Proofs.Ytklookaggnohdaa
open Go.RowKit
/-- The length, then each byte. -/
def bti (zs : List Int) : List Int := (zs.length : Int) :: zs
theorem bti_next {zs : List Int} {k : Nat} (h : k < zs.length) : ((zs.length : Int) :: zs.take k) ++ [zs.getD k 0] = (zs.length : Int) :: zs.take (k + 1) := by
  rw [List.take_succ_eq_append_getElem h]
  simp [List.getD, h]
set_option maxHeartbeats 1600000 in
theorem specBti_any (W : World) (a : Option Addr) (len cap : Nat) (zs : List Int) (hl : len ≤ 1073741000) (hs : Sees .u8 W a len zs) :
    Calls Try.prog 31 #[.slice a len cap] W (Made .i64 3 (bti zs) W) := by
  have HS := Lib.hid hs
  have HL := Lib.hid hs.1
  clear hs
  obtain ⟨i0, hi, hz0, hz1, hz2⟩ := info_parts info_i64
  have HK := Lib.hid (show (Lit.int .i64 (len : Int)).wf = true from WalkArith.wf_i64 (by omega))
  go_enter Try.func31, Try.ntmps31
  go_wp2_with fail
  go_loopw [3, 4] (fun v i wr => ∃ (k : Nat) (a' : Option Addr) (l' c' : Nat), k ≤ len ∧ i = .int .i64 k ∧ v = .slice a' l' c' ∧ Own .i64 3 wr W.heap.size wr.heap.size a' l' c' ((zs.length : Int) :: zs.take k) ∧ Below W.heap.size W wr) (fun _ i _ => len - (intOf i).toNat)
  case atStart => exact ⟨0, _, _, _, Nat.zero_le _, rfl, rfl, by rw [HL.out]; exact (own_one HK.out _ _).wide (Nat.le_refl _) (by simp) (Nat.le_refl _), (Below.refl _ _).alloc (Nat.le_refl _) _⟩
  case round =>
    obtain ⟨k, a', l', c', hk, rfl, rfl, ho, hb⟩ := hrel
    have HO := Lib.hid ho
    have HB := Lib.hid hb
    have hsz := hb.size
    have hl' : l' ≤ 1073741001 := by have h := ho.1; rw [List.length_cons, List.length_take] at h; have := Nat.min_le_left k zs.length; omega
    by_cases hlt : k < len
    · rcases HS.out.2.2 with h0 | ⟨b, off, rfl, hbB, hcell⟩
      · omega
      · have hc := (hb.cell (p := ⟨b, off + k, none⟩) hbB).trans (hcell k hlt)
        have hvb := bounds_u8 (HS.out.2.1 _ (getD_mem (j := k) (by rw [HL.out]; exact hlt)))
        have HN := Lib.hid (bti_next (zs := zs) (k := k) (by rw [HL.out]; exact hlt))
        obtain ⟨x, hx⟩ : ∃ x, x = zs.getD k 0 := ⟨_, rfl⟩
        rw [← hx] at hc hvb HN
        obtain ⟨hv0, hv1⟩ := hvb
        clear hcell ho hb hx
        go_wp2_with (at_builtin; refine wp_append_sees rfl _ _ 28 rfl 3 i0 .i64 8 Try.underlying28 hi hz0 hz1 hz2 _ _ _ _ rfl _ _ (HO.out.alloc _) _ _ _ _ rfl (sees_one (x := x) (WalkArith.wf_i64 (by omega)) _ _) (by unfold maxLen; omega) (by omega) (by simp; omega) ?_; intro b2 len2 cap2 w2 hlen2 ho2 hm2; clear hlen2; have HO2 := Lib.hid ho2; have HM2 := Lib.hid hm2; clear ho2 hm2)
        go_roundw
        case rel => exact ⟨k + 1, _, _, _, by omega, by go_num, rfl, by have h := HO2.out; rw [HN.out] at h; exact h, below_moved (HB.out.alloc hsz _) HM2.out (Nat.le_refl _) (Nat.le_refl _)⟩
        case measure => simp [intOf]; omega
    · have HE : Hid (zs.take k = zs) := Lib.hid (List.take_of_length_le (by rw [HL.out]; omega))
      clear ho hb
      go_wp2_with fail
      go_ret
      exact ⟨_, _, _, rfl, by have h := HO.out; rw [HE.out] at h; exact h, HB.out⟩
set_option maxHeartbeats 1600000 in
theorem bti_any (W : World) (a : Option Addr) (len cap : Nat) (zs : List Int) (hl : len ≤ 1073741000) (hs : Sees .u8 W a len zs) :
    Calls Try.prog 33 #[.slice a len cap] W (Made .i64 3 (bti zs) W) := by
  have HS := Lib.hid hs
  have HL := Lib.hid hs.1
  clear hs
  obtain ⟨i0, hi, hz0, hz1, hz2⟩ := info_parts info_i64
  have HK := Lib.hid (show (Lit.int .i64 (len : Int)).wf = true from WalkArith.wf_i64 (by omega))
  go_enter Try.func33, Try.ntmps33
  go_wp2_with fail
  go_loopw [3, 11] (fun v i wr => ∃ (k : Nat) (a' : Option Addr) (l' c' : Nat), k ≤ len ∧ i = .int .i64 k ∧ v = .slice a' l' c' ∧ Own .i64 3 wr W.heap.size wr.heap.size a' l' c' ((zs.length : Int) :: zs.take k) ∧ Below W.heap.size W wr) (fun _ i _ => len - (intOf i).toNat)
  case atStart => exact ⟨0, _, _, _, Nat.zero_le _, rfl, rfl, by rw [HL.out]; exact (own_one HK.out _ _).wide (Nat.le_refl _) (by simp) (Nat.le_refl _), (Below.refl _ _).alloc (Nat.le_refl _) _⟩
  case round =>
    obtain ⟨k, a', l', c', hk, rfl, rfl, ho, hb⟩ := hrel
    have HO := Lib.hid ho
    have HB := Lib.hid hb
    have hsz := hb.size
    have hl' : l' ≤ 1073741001 := by have h := ho.1; rw [List.length_cons, List.length_take] at h; have := Nat.min_le_left k zs.length; omega
    by_cases hlt : k < len
    · rcases HS.out.2.2 with h0 | ⟨b, off, rfl, hbB, hcell⟩
      · omega
      · have hc := (hb.cell (p := ⟨b, off + k, none⟩) hbB).trans (hcell k hlt)
        have hvb := bounds_u8 (HS.out.2.1 _ (getD_mem (j := k) (by rw [HL.out]; exact hlt)))
        have HN := Lib.hid (bti_next (zs := zs) (k := k) (by rw [HL.out]; exact hlt))
        obtain ⟨x, hx⟩ : ∃ x, x = zs.getD k 0 := ⟨_, rfl⟩
        rw [← hx] at hc hvb HN
        obtain ⟨hv0, hv1⟩ := hvb
        clear hcell ho hb hx
        go_wp2_with (at_builtin; refine wp_append_sees rfl _ _ 28 rfl 3 i0 .i64 8 Try.underlying28 hi hz0 hz1 hz2 _ _ _ _ rfl _ _ (HO.out.alloc _) _ _ _ _ rfl (sees_one (x := x) (WalkArith.wf_i64 (by omega)) _ _) (by unfold maxLen; omega) (by omega) (by simp; omega) ?_; intro b2 len2 cap2 w2 hlen2 ho2 hm2; clear hlen2; have HO2 := Lib.hid ho2; have HM2 := Lib.hid hm2; clear ho2 hm2)
        go_roundw
        case rel => exact ⟨k + 1, _, _, _, by omega, by go_num, rfl, by have h := HO2.out; rw [HN.out] at h; exact h, below_moved (HB.out.alloc hsz _) HM2.out (Nat.le_refl _) (Nat.le_refl _)⟩
        case measure => simp [intOf]; omega
    · have HE : Hid (zs.take k = zs) := Lib.hid (List.take_of_length_le (by rw [HL.out]; omega))
      clear ho hb
      go_wp2_with fail
      go_ret
      exact ⟨_, _, _, rfl, by have h := HO.out; rw [HE.out] at h; exact h, HB.out⟩
end Go.Proofs.Ytklookaggnohdaa
