/- Byte strings written: the model's AppendBytes and the program's. -/
import Derived.Test.YtnhpkiddepfjoaaEncI
namespace Go.Proofs.Ytnhpkiddepfjoaa
open Go.RowKit
def encBytes (zs ds : List Int) : List Int := encTo zs ds.length ++ ds
theorem encBytes_len (zs ds : List Int) : (encBytes zs ds).length ≤ zs.length + 6 + ds.length := by
  have := encTo_len zs ds.length
  simp [encBytes]
  omega
set_option maxHeartbeats 800000 in
theorem specAppendBytes_any (W : World) (a1 : Option Addr) (len1 cap1 : Nat) (a2 : Option Addr) (len2 cap2 : Nat) (zs ds : List Int) (hl1 : len1 ≤ 536870912) (hl2 : len2 ≤ 536870912) (hs1 : Sees .u8 W a1 len1 zs) (hs2 : Sees .u8 W a2 len2 ds) :
    Calls Try.prog 31 #[.slice a1 len1 cap1, .slice a2 len2 cap2] W (Made .u8 5 (encBytes zs ds) W) := by
  have HS1 := Lib.hid hs1
  have HS2 := Lib.hid hs2
  have HL1 := Lib.hid hs1.1
  have HL2 := Lib.hid hs2.1
  clear hs1 hs2
  obtain ⟨i0, hi, hz0, hz1, hz2⟩ := info_parts info_u8
  go_enter Try.func31, Try.ntmps31
  go_wp2_with fail
  go_at_call 26
  refine (specAppend_any _ _ _ _ zs _ (by omega) HS1.out).mono ?_
  rintro e w1 ⟨b1, l1, c1, rfl, ho, hb⟩
  have hl : l1 ≤ 536870918 := by have := ho.1; have := encTo_len zs (len2 : Int); have := HL1.out; omega
  have HO := Lib.hid ho
  have HB := Lib.hid hb
  have hsz := hb.size
  clear ho hb
  go_wp2_with (first | (at_builtin; refine wp_append_sees rfl _ _ 22 rfl 5 i0 .u8 1 Try.underlying22 hi hz0 hz1 hz2 _ _ _ _ rfl _ _ HO.out _ _ _ _ rfl (HS2.out.below HB.out) (by unfold maxLen; omega) (by omega) hsz ?_; intro b2 l2 c2 w2 hlen2 ho2 hm2; clear hlen2; have HO2 := Lib.hid ho2; have HM2 := Lib.hid hm2; clear ho2 hm2))
  go_ret
  have h := HO2.out
  have e : encTo zs (len2 : Int) ++ ds = encBytes zs ds := by unfold encBytes; rw [HL2.out]
  rw [e] at h
  exact ⟨_, _, _, rfl, h, below_moved HB.out HM2.out (Nat.le_refl _) (Nat.le_refl _)⟩
set_option maxHeartbeats 800000 in
theorem appendBytes_any (W : World) (a1 : Option Addr) (len1 cap1 : Nat) (a2 : Option Addr) (len2 cap2 : Nat) (zs ds : List Int) (hl1 : len1 ≤ 536870912) (hl2 : len2 ≤ 536870912) (hs1 : Sees .u8 W a1 len1 zs) (hs2 : Sees .u8 W a2 len2 ds) :
    Calls Try.prog 20 #[.slice a1 len1 cap1, .slice a2 len2 cap2] W (Made .u8 5 (encBytes zs ds) W) := by
  have HS1 := Lib.hid hs1
  have HS2 := Lib.hid hs2
  have HL1 := Lib.hid hs1.1
  have HL2 := Lib.hid hs2.1
  clear hs1 hs2
  obtain ⟨i0, hi, hz0, hz1, hz2⟩ := info_parts info_u8
  go_enter Try.func20, Try.ntmps20
  go_wp2_with fail
  go_at_call 46
  refine (copyBytes_any _ _ _ _ zs _ (by omega) (by omega) (by omega) HS1.out).mono ?_
  rintro e w1 ⟨b1, l1, c1, rfl, ho, hb⟩
  have hl : l1 ≤ 536870912 := by have := ho.1; have := HL1.out; omega
  have HO := Lib.hid ho
  have HB := Lib.hid hb
  have hsz := hb.size
  clear ho hb
  go_wp2_with fail
  go_at_call 45
  refine (write_any _ _ _ _ _ _ zs _ (by omega) hsz HO.out).mono ?_
  rintro e w2 ⟨b2, l2, c2, rfl, ho2, hb2⟩
  have hl2' : l2 ≤ 536870918 := by have := ho2.1; have := encTo_len zs (len2 : Int); have := HL1.out; omega
  have HO2 := Lib.hid ho2
  have HB2 := Lib.hid (HB.out.trans hb2)
  have hsz2 := HB2.out.size
  clear ho2 hb2
  go_wp2_with (first | (at_builtin; refine wp_append_sees rfl _ _ 22 rfl 5 i0 .u8 1 Try.underlying22 hi hz0 hz1 hz2 _ _ _ _ rfl _ _ HO2.out _ _ _ _ rfl (HS2.out.below HB2.out) (by unfold maxLen; omega) (by omega) hsz2 ?_; intro b3 l3 c3 w3 hlen3 ho3 hm3; clear hlen3; have HO3 := Lib.hid ho3; have HM3 := Lib.hid hm3; clear ho3 hm3))
  go_ret
  have h := HO3.out
  have e : encTo zs (len2 : Int) ++ ds = encBytes zs ds := by unfold encBytes; rw [HL2.out]
  rw [e] at h
  exact ⟨_, _, _, rfl, h, below_moved HB2.out HM3.out (Nat.le_refl _) (Nat.le_refl _)⟩
end Go.Proofs.Ytnhpkiddepfjoaa
