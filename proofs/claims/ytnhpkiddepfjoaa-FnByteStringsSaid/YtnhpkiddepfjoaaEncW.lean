/- The varint written: the model's function and the program's. -/
import Derived.Test.YtnhpkiddepfjoaaSlB
import Derived.Test.YtnhpkiddepfjoaaIntW
import Derived.Test.YtnhpkiddepfjoaaVarLib
import Derived.Test.YtnhpkiddepfjoaaBits
namespace Go.Proofs.Ytnhpkiddepfjoaa
open Go.RowKit
theorem inU_iff (n : Int) : inR n 0 1000000000000 = true ↔ inU n := by rw [inR_true]; rfl
theorem enc_wf (n : Nat) : ∀ x ∈ enc n, (Lit.int .u8 x).wf = true := fun x hx => WalkArith.wf_u8 (by have := enc_bytes n x hx; omega)
/-- Where the writing of a number stands: xs is written, m is left. -/
def Writing (zs : List Int) (n : Nat) (xs : List Int) (m : Nat) : Prop := m ≤ 1000000000000 ∧ xs ++ enc m = zs ++ enc n
theorem writing_start {zs : List Int} {n : Nat} (h : n ≤ 1000000000000) : Writing zs n zs n := ⟨h, rfl⟩
theorem writing_next {zs xs : List Int} {n m : Nat} (h : Writing zs n xs m) (hm : 128 ≤ m) : Writing zs n (xs ++ [((m % 128 + 128 : Nat) : Int)]) (m / 128) := by
  refine ⟨by have := h.1; omega, ?_⟩
  rw [← h.2, enc_high hm]
  simp
theorem writing_last {zs xs : List Int} {n m : Nat} (h : Writing zs n xs m) (hm : m < 128) : xs ++ [(m : Int)] = zs ++ enc n := by
  rw [← h.2, enc_low hm]
theorem writing_len {zs xs : List Int} {n m : Nat} (h : Writing zs n xs m) (hn : n ≤ 1000000000000) : xs.length + 1 ≤ zs.length + 6 := by
  have h1 := congrArg List.length h.2
  have h2 := enc_pos m
  have h3 := enc_len6 hn
  simp at h1
  omega
theorem inU_nat {n : Int} (h : inU n) : ∃ m : Nat, n = m ∧ m ≤ 1000000000000 := by
  unfold inU at h
  exact ⟨n.toNat, by omega, by omega⟩
set_option maxHeartbeats 1600000 in
theorem specAppend_any (W : World) (a : Option Addr) (len cap : Nat) (zs : List Int) (n : Int) (hl : len ≤ 1073741824) (hs : Sees .u8 W a len zs) :
    Calls Try.prog 26 #[.slice a len cap, .int .i64 n] W (Made .u8 5 (encTo zs n) W) := by
  have HS := Lib.hid hs
  have HL := Lib.hid hs.1
  clear hs
  obtain ⟨i0, hi, hz0, hz1, hz2⟩ := info_parts info_u8
  by_cases hu : inU n
  · have HE := Lib.hid (encTo_in (zs := zs) hu)
    have hr := (inU_iff n).2 hu
    obtain ⟨n, rfl, hn⟩ := inU_nat hu
    clear hu
    have e0 : ((n : Int)).toNat = n := by omega
    rw [e0] at HE
    clear e0
    go_enter Try.func26, Try.ntmps26
    go_wp2_with (first | (go_at_call 53; refine (l1In_any _ _ _ _).mono ?_; rintro e w' ⟨rfl, rfl⟩) | (at_builtin; refine wp_append_sees rfl _ _ 22 rfl 5 i0 .u8 1 Try.underlying22 hi hz0 hz1 hz2 _ _ _ _ rfl _ _ (own_nil _ _ _) _ _ _ _ rfl (HS.out.alloc _) (by unfold maxLen; omega) (by omega) (by simp) ?_; intro a1 len1 cap1 w1 hlen1 ho1 hm1; have hl1 : len1 ≤ 1073741824 := (by omega); clear hlen1; have HO1 := Lib.hid ho1; have HB1 := Lib.hid (below_moved ((Below.refl W.heap.size W).alloc (Nat.le_refl _) _) hm1 (Nat.le_refl _) (Nat.le_refl _)); clear ho1 hm1))
    go_loopw [1, 5] (fun q v wr => ∃ (m : Nat) (a' : Option Addr) (len' cap' : Nat) (xs : List Int), q = .int .i64 m ∧ v = .slice a' len' cap' ∧ Writing zs n xs m ∧ Own .u8 5 wr W.heap.size wr.heap.size a' len' cap' xs ∧ Below W.heap.size W wr) (fun q _ _ => (intOf q).toNat)
    case atStart => exact ⟨n, a1, _, cap1, zs, rfl, rfl, writing_start hn, HO1.out, HB1.out⟩
    case round =>
      obtain ⟨m, a', len', cap', xs, rfl, rfl, hw, ho, hb⟩ := hrel
      have hm := hw.1
      have hl' : len' ≤ 1073741840 := by have := writing_len hw hn; have := ho.1; have := HL.out; omega
      have HW := Lib.hid hw
      have HO := Lib.hid ho
      have HB := Lib.hid hb
      have hsz := hb.size
      clear hw ho hb
      by_cases h7 : m < 128
      · go_wp2_with (first | (at_builtin; refine wp_append_sees rfl _ _ 22 rfl 5 i0 .u8 1 Try.underlying22 hi hz0 hz1 hz2 _ _ _ _ rfl _ _ (HO.out.alloc _) _ _ _ _ rfl (sees_one (by go_wf) _ _) (by unfold maxLen; omega) (by omega) (by simp; omega) ?_; intro a2 len2 cap2 w2 hlen2 ho2 hm2; clear hlen2; have HO2 := Lib.hid ho2; have HM2 := Lib.hid hm2; clear ho2 hm2))
        go_ret
        have h := HO2.out
        rw [writing_last HW.out h7, ← HE.out] at h
        exact ⟨_, _, _, rfl, h, below_moved (HB.out.alloc hsz _) HM2.out (Nat.le_refl _) (Nat.le_refl _)⟩
      · have hbit := enc_step m (by omega)
        go_wp2_with (first | (at_builtin; refine wp_append_sees rfl _ _ 22 rfl 5 i0 .u8 1 Try.underlying22 hi hz0 hz1 hz2 _ _ _ _ rfl _ _ (HO.out.alloc _) _ _ _ _ rfl (sees_one (x := ((m % 128 + 128 : Nat) : Int)) (WalkArith.wf_u8 (by omega)) _ _) (by unfold maxLen; omega) (by omega) (by simp; omega) ?_; intro a2 len2 cap2 w2 hlen2 ho2 hm2; clear hlen2; have HO2 := Lib.hid ho2; have HM2 := Lib.hid hm2; clear ho2 hm2))
        go_roundw
        case rel => exact ⟨m / 128, a2, _, cap2, _, by go_num, rfl, writing_next HW.out (by omega), HO2.out, below_moved (HB.out.alloc hsz _) HM2.out (Nat.le_refl _) (Nat.le_refl _)⟩
        case measure => simp [intOf]; omega
  · have hr : inR n 0 1000000000000 = false := by
      cases h : inR n 0 1000000000000
      · rfl
      · exact absurd ((inU_iff n).1 h) hu
    have HE := Lib.hid (encTo_out (zs := zs) hu)
    clear hu
    go_enter Try.func26, Try.ntmps26
    go_wp2_with (first | (go_at_call 53; refine (l1In_any _ _ _ _).mono ?_; rintro e w' ⟨rfl, rfl⟩) | (at_builtin; refine wp_append_sees rfl _ _ 22 rfl 5 i0 .u8 1 Try.underlying22 hi hz0 hz1 hz2 _ _ _ _ rfl _ _ (own_nil _ _ _) _ _ _ _ rfl (HS.out.alloc _) (by unfold maxLen; omega) (by omega) (by simp) ?_; intro a1 len1 cap1 w1 hlen1 ho1 hm1; have hl1 : len1 ≤ 1073741824 := (by omega); clear hlen1; have HO1 := Lib.hid ho1; have HB1 := Lib.hid (below_moved ((Below.refl W.heap.size W).alloc (Nat.le_refl _) _) hm1 (Nat.le_refl _) (Nat.le_refl _)); clear ho1 hm1))
    go_ret
    refine ⟨_, _, _, rfl, ?_, HB1.out⟩
    rw [HE.out]
    exact HO1.out
theorem enc_step8 {x : Int} (m : Nat) (h : x = m) : bits .or .u8 128 (x % 128) = ((m % 128 + 128 : Nat) : Int) := by
  have := or_128_u8 (m % 128) (by omega)
  rw [← this, h]
  congr 1
set_option maxHeartbeats 1600000 in
/-- The program's writer: into a row of the call's own. -/
theorem write_any (W : World) (lo hi : Nat) (a : Option Addr) (len cap : Nat) (zs : List Int) (n : Int) (hl : len ≤ 1073741824) (hlo : lo ≤ W.heap.size) (hs : Own .u8 5 W lo hi a len cap zs) :
    Calls Try.prog 45 #[.slice a len cap, .int .i64 n] W fun e w' => ∃ a' len' cap', e = .returned (.slice a' len' cap') ∧ Own .u8 5 w' lo w'.heap.size a' len' cap' (encTo zs n) ∧ Below lo W w' := by
  have HS := Lib.hid hs
  have HL := Lib.hid hs.1
  clear hs
  obtain ⟨i0, hi0, hz0, hz1, hz2⟩ := info_parts info_u8
  by_cases hu : inU n
  · have HE := Lib.hid (encTo_in (zs := zs) hu)
    have hr := (inU_iff n).2 hu
    obtain ⟨n, rfl, hn⟩ := inU_nat hu
    clear hu
    have e0 : ((n : Int)).toNat = n := by omega
    rw [e0] at HE
    clear e0
    go_enter Try.func45, Try.ntmps45
    go_wp2_with (first | (go_at_call 47; refine (inRange_any _ _ _ _).mono ?_; rintro e w' ⟨rfl, rfl⟩))
    go_loopw [0, 1] (fun v q wr => ∃ (x : Int) (m : Nat) (a' : Option Addr) (len' cap' : Nat) (xs : List Int), q = .int .i64 x ∧ x = m ∧ v = .slice a' len' cap' ∧ Writing zs n xs m ∧ (∃ hi', Own .u8 5 wr lo hi' a' len' cap' xs) ∧ Below lo W wr) (fun _ q _ => (intOf q).toNat)
    case atStart => exact ⟨n, n, a, _, cap, zs, rfl, rfl, rfl, writing_start hn, ⟨_, HS.out⟩, Below.refl _ _⟩
    case round =>
      obtain ⟨x, m, a', len', cap', xs, rfl, hx, rfl, hw, ⟨hi', ho⟩, hb⟩ := hrel
      have hm := hw.1
      have hx0 : 0 ≤ x := by omega
      have hx1 : x ≤ 1000000000000 := by omega
      have HX := Lib.hid hx
      have hl' : len' ≤ 1073741840 := by have := writing_len hw hn; have := ho.1; have := HL.out; omega
      have HW := Lib.hid hw
      have HO := Lib.hid ho
      have HB := Lib.hid hb
      have hsz := hb.size
      have hbit := enc_step8 m hx
      clear hw ho hb hx hm
      by_cases h7 : x < 128
      · go_wp2_with (first | (at_builtin; refine wp_append_sees rfl _ _ 22 rfl 5 i0 .u8 1 Try.underlying22 hi0 hz0 hz1 hz2 _ _ _ _ rfl _ _ (HO.out.alloc _) _ _ _ _ rfl (sees_one (by go_wf) _ _) (by unfold maxLen; omega) (by omega) (by simp; omega) ?_; intro a2 len2 cap2 w2 hlen2 ho2 hm2; clear hlen2; have HO2 := Lib.hid ho2; have HM2 := Lib.hid hm2; clear ho2 hm2))
        go_ret
        have h := HO2.out
        rw [HX.out, writing_last HW.out (by have := HX.out; omega), ← HE.out] at h
        exact ⟨_, _, _, rfl, h, below_moved (HB.out.alloc (Nat.le_trans hlo hsz) _) HM2.out hlo (Nat.le_refl _)⟩
      · go_wp2_with (first | (at_builtin; refine wp_append_sees rfl _ _ 22 rfl 5 i0 .u8 1 Try.underlying22 hi0 hz0 hz1 hz2 _ _ _ _ rfl _ _ (HO.out.alloc _) _ _ _ _ rfl (sees_one (x := ((m % 128 + 128 : Nat) : Int)) (WalkArith.wf_u8 (by omega)) _ _) (by unfold maxLen; omega) (by omega) (by simp; omega) ?_; intro a2 len2 cap2 w2 hlen2 ho2 hm2; clear hlen2; have HO2 := Lib.hid ho2; have HM2 := Lib.hid hm2; clear ho2 hm2))
        go_roundw
        case rel => exact ⟨_, m / 128, a2, _, cap2, _, rfl, by have := HX.out; omega, rfl, writing_next HW.out (by have := HX.out; omega), ⟨_, HO2.out⟩, below_moved (HB.out.alloc (Nat.le_trans hlo hsz) _) HM2.out hlo (Nat.le_refl _)⟩
        case measure => simp [intOf]; omega
  · have hr : inR n 0 1000000000000 = false := by
      cases h : inR n 0 1000000000000
      · rfl
      · exact absurd ((inU_iff n).1 h) hu
    have HE := Lib.hid (encTo_out (zs := zs) hu)
    clear hu
    go_enter Try.func45, Try.ntmps45
    go_wp2_with (first | (go_at_call 47; refine (inRange_any _ _ _ _).mono ?_; rintro e w' ⟨rfl, rfl⟩))
    go_ret
    refine ⟨_, _, _, rfl, ?_, Below.refl _ _⟩
    rw [HE.out]
    exact HS.out.wide (Nat.le_refl _) HS.out.2.2.1 (Nat.le_refl _)
end Go.Proofs.Ytnhpkiddepfjoaa
