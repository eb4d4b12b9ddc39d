/- A copy with room, and the program's AppendUvarint. -/
import Derived.Test.YtklookaggnohdaaEncW
namespace Go.Proofs.Ytklookaggnohdaa
open Go.RowKit
set_option maxHeartbeats 800000 in
theorem copyBytes_any (W : World) (a : Option Addr) (len cap : Nat) (zs : List Int) (room : Int) (hl : len ≤ 1073741824) (hr0 : 0 ≤ room) (hr1 : room ≤ 1073741840) (hs : Sees .u8 W a len zs) :
    Calls Try.prog 49 #[.slice a len cap, .int .i64 room] W (Made .u8 5 zs W) := by
  have HS := Lib.hid hs
  have HL := Lib.hid hs.1
  clear hs
  obtain ⟨i0, hi, hz0, hz1, hz2⟩ := info_parts info_u8
  go_enter Try.func49, Try.ntmps49
  go_wp2_with (first | (at_make; refine wp_make_room _ rfl _ _ 22 rfl 5 i0 .u8 1 Try.underlying22 hi hz0 hz1 hz2 _ _ _ _ len (len + room.toNat) rfl rfl rfl (by omega) (by omega) (by omega) (by unfold maxLen; omega) ?_; intro w1 ho1 hb1; have HO1 := Lib.hid ho1; have HB1 := Lib.hid hb1; clear ho1 hb1) | (with_reducible show wpList _ _ _ (Oper.mk _ (Op.call (Call.mk (Callee.builtin Builtin.copy) _ _)) _ _ _ _ :: _) _ _; refine wp_copy_sees rfl _ _ 22 22 rfl 5 i0 .u8 Try.underlying22 hi hz1 _ _ _ _ rfl _ _ HO1.out _ _ _ _ rfl (HS.out.below HB1.out) ?_; intro w2 ho2 hm2; have HO2 := Lib.hid ho2; have HM2 := Lib.hid hm2; clear ho2 hm2))
  go_ret
  have h := HO2.out
  have e : zs.take len ++ (List.replicate len (0 : Int)).drop len = zs := by
    rw [List.take_of_length_le (by rw [HL.out]; exact Nat.le_refl _), List.drop_eq_nil_of_le (by simp), List.append_nil]
  rw [e] at h
  exact ⟨_, _, _, rfl, h.wide (Nat.le_refl _) h.2.2.1 (Nat.le_refl _), below_moved HB1.out HM2.out (Nat.le_refl _) (Nat.le_refl _)⟩
end Go.Proofs.Ytklookaggnohdaa
