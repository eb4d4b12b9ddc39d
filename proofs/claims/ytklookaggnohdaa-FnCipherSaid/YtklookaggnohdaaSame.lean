/- Equal slices are found the same; a byte of the law's input, or its substitute. -/
import Derived.Test.YtklookaggnohdaaSlI
import Derived.Test.YtklookaggnohdaaDrawNum
import Derived.Test.YtklookaggnohdaaBig
namespace Go.Proofs.Ytklookaggnohdaa
open Go.RowKit
set_option maxHeartbeats 400000 in
theorem sameB_yes (W : World) (a b : Option Addr) (len capa capb : Nat) (zs : List Int) (hl : len ≤ 1073741824) (ha : Sees .u8 W a len zs) (hb : Sees .u8 W b len zs) :
    Calls Try.prog 15 #[.slice a len capa, .slice b len capb] W fun e w' => e = .returned (.bool true) ∧ Below W.heap.size W w' := by
  have HA := Lib.hid ha
  have HZ := Lib.hid hb
  clear ha hb
  go_enter Try.func15, Try.ntmps15
  go_wp2
  go_loopw [5] (fun i wr => ∃ k : Nat, k ≤ len ∧ i = .int .i64 k ∧ Below W.heap.size W wr) (fun i _ => len - (intOf i).toNat)
  case atStart => exact ⟨0, Nat.zero_le _, rfl, Below.refl _ _⟩
  case round =>
    obtain ⟨k, hk, rfl, hbw⟩ := hrel
    have HB := Lib.hid hbw
    by_cases hlt : k < len
    · rcases HA.out.2.2 with h0 | ⟨b1, o1, rfl, hb1, hc1⟩
      · omega
      · rcases HZ.out.2.2 with h0 | ⟨b2, o2, rfl, hb2, hc2⟩
        · omega
        · have hx := (hbw.cell (p := ⟨b1, o1 + k, none⟩) hb1).trans (hc1 k hlt)
          have hy := (hbw.cell (p := ⟨b2, o2 + k, none⟩) hb2).trans (hc2 k hlt)
          clear hc1 hc2 hbw
          go_wp2
          go_quiet (fail)
          go_wp2
          go_roundw
          case rel => exact ⟨k + 1, by omega, by go_num, below_drewN HB.out _⟩
          case measure => simp [intOf]; omega
    · clear hbw
      go_wp2
      go_ret
      exact ⟨rfl, HB.out⟩
def RetTrue (W : World) (e : Ending) (w' : World) : Prop := e = .returned (.bool true) ∧ Below W.heap.size W w'
theorem at_any (W : World) (B : Nat) (a : Option Addr) (len cap : Nat) (i : Int) (hl : len ≤ 1048576) (hi0 : 0 ≤ i) (hi1 : i ≤ 1000000) (hc : CodeAt W B a len) : Calls Try.prog 21 #[.slice a len cap, .int .i64 i] W fun e w' => ∃ x : Int, (0 ≤ x ∧ x ≤ 255) ∧ e = .returned (.int .i64 x) ∧ W = w' := by
  by_cases h : i < len
  · rcases hc with h0 | ⟨b, off, rfl, _, hcell⟩
    · omega
    · obtain ⟨c, hcc, hc0, hc1⟩ := hcell i.toNat (by omega)
      clear hcell
      go_enter Try.func21, Try.ntmps21
      go_wp2
      go_ret
      exact ⟨c, ⟨hc0, hc1⟩, rfl, rfl⟩
  · clear hc
    go_enter Try.func21, Try.ntmps21
    go_wp2
    go_ret
    exact ⟨_, ⟨Int.emod_nonneg _ (by decide), by have := Int.emod_lt_of_pos (i * 31 + (len : Int) * 7) (show (0 : Int) < 256 by decide); omega⟩, rfl, rfl⟩
end Go.Proofs.Ytklookaggnohdaa
