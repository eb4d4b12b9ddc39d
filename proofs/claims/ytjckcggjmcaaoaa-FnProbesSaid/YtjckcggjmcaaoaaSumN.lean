/- The sum of a row; what a law's walk ends with. -/
import Derived.Test.YtjckcggjmcaaoaaNetsF
import Derived.Test.YtjckcggjmcaaoaaIntW
import Derived.Deep.RegionHeld3
namespace Go.Proofs.Ytjckcggjmcaaoaa
open Go.RowKit
def LawYes7 (W : World) (e : Ending) (w' : World) : Prop := e = .returned (.bool true) ∧ Below W.heap.size W w'
set_option maxRecDepth 20000 in
set_option maxHeartbeats 800000 in
theorem sum_any (W : World) (a : Option Addr) (len cap : Nat) (zs : List Int) (s : Int) (hl : len ≤ 8) (hb : ∀ x ∈ zs, 0 ≤ x ∧ x ≤ 1) (hs : Sees .i64 W a len zs) (hsum : sumN zs zs.length = s) :
    Calls Try.prog 11 #[.slice a len cap] W fun e w' => e = .returned (.int .i64 s) ∧ W = w' := by
  have HS := Lib.hid hs
  have HB := Lib.hid hb
  have HSUM := Lib.hid hsum
  clear hs hb hsum
  go_enter Try.func11, Try.ntmps11
  go_wp2
  go_loopw [3, 4] (fun t i wr => ∃ (k : Nat) (u : Int), k ≤ len ∧ i = .int .i64 k ∧ t = .int .i64 u ∧ Hid (u = sumN zs k) ∧ wr = W) (fun _ i _ => len - (intOf i).toNat)
  case atStart => exact ⟨0, 0, Nat.zero_le _, rfl, rfl, Lib.hid rfl, rfl⟩
  case round =>
    obtain ⟨k, u, hk, rfl, rfl, HU, rfl⟩ := hrel
    by_cases hlt : k < len
    · rcases HS.out.2.2 with h0 | ⟨b, o, rfl, hb, hc⟩
      · omega
      have hx := hc k hlt
      have hkz : k < zs.length := by rw [HS.out.1]; exact hlt
      have hbit := HB.out _ (getD_mem hkz)
      have hub := sumN_bits HB.out k (by omega)
      rw [← HU.out] at hub
      obtain ⟨y, hy⟩ : ∃ y, zs.getD k 0 = y := ⟨_, rfl⟩
      rw [hy] at hx hbit
      obtain ⟨hu0, hu1⟩ := hub
      obtain ⟨hy0, hy1⟩ := hbit
      have HN : Hid (u + y = sumN zs (k + 1)) := Lib.hid (by simp only [sumN]; rw [HU.out, hy])
      clear hc hy
      go_wp2
      go_roundw
      case rel => exact ⟨k + 1, u + y, by omega, by go_num, by go_num, HN, trivial⟩
      case measure => simp [intOf]; omega
    · obtain rfl : k = len := by omega
      have HE : Hid (u = s) := Lib.hid (by rw [HU.out, ← HSUM.out, HS.out.1])
      go_wp2
      go_ret
      exact ⟨ret_int HE.out, rfl⟩
theorem own_first {k : IntKind} {e : TypeId} {w : World} {lo hi g c : Nat} {q : Int} (h : Own k e w lo hi (some ⟨g, 0, none⟩) 1 c [q]) : w.cell? ⟨g, 0, none⟩ = some (.int k q) := by
  rcases h.spot with ⟨h0, _⟩ | ⟨g', hg, _, _, _, _, hc, _⟩
  · cases h0
  · cases hg; exact hc 0 (by omega)
theorem rowA_bits (p : List Int) (n : Int) : ∀ x ∈ rowA p n, 0 ≤ x ∧ x ≤ 1 := fun x hx => by
  unfold rowA at hx
  split at hx
  · obtain ⟨i, _, rfl⟩ := List.mem_map.1 hx
    split <;> omega
  · cases hx
end Go.Proofs.Ytjckcggjmcaaoaa
