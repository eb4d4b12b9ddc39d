/- The sum of the products, as machine integers have it. -/
import Derived.Test.YtedkeobhcpbigaaSlA
import Derived.Test.YtedkeobhcpbigaaIntW
import Derived.IntWalk
namespace Go.Proofs.Ytedkeobhcpbigaa
open Go.RowKit
/-- The sum of the first k products. -/
def dotW (xs ys : List Int) : Nat → Int
  | 0 => 0
  | k + 1 => IntKind.i64.wrap (dotW xs ys k + IntKind.i64.wrap (xs.getD k 0 * ys.getD k 0))
def dotV (xs ys : List Int) : Int := dotW xs ys (min xs.length ys.length)
theorem ret_intE {k : IntKind} {a b : Int} (h : a = b) : Ending.returned (.int k a) = .returned (.int k b) := by rw [h]
set_option maxHeartbeats 1600000 in
theorem specDot_any (W : World) (a : Option Addr) (la ca : Nat) (b : Option Addr) (lb cb : Nat) (xs ys : List Int) (hla : la ≤ 1073741824) (hlb : lb ≤ 1073741824) (ha : Sees .i64 W a la xs) (hb : Sees .i64 W b lb ys) :
    Calls Try.prog 82 #[.slice a la ca, .slice b lb cb] W fun e w' => e = .returned (.int .i64 (dotV xs ys)) ∧ Below W.heap.size W w' := by
  have HA := Lib.hid ha
  have HB := Lib.hid hb
  have HLA := Lib.hid ha.1
  have HLB := Lib.hid hb.1
  clear ha hb
  obtain ⟨v, hv⟩ : ∃ v, v = dotV xs ys := ⟨_, rfl⟩
  rw [← hv]
  have HV := Lib.hid hv
  clear hv
  go_enter Try.func82, Try.ntmps82
  go_wp2
  go_loopw [5, 6] (fun n i wr => ∃ (k : Nat) (x : Int), k ≤ la ∧ k ≤ lb ∧ i = .int .i64 k ∧ n = .int .i64 x ∧ Hid (x = dotW xs ys k) ∧ Below W.heap.size W wr) (fun _ i _ => la - (intOf i).toNat)
  case atStart => exact ⟨0, 0, Nat.zero_le _, Nat.zero_le _, rfl, rfl, Lib.hid rfl, Below.refl _ _⟩
  case round =>
    obtain ⟨k, x, hk, hk2, rfl, rfl, HX, hbw⟩ := hrel
    have HBW := Lib.hid hbw
    by_cases h1 : k < la
    · by_cases h2 : k < lb
      · rcases HA.out.2.2 with h0 | ⟨b1, o1, rfl, hb1, hc1⟩
        · omega
        · rcases HB.out.2.2 with h0 | ⟨b2, o2, rfl, hb2, hc2⟩
          · omega
          · have hx := (hbw.cell (p := ⟨b1, o1 + k, none⟩) hb1).trans (hc1 k h1)
            have hy := (hbw.cell (p := ⟨b2, o2 + k, none⟩) hb2).trans (hc2 k h2)
            obtain ⟨p, hp⟩ : ∃ p, p = xs.getD k 0 := ⟨_, rfl⟩
            obtain ⟨q, hq⟩ : ∃ q, q = ys.getD k 0 := ⟨_, rfl⟩
            rw [← hp] at hx
            rw [← hq] at hy
            obtain ⟨r, hr⟩ : ∃ r, IntKind.i64.wrap (p * q) = r := ⟨_, rfl⟩
            obtain ⟨s, hs⟩ : ∃ s, IntKind.i64.wrap (x + r) = s := ⟨_, rfl⟩
            have HN : Hid (s = dotW xs ys (k + 1)) := Lib.hid (by rw [← hs, ← hr, hp, hq, HX.out]; rfl)
            have hk0 : (0 : Int) ≤ (k : Int) := Int.natCast_nonneg _
            have h1i : (k : Int) < (la : Int) := by omega
            have h2i : (k : Int) < (lb : Int) := by omega
            clear hc1 hc2 hbw hp hq
            go_wp2_with fail
            go_quiet (fail)
            go_wp2
            go_roundw
            case rel => exact ⟨k + 1, s, by omega, by omega, by go_num, rfl, HN, below_drewN HBW.out _⟩
            case measure => simp [intOf]; omega
      · clear hbw
        obtain rfl : k = lb := by omega
        have HE : Hid (v = x) := Lib.hid (by rw [HV.out, HX.out]; unfold dotV; congr 1; have := HLA.out; have := HLB.out; omega)
        go_wp2
        go_ret
        exact ⟨ret_intE HE.out.symm, HBW.out⟩
    · clear hbw
      obtain rfl : k = la := by omega
      have HE : Hid (v = x) := Lib.hid (by rw [HV.out, HX.out]; unfold dotV; congr 1; have := HLA.out; have := HLB.out; omega)
      go_wp2
      go_ret
      exact ⟨ret_intE HE.out.symm, HBW.out⟩
end Go.Proofs.Ytedkeobhcpbigaa
