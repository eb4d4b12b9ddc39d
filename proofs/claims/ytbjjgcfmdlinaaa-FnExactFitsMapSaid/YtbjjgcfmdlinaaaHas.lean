/- Whether a number is in a list, the model's. -/
import Derived.Test.YtbjjgcfmdlinaaaSlA
import Derived.Test.YtbjjgcfmdlinaaaIntW
namespace Go.Proofs.Ytbjjgcfmdlinaaa
open Go.RowKit
theorem next_all {P : Nat → Prop} {k : Nat} (h : ∀ j, j < k → P j) (h1 : P k) : ∀ j, j < k + 1 → P j := fun j hj => by
  rcases Nat.lt_or_eq_of_le (Nat.lt_succ_iff.1 hj) with h2 | h2
  · exact h j h2
  · rw [h2]; exact h1
def hasB (zs : List Int) (x : Int) : Bool := decide (x ∈ zs)
theorem hasB_yes {zs : List Int} {x : Int} {k : Nat} (hk : k < zs.length) (h : zs.getD k 0 = x) : hasB zs x = true := by
  unfold hasB
  rw [← h]
  exact decide_eq_true (getD_mem hk)
theorem hasB_no {zs : List Int} {x : Int} (h : ∀ j, j < zs.length → ¬ zs.getD j 0 = x) : hasB zs x = false := by
  unfold hasB
  refine decide_eq_false fun hm => ?_
  obtain ⟨j, hj, e⟩ := List.getElem_of_mem hm
  exact h j hj (by simp [List.getD, hj, e])
set_option maxRecDepth 20000 in
set_option maxHeartbeats 800000 in
theorem has_any (W : World) (a : Option Addr) (len cap : Nat) (zs : List Int) (x : Int) (hl : len ≤ 1073741824) (hs : Sees .i64 W a len zs) :
    Calls Try.prog 42 #[.slice a len cap, .int .i64 x] W fun e w' => e = .returned (.bool (hasB zs x)) ∧ W = w' := by
  have HS := Lib.hid hs
  have HL := Lib.hid hs.1
  clear hs
  obtain ⟨v, hv⟩ : ∃ v : Bool, v = hasB zs x := ⟨_, rfl⟩
  rw [← hv]
  have HV := Lib.hid hv
  clear hv
  go_enter Try.func42, Try.ntmps42
  go_wp2
  go_loopw [5] (fun i wr => ∃ k : Nat, k ≤ len ∧ i = .int .i64 k ∧ Hid (∀ j, j < k → ¬ zs.getD j 0 = x) ∧ wr = W) (fun i _ => len - (intOf i).toNat)
  case atStart => exact ⟨0, Nat.zero_le _, rfl, Lib.hid (fun j hj => by omega), rfl⟩
  case round =>
    obtain ⟨k, hk, rfl, HA, rfl⟩ := hrel
    by_cases hlt : k < len
    · rcases HS.out.2.2 with h0 | ⟨b, o, rfl, hb, hc⟩
      · omega
      have hx := hc k hlt
      obtain ⟨y, hy⟩ : ∃ y, zs.getD k 0 = y := ⟨_, rfl⟩
      rw [hy] at hx
      have HY := Lib.hid hy
      clear hc hy
      by_cases h : y = x
      · subst h
        have HE : Hid (v = true) := Lib.hid (by rw [HV.out]; exact hasB_yes (by rw [HL.out]; exact hlt) HY.out)
        go_wp2
        go_ret
        exact ⟨ret_bool HE.out.symm, rfl⟩
      · go_wp2
        go_roundw
        case rel => exact ⟨k + 1, by omega, by go_num, Lib.hid (next_all HA.out (by rw [HY.out]; exact h)), trivial⟩
        case measure => simp [intOf]; omega
    · obtain rfl : k = len := by omega
      have HE : Hid (v = false) := Lib.hid (by rw [HV.out]; exact hasB_no (fun j hj => HA.out j (by rw [HL.out] at hj; exact hj)))
      go_wp2
      go_ret
      exact ⟨ret_bool HE.out.symm, rfl⟩
end Go.Proofs.Ytbjjgcfmdlinaaa
