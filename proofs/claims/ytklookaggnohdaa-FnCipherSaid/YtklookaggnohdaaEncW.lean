/- The varint written: the model's function and the program's. -/
import Derived.Test.YtklookaggnohdaaSlB
import Derived.Test.YtklookaggnohdaaIntW
import Derived.Test.YtklookaggnohdaaVarLib
import Derived.Test.YtklookaggnohdaaBits
namespace Go.Proofs.Ytklookaggnohdaa
open Go.RowKit
theorem inU_iff (n : Int) : inR n 0 1000000000000 = true ↔ inU n := by rw [inR_true]; rfl
theorem enc_wf (n : Nat) : ∀ x ∈ enc n, (Lit.int .u8 x).wf = true := fun x hx => WalkArith.wf_u8 (by have := enc_bytes n x hx; omega)
/-- Where the writing of a number stands: xs is written, m is left. -/
def Writing (zs : List Int) (n : Nat) (xs : List Int) (m : Nat) : Prop := m ≤ 1000000000000 ∧ xs ++ enc m = zs ++ enc n
theorem writing_start {zs : List Int} {n : Nat} (h : n ≤ 1000000000000) : Writing zs n zs n := ⟨h, rfl⟩
theorem writing_next {zs xs : List Int} {n m : Nat} (h : Writing zs n xs m) (hm : 128 ≤ m) : Writing zs n (xs ++ [((m % 128 + 128 : Nat) : Int)]) (m / 128) := by
  refine ⟨by have := h.1; omega, ?_⟩
  rw [← h.2, enc_high hm]
  simp
theorem writing_last {zs xs : List Int} {n m : Nat} (h : Writing zs n xs m) (hm : m < 128) : xs ++ [(m : Int)] = zs ++ enc n := by
  rw [← h.2, enc_low hm]
theorem writing_len {zs xs : List Int} {n m : Nat} (h : Writing zs n xs m) (hn : n ≤ 1000000000000) : xs.length + 1 ≤ zs.length + 6 := by
  have h1 := congrArg List.length h.2
  have h2 := enc_pos m
  have h3 := enc_len6 hn
  simp at h1
  omega
theorem inU_nat {n : Int} (h : inU n) : ∃ m : Nat, n = m ∧ m ≤ 1000000000000 := by
  unfold inU at h
  exact ⟨n.toNat, by omega, by omega⟩
theorem enc_step8 {x : Int} (m : Nat) (h : x = m) : bits .or .u8 128 (x % 128) = ((m % 128 + 128 : Nat) : Int) := by
  have := or_128_u8 (m % 128) (by omega)
  rw [← this, h]
  congr 1
end Go.Proofs.Ytklookaggnohdaa
