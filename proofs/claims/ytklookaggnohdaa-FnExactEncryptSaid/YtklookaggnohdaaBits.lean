/- Bits of numbers that are not negative. -/
import Derived.Test.YtklookaggnohdaaVarLib
import Derived.WalkKit
import Derived.ProofKit
namespace Go.Proofs.Ytklookaggnohdaa
open Go.RowKit
theorem ofInt_nat64 (a : Nat) (h : a < 9223372036854775808) : (BitVec.ofInt 64 (a : Int)).toNat = a := by
  rw [BitVec.ofInt_natCast, BitVec.toNat_ofNat]; exact Nat.mod_eq_of_lt (by omega)
theorem and_i64_nat (a b : Nat) (ha : a < 9223372036854775808) (hb : b < 9223372036854775808) : bits .and .i64 (a : Int) (b : Int) = ((a &&& b : Nat) : Int) := by
  have h3 : a &&& b ≤ a := Nat.and_le_left
  show IntKind.i64.wrap ((BitVec.ofInt 64 (a : Int) &&& BitVec.ofInt 64 (b : Int)).toNat : Int) = _
  rw [BitVec.toNat_and, ofInt_nat64 a ha, ofInt_nat64 b hb, IntWalk.i64_in _ (by omega)]
theorem or_i64_nat (a b : Nat) (ha : a < 9223372036854775808) (hb : b < 9223372036854775808) : bits .or .i64 (a : Int) (b : Int) = ((a ||| b : Nat) : Int) := by
  have h3 : a ||| b < 2 ^ 63 := Nat.or_lt_two_pow (by omega) (by omega)
  show IntKind.i64.wrap ((BitVec.ofInt 64 (a : Int) ||| BitVec.ofInt 64 (b : Int)).toNat : Int) = _
  rw [BitVec.toNat_or, ofInt_nat64 a ha, ofInt_nat64 b hb, IntWalk.i64_in _ (by omega)]
theorem ofInt_nat8 (a : Nat) (h : a < 256) : (BitVec.ofInt 8 (a : Int)).toNat = a := by
  rw [BitVec.ofInt_natCast, BitVec.toNat_ofNat]; exact Nat.mod_eq_of_lt (by omega)
theorem or_u8_nat (a b : Nat) (ha : a < 256) (hb : b < 256) : bits .or .u8 (a : Int) (b : Int) = ((a ||| b : Nat) : Int) := by
  have h3 : a ||| b < 2 ^ 8 := Nat.or_lt_two_pow (by omega) (by omega)
  show IntKind.u8.wrap ((BitVec.ofInt 8 (a : Int) ||| BitVec.ofInt 8 (b : Int)).toNat : Int) = _
  rw [BitVec.toNat_or, ofInt_nat8 a ha, ofInt_nat8 b hb]
  simp [IntKind.wrap, IntKind.bits, IntKind.signed]
  omega
theorem and_127 (m : Nat) (h : m < 9223372036854775808) : bits .and .i64 (m : Int) 127 = ((m % 128 : Nat) : Int) := by
  have := and_i64_nat m 127 h (by decide)
  rw [show (127 : Nat) = 2 ^ 7 - 1 from rfl, Nat.and_two_pow_sub_one_eq_mod] at this
  exact this
theorem or_add (a b j : Nat) (h : a < 2 ^ j) : a ||| (b * 2 ^ j) = a + b * 2 ^ j := by
  rw [Nat.or_comm, Nat.mul_comm b, ← Nat.two_pow_add_eq_or_of_lt h, Nat.add_comm]
theorem or_128 (a : Nat) (h : a < 128) : bits .or .i64 (a : Int) 128 = ((a + 128 : Nat) : Int) := by
  have := or_i64_nat a 128 (by omega) (by decide)
  rw [show (128 : Nat) = 1 * 2 ^ 7 from rfl, or_add a 1 7 h] at this
  exact this
theorem or_128_u8 (a : Nat) (h : a < 128) : bits .or .u8 128 (a : Int) = ((a + 128 : Nat) : Int) := by
  have := or_u8_nat 128 a (by decide) (by omega)
  rw [Nat.or_comm, show (128 : Nat) = 1 * 2 ^ 7 from rfl, or_add a 1 7 h] at this
  exact this
theorem enc_step (m : Nat) (h : m < 9223372036854775808) : bits .or .i64 (bits .and .i64 (m : Int) 127) 128 = ((m % 128 + 128 : Nat) : Int) := by
  rw [and_127 m h, or_128 _ (by omega)]
theorem pow128_two (k : Nat) : (128 : Int) ^ k = 2 ^ (7 * k) := by
  rw [Int.pow_mul]; rfl
theorem pow128_nat (k : Nat) : ((128 ^ k : Nat) : Int) = 128 ^ k := by
  rw [Int.natCast_pow]; rfl
/-- A group goes into the number. -/
theorem or_group {n x kx : Int} {k : Nat} (hk : kx = k) (h6 : k < 6) (h0 : 0 ≤ n) (h1 : n < 128 ^ k) (hx0 : 0 ≤ x) (hx1 : x ≤ 255) :
    bits .or .i64 n (wrap64 (bits .and .i64 x 127 * 2 ^ (7 * kx).toNat)) = addG n x k := by
  obtain ⟨y, rfl⟩ : ∃ y : Nat, x = y := ⟨x.toNat, by omega⟩
  obtain ⟨m, rfl⟩ : ∃ m : Nat, n = m := ⟨n.toNat, by omega⟩
  have hb := addG_bd (x := (y : Int)) h0 h1
  have h2 := pow128_lt (k := k + 1) (by omega)
  have hp := pow128_pos k
  have e1 : (7 * kx).toNat = 7 * k := by omega
  have e2 : ((y % 128 : Nat) : Int) * 2 ^ (7 * k) = ((y % 128 * 128 ^ k : Nat) : Int) := by
    rw [← pow128_two, Int.natCast_mul, pow128_nat]
  have e3 : addG (m : Int) y k = ((m + y % 128 * 128 ^ k : Nat) : Int) := by
    unfold addG
    rw [Int.natCast_add, Int.natCast_mul, pow128_nat]
    rfl
  rw [e3] at hb
  have hm : m < 128 ^ k := by rw [← pow128_nat] at h1; omega
  rw [and_127 y (by omega), e1, e2, IntWalk.wrap64_in _ ⟨by omega, by omega⟩, or_i64_nat _ _ (by omega) (by omega), e3]
  have := or_add m (y % 128) (7 * k) (by rw [Nat.pow_mul]; exact hm)
  rw [Nat.pow_mul] at this
  rw [show (128 : Nat) = 2 ^ 7 from rfl]
  rw [show (128 : Nat) = 2 ^ 7 from rfl] at this
  rw [this]
theorem or_group' {n x kx : Int} {k : Nat} (hk : kx = k) (h6 : k < 6) (h0 : 0 ≤ n) (h1 : n < 128 ^ k) (hx0 : 0 ≤ x) (hx1 : x ≤ 255) :
    bits .or .i64 n (wrap64 (x % 128 * 2 ^ (7 * kx).toNat)) = addG n x k := by
  rw [← or_group hk h6 h0 h1 hx0 hx1]
  obtain ⟨y, rfl⟩ : ∃ y : Nat, x = y := ⟨x.toNat, by omega⟩
  rw [and_127 y (by omega)]
  rfl
end Go.Proofs.Ytklookaggnohdaa
