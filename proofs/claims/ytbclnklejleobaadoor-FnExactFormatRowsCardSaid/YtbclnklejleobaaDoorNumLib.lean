/- Plain facts on decimal numerals, of no program: a numeral parses to its number, and only numerals of numbers in range do. -/
import Derived.Lib.AtoiTie
import Derived.Lib.ItoaLen
import Derived.Lib.ItoaMem
namespace Go.Proofs.YtbclnklejleobaaDoor
open Go.Lib
theorem decFrom_snoc : ∀ (l : List UInt8) (acc n : Nat) (c : UInt8) (d : Nat), decFrom acc l = some n → digitVal c = some d → decFrom acc (l ++ [c]) = some (n * 10 + d)
  | [], acc, n, c, d, h, hc => by
    simp only [decFrom, Option.some.injEq] at h
    subst h
    simp [decFrom, hc]
  | b :: r, acc, n, c, d, h, hc => by
    simp only [decFrom, List.cons_append] at h ⊢
    split at h
    · exact decFrom_snoc r _ n c d h hc
    · cases h
theorem digit_val (d : Nat) (h : d < 10) : digitVal (UInt8.ofNat (48 + d)) = some d := by
  unfold digitVal
  have e : (UInt8.ofNat (48 + d)).toNat = 48 + d := by simp; omega
  rw [e, if_pos (by omega)]
  simp
theorem decFrom_digits (n : Nat) : decFrom 0 (decDigits n) = some n := by
  induction n using Nat.strongRecOn with
  | _ n ih =>
    rw [decDigits]
    split
    · next h =>
      simp only [decFrom, digit_val n h]
      rw [Nat.zero_mul, Nat.zero_add]
    · next h =>
      have := decFrom_snoc _ _ _ _ _ (ih (n / 10) (by omega)) (digit_val (n % 10) (by omega))
      rw [this]
      congr 1
      omega
theorem digits_inj {a b : Nat} (h : decDigits a = decDigits b) : a = b := by
  have h1 := decFrom_digits a
  rw [h, decFrom_digits b] at h1
  exact (Option.some.inj h1).symm
theorem digits_ne (n : Nat) : decDigits n ≠ [] := by
  intro h
  have := congrArg List.length h
  rw [decDigits_length] at this
  have := nDigits_pos n
  simp at *
  omega
theorem nDigits_le : ∀ (k n : Nat), n < 10 ^ (k + 1) → nDigits n ≤ k + 1
  | 0, n, h => by rw [nDigits_small (by simpa using h)]; omega
  | k + 1, n, h => by
    by_cases h1 : n < 10
    · rw [nDigits_small h1]; omega
    · rw [nDigits_big h1]
      have := nDigits_le k (n / 10) (by rw [Nat.pow_succ] at h; omega)
      omega
theorem digits_len {n : Nat} (h : n ≤ 1000000000000) : (decDigits n).length ≤ 13 := by
  rw [decDigits_length]
  exact nDigits_le 12 n (by omega)
theorem decNat_digits (n : Nat) : decNat (decDigits n) = some n := by
  unfold decNat
  have h := digits_ne n
  have h2 : (decDigits n).isEmpty = false := by cases hd : decDigits n with
    | nil => exact absurd hd h
    | cons a b => rfl
  rw [h2]
  exact decFrom_digits n
theorem atoi_digits (n : Nat) : atoi (decDigits n) = some (n : Int) := by
  have h1 := decNat_digits n
  have h2 := decFrom_digits n
  have h3 := digits_ne n
  cases hd : decDigits n with
  | nil => exact absurd hd h3
  | cons b r =>
    rw [hd] at h1 h2
    obtain ⟨d, hv⟩ := digit_of_decFrom (b :: r) 0 n h2 0 b rfl
    obtain ⟨g1, g2, _⟩ := digitVal_eq hv
    have e45 : (b == 45) = false := by
      rw [beq_eq_false_iff_ne]; intro h; subst h; simp at g1
    have e43 : (b == 43) = false := by
      rw [beq_eq_false_iff_ne]; intro h; subst h; simp at g1
    simp [atoi, e45, e43, h1]
theorem atoiAll_digits {n : Nat} (h : n ≤ 1000000000000) : atoiAll (decDigits n) = .ok (n : Int) := by
  rw [atoiAll_short _ (by have := digits_len h; omega), atoi_digits]
  rfl
theorem itoa_ne_of_neg {n : Int} (hn : n < 0) (m : Nat) : itoa n ≠ decDigits m := by
  intro h
  have h2 := decFrom_digits m
  rw [← h] at h2
  unfold itoa at h2
  rw [if_pos hn] at h2
  simp [decFrom, digitVal] at h2
/-- What ParseInt looks for: the number whose numeral the string is. -/
def IsNum (l : List UInt8) (n : Nat) : Prop := n ≤ 1000000000000 ∧ l = decDigits n
theorem isNum_digits {l : List UInt8} {n : Nat} (h : IsNum l n) : decFrom 0 l = some n := by rw [h.2]; exact decFrom_digits n
theorem isNum_unique {l : List UInt8} {a b : Nat} (h : IsNum l a) (g : IsNum l b) : a = b := digits_inj (h.2.symm.trans g.2)
end Go.Proofs.YtbclnklejleobaaDoor
