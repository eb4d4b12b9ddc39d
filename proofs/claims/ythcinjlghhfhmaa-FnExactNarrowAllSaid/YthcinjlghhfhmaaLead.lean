/- Where a row begins, and how the model makes it tidy. -/
import Derived.Test.YthcinjlghhfhmaaRedA
import Derived.Test.YthcinjlghhfhmaaSlA
import Derived.Test.YthcinjlghhfhmaaRatA
import Derived.IntWalk
namespace Go.Proofs.Ythcinjlghhfhmaa
open Go.RowKit
/-- Numbers whose products and differences stay far from the machine's ends. -/
def Fit (B : Int) (z : List Int) : Prop := ∀ j, -B ≤ vec z j ∧ vec z j ≤ B
theorem over_ahead {ys zs : List Int} {k : Nat} (hl : ys.length = zs.length) (hk : k < zs.length) : (over ys zs k).getD k 0 = zs.getD k 0 := by
  unfold over List.getD
  rw [List.getElem?_append_right (by simp; omega)]
  simp only [List.length_take, Nat.min_eq_left (show k ≤ ys.length by omega), Nat.sub_self, List.getElem?_drop, Nat.add_zero]
theorem gcdN_fit {n : Nat} {v : Nat → Int} {B : Nat} (h : ∀ j, j < n → (v j).natAbs ≤ B) : gcdN n v ≤ B := by
  induction n with
  | zero => exact Nat.zero_le _
  | succ n ih =>
    have h1 := ih fun j hj => h j (by omega)
    have h2 := h n (Nat.lt_succ_self n)
    rw [gcdN]
    by_cases h0 : gcdN n v = 0
    · rw [h0]
      simpa using h2
    · exact Nat.le_trans (Nat.le_of_dvd (by omega) (Int.natCast_dvd_natCast.1 (Int.gcd_dvd_left (gcdN n v : Int) (v n)))) h1
theorem Fit.gcd {B : Int} {z : List Int} (h : Fit B z) (hB : 0 ≤ B) (n : Nat) : (gcdN n (vec z) : Int) ≤ B := by
  have := gcdN_fit (n := n) (v := vec z) (B := B.toNat) (fun j _ => by have := h j; omega)
  omega
theorem tdiv_fit {z g B : Int} (h0 : -B ≤ z) (h1 : z ≤ B) : -B ≤ z.tdiv g ∧ z.tdiv g ≤ B := by
  have := Int.natAbs_tdiv_le_natAbs z g
  omega
theorem Fit.tidy {B : Int} {z : List Int} (h : Fit B z) : Fit B (tidyL z) := by
  intro j
  rcases Nat.lt_or_ge j z.length with hj | hj
  · unfold tidyL
    split
    · exact h j
    · rw [vec_mapL hj]
      exact tdiv_fit (h j).1 (h j).2
  · rw [vec_beyond (by rw [tidyL_len]; exact hj), ← vec_beyond hj]
    exact h j
theorem Fit.up {B C : Int} {z : List Int} (h : Fit B z) (hc : B ≤ C) : Fit C z := fun j => by have := h j; omega
end Go.Proofs.Ythcinjlghhfhmaa
