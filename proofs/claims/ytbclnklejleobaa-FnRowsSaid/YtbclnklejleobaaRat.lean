/- Fractions, as plain mathematics: what is valid, what is reduced, and that reduced fractions are unique. -/
import Derived.WalkKit
namespace Go.Proofs.Ytbclnklejleobaa
/-- A valid fraction. -/
def IsR (n d : Int) : Prop := -1000000000 ≤ n ∧ n ≤ 1000000000 ∧ 1 ≤ d ∧ d ≤ 1000000000 ∧ Int.gcd n d = 1
instance (n d : Int) : Decidable (IsR n d) := by unfold IsR; infer_instance
def isR (n d : Int) : Bool := decide (IsR n d)
theorem isR_true {n d : Int} : isR n d = true ↔ IsR n d := by simp [isR]
theorem isR_false {n d : Int} : isR n d = false ↔ ¬ IsR n d := by simp [isR]
/-- n with d's sign taken over. -/
def sgn (d n : Int) : Int := if d < 0 then -n else n
def redN (n d : Int) : Int := sgn d n / (Int.gcd n d : Int)
def redD (n d : Int) : Int := sgn d d / (Int.gcd n d : Int)
/-- The fraction with the value n divided by d is valid. -/
def MkOk (n d : Int) : Prop := d ≠ 0 ∧ IsR (redN n d) (redD n d)
instance (n d : Int) : Decidable (MkOk n d) := by unfold MkOk; infer_instance
def mkOk (n d : Int) : Bool := decide (MkOk n d)
def mkN (n d : Int) : Int := if MkOk n d then redN n d else 0
def mkD (n d : Int) : Int := if MkOk n d then redD n d else 0
theorem gcd_pos {n d : Int} (h : d ≠ 0) : (0 : Int) < (Int.gcd n d : Int) := by
  have := Int.gcd_pos_of_ne_zero_right n h
  omega
theorem sgn_dvd {g d n : Int} (h : g ∣ n) : g ∣ sgn d n := by
  unfold sgn
  split
  · exact Int.dvd_neg.2 h
  · exact h
theorem red_num {n d : Int} : redN n d * (Int.gcd n d : Int) = sgn d n := Int.ediv_mul_cancel (sgn_dvd (Int.gcd_dvd_left n d))
theorem red_den {n d : Int} : redD n d * (Int.gcd n d : Int) = sgn d d := Int.ediv_mul_cancel (sgn_dvd (Int.gcd_dvd_right n d))
theorem sgn_cross (n d : Int) : sgn d n * d = n * sgn d d := by
  unfold sgn
  split
  · rw [Int.neg_mul, Int.mul_neg]
  · rfl
theorem mul_cancel {a b c : Int} (hc : 0 < c) (h : a * c = b * c) : a = b := Int.eq_of_mul_eq_mul_right (by omega) h
theorem red_cross {n d : Int} (hd : d ≠ 0) : redN n d * d = n * redD n d := by
  refine mul_cancel (gcd_pos (n := n) hd) ?_
  have h1 := red_num (n := n) (d := d)
  have h2 := red_den (n := n) (d := d)
  calc redN n d * d * (Int.gcd n d : Int) = redN n d * (Int.gcd n d : Int) * d := by rw [Int.mul_assoc, Int.mul_comm d, ← Int.mul_assoc]
    _ = n * (redD n d * (Int.gcd n d : Int)) := by rw [h1, h2, sgn_cross]
    _ = n * redD n d * (Int.gcd n d : Int) := by rw [Int.mul_assoc]
theorem mk_cross {n d : Int} (h : MkOk n d) : mkN n d * d = n * mkD n d := by
  unfold mkN mkD
  rw [if_pos h, if_pos h]
  exact red_cross h.1
theorem mk_valid {n d : Int} (h : MkOk n d) : IsR (mkN n d) (mkD n d) := by
  unfold mkN mkD
  rw [if_pos h, if_pos h]
  exact h.2
theorem mk_no {n d : Int} (h : ¬ MkOk n d) : mkN n d = 0 ∧ mkD n d = 0 := by
  unfold mkN mkD
  rw [if_neg h, if_neg h]
  exact ⟨rfl, rfl⟩
theorem cop_dvd {x y d : Int} (hg : Int.gcd x y = 1) (h : y ∣ x * d) : y ∣ d := by
  have := Int.dvd_gcd_mul_iff_dvd_mul.2 h
  rw [Int.gcd_comm, hg] at this
  simpa using this
/-- A valid fraction of the same value is the reduced one. -/
theorem mk_uniq {n d x y : Int} (hd : 0 < d) (hv : IsR x y) (hc : n * y = x * d) : MkOk n d ∧ mkN n d = x ∧ mkD n d = y := by
  obtain ⟨hx0, hx1, hy0, hy1, hg⟩ := hv
  obtain ⟨k, hk⟩ := cop_dvd hg ⟨n, by rw [Int.mul_comm y n, hc]⟩
  have hk0 : 0 < k := by
    rcases Int.lt_or_le 0 k with h | h
    · exact h
    · have : y * k ≤ y * 0 := Int.mul_le_mul_of_nonneg_left h (by omega)
      omega
  have hn : n = x * k := by
    refine mul_cancel (show 0 < y by omega) ?_
    rw [hc, hk, Int.mul_comm y k, Int.mul_assoc]
  have hgk : (Int.gcd n d : Int) = k := by
    rw [hn, hk, Int.gcd_mul_right, hg]
    omega
  have e1 : redN n d = x := by
    unfold redN sgn
    rw [if_neg (by omega), hgk, hn]
    exact Int.mul_ediv_cancel _ (by omega)
  have e2 : redD n d = y := by
    unfold redD sgn
    rw [if_neg (by omega), hgk, hk]
    exact Int.mul_ediv_cancel _ (by omega)
  have ok : MkOk n d := ⟨by omega, by rw [e1, e2]; exact ⟨hx0, hx1, hy0, hy1, hg⟩⟩
  unfold mkN mkD
  rw [if_pos ok, if_pos ok]
  exact ⟨ok, e1, e2⟩
/-! ### Sums, products, comparison -/
def AddOk (a b c d : Int) : Prop := IsR a b ∧ IsR c d ∧ MkOk (a * d + c * b) (b * d)
instance (a b c d : Int) : Decidable (AddOk a b c d) := by unfold AddOk; infer_instance
def addN (a b c d : Int) : Int := if AddOk a b c d then mkN (a * d + c * b) (b * d) else 0
def addD (a b c d : Int) : Int := if AddOk a b c d then mkD (a * d + c * b) (b * d) else 0
def MulOk (a b c d : Int) : Prop := IsR a b ∧ IsR c d ∧ MkOk (a * c) (b * d)
instance (a b c d : Int) : Decidable (MulOk a b c d) := by unfold MulOk; infer_instance
def mulN (a b c d : Int) : Int := if MulOk a b c d then mkN (a * c) (b * d) else 0
def mulD (a b c d : Int) : Int := if MulOk a b c d then mkD (a * c) (b * d) else 0
theorem addOk_comm {a b c d : Int} : AddOk a b c d ↔ AddOk c d a b := by
  unfold AddOk
  rw [Int.add_comm (a * d), Int.mul_comm b d]
  exact ⟨fun ⟨h1, h2, h3⟩ => ⟨h2, h1, h3⟩, fun ⟨h1, h2, h3⟩ => ⟨h2, h1, h3⟩⟩
theorem mulOk_comm {a b c d : Int} : MulOk a b c d ↔ MulOk c d a b := by
  unfold MulOk
  rw [Int.mul_comm a c, Int.mul_comm b d]
  exact ⟨fun ⟨h1, h2, h3⟩ => ⟨h2, h1, h3⟩, fun ⟨h1, h2, h3⟩ => ⟨h2, h1, h3⟩⟩
theorem addN_comm (a b c d : Int) : addN a b c d = addN c d a b := by
  unfold addN
  by_cases h : AddOk a b c d
  · rw [if_pos h, if_pos (addOk_comm.1 h), Int.add_comm (a * d), Int.mul_comm b d]
  · rw [if_neg h, if_neg (fun h2 => h (addOk_comm.2 h2))]
theorem addD_comm (a b c d : Int) : addD a b c d = addD c d a b := by
  unfold addD
  by_cases h : AddOk a b c d
  · rw [if_pos h, if_pos (addOk_comm.1 h), Int.add_comm (a * d), Int.mul_comm b d]
  · rw [if_neg h, if_neg (fun h2 => h (addOk_comm.2 h2))]
theorem mulN_comm (a b c d : Int) : mulN a b c d = mulN c d a b := by
  unfold mulN
  by_cases h : MulOk a b c d
  · rw [if_pos h, if_pos (mulOk_comm.1 h), Int.mul_comm a c, Int.mul_comm b d]
  · rw [if_neg h, if_neg (fun h2 => h (mulOk_comm.2 h2))]
theorem mulD_comm (a b c d : Int) : mulD a b c d = mulD c d a b := by
  unfold mulD
  by_cases h : MulOk a b c d
  · rw [if_pos h, if_pos (mulOk_comm.1 h), Int.mul_comm a c, Int.mul_comm b d]
  · rw [if_neg h, if_neg (fun h2 => h (mulOk_comm.2 h2))]
theorem add_valid {a b c d : Int} (h : AddOk a b c d) : IsR (addN a b c d) (addD a b c d) := by
  unfold addN addD
  rw [if_pos h, if_pos h]
  exact mk_valid h.2.2
theorem mul_valid {a b c d : Int} (h : MulOk a b c d) : IsR (mulN a b c d) (mulD a b c d) := by
  unfold mulN mulD
  rw [if_pos h, if_pos h]
  exact mk_valid h.2.2
def negN (a b : Int) : Int := if IsR a b then -a else 0
def negD (a b : Int) : Int := if IsR a b then b else 0
theorem neg_valid {a b : Int} (h : IsR a b) : IsR (-a) b := by
  obtain ⟨h1, h2, h3, h4, h5⟩ := h
  exact ⟨by omega, by omega, h3, h4, by rw [Int.neg_gcd]; exact h5⟩
def cmpV (a b c d : Int) : Int := if IsR a b ∧ IsR c d then (if a * d < c * b then -1 else if c * b < a * d then 1 else 0) else 0
theorem cmp_swap (a b c d : Int) : cmpV a b c d = -cmpV c d a b := by
  unfold cmpV
  by_cases h : IsR a b ∧ IsR c d
  · have h2 : IsR c d ∧ IsR a b := ⟨h.2, h.1⟩
    rw [if_pos h, if_pos h2]
    generalize a * d = u
    generalize c * b = v
    rcases Int.lt_trichotomy u v with h3 | h3 | h3
    · rw [if_pos h3, if_neg (by omega), if_pos h3]
    · rw [if_neg (by omega), if_neg (by omega), if_neg (by omega), if_neg (by omega)]
      rfl
    · rw [if_neg (by omega), if_pos h3, if_pos h3]
      rfl
  · have h2 : ¬ (IsR c d ∧ IsR a b) := fun h2 => h ⟨h2.2, h2.1⟩
    rw [if_neg h, if_neg h2]
    rfl
theorem pos_mul {x y : Int} (hx : 1 ≤ x) (hy : 1 ≤ y) : 0 < x * y := Int.mul_pos (by omega) (by omega)
/-- The sign of the difference is the comparison. -/
theorem sub_sign {a b c d : Int} (h1 : IsR a b) (h2 : IsR c d) (h : AddOk a b (-c) d) : (0 < addN a b (-c) d ↔ c * b < a * d) ∧ (addN a b (-c) d < 0 ↔ a * d < c * b) := by
  have hv := add_valid h
  have hc := mk_cross h.2.2
  have e1 : addN a b (-c) d = mkN (a * d + -c * b) (b * d) := by unfold addN; rw [if_pos h]
  have e2 : addD a b (-c) d = mkD (a * d + -c * b) (b * d) := by unfold addD; rw [if_pos h]
  rw [← e1, ← e2] at hc
  rw [Int.neg_mul] at hc
  have p := pos_mul h1.2.2.1 h2.2.2.1
  have q := hv.2.2.1
  generalize addN a b (-c) d = x at hc hv q ⊢
  generalize addD a b (-c) d = y at hc hv q ⊢
  generalize b * d = m at hc p
  generalize a * d = u at hc ⊢
  generalize c * b = v at hc ⊢
  have hs : u + -v = u - v := by omega
  rw [hs] at hc
  constructor
  · constructor
    · intro hx
      have : 0 < x * m := Int.mul_pos hx p
      rw [hc] at this
      have := Int.pos_of_mul_pos_left this (by omega)
      omega
    · intro hx
      have : 0 < (u - v) * y := Int.mul_pos (by omega) (by omega)
      rw [← hc] at this
      exact Int.pos_of_mul_pos_left this (by omega)
  · constructor
    · intro hx
      have : x * m < 0 := Int.mul_neg_of_neg_of_pos hx p
      rw [hc] at this
      rcases Int.lt_or_le u v with h | h
      · exact h
      · have := Int.mul_nonneg (show 0 ≤ u - v by omega) (show 0 ≤ y by omega)
        omega
    · intro hx
      have : (u - v) * y < 0 := Int.mul_neg_of_neg_of_pos (by omega) (by omega)
      rw [← hc] at this
      rcases Int.lt_or_le x 0 with h | h
      · exact h
      · have := Int.mul_nonneg h (show 0 ≤ m by omega)
        omega
/-- A difference and what was taken away add up. -/
theorem sub_back {a b c d : Int} (h1 : IsR a b) (h2 : IsR c d) (h : AddOk a b (-c) d) :
    AddOk (addN a b (-c) d) (addD a b (-c) d) c d ∧ addN (addN a b (-c) d) (addD a b (-c) d) c d = a ∧ addD (addN a b (-c) d) (addD a b (-c) d) c d = b := by
  have hv := add_valid h
  have hc := mk_cross h.2.2
  have e1 : addN a b (-c) d = mkN (a * d + -c * b) (b * d) := by unfold addN; rw [if_pos h]
  have e2 : addD a b (-c) d = mkD (a * d + -c * b) (b * d) := by unfold addD; rw [if_pos h]
  rw [← e1, ← e2] at hc
  generalize addN a b (-c) d = x at hc hv ⊢
  generalize addD a b (-c) d = y at hc hv ⊢
  have hy := hv.2.2.1
  have hd := h2.2.2.1
  have key : (x * d + c * y) * b = a * (y * d) := by
    have t1 : x * d * b = x * (b * d) := by rw [Int.mul_assoc, Int.mul_comm d b]
    have t2 : c * y * b = c * b * y := by rw [Int.mul_assoc, Int.mul_comm y b, ← Int.mul_assoc]
    have t3 : a * (y * d) = a * d * y := by rw [Int.mul_comm y d, ← Int.mul_assoc]
    rw [Int.add_mul, t1, hc, t2, t3, Int.add_mul, Int.neg_mul, Int.neg_mul]
    omega
  have u := mk_uniq (pos_mul hy hd) h1 key
  have ok : AddOk x y c d := ⟨hv, h2, u.1⟩
  unfold addN addD
  rw [if_pos ok, if_pos ok]
  exact ⟨ok, u.2.1, u.2.2⟩
end Go.Proofs.Ytbclnklejleobaa
