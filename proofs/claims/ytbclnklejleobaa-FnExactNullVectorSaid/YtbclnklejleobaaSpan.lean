/- Spans over the rational numbers, in integers; primitive vectors; a bound on what elimination makes; reduced rows are unique. -/
import Derived.Test.YtbclnklejleobaaLin
namespace Go.Proofs.Ytbclnklejleobaa
/-- v is a rational combination of the s rows of M, as far as n columns go. -/
def InSpan (n s : Nat) (M : Nat → Nat → Int) (v : Nat → Int) : Prop := ∃ (d : Int) (c : Nat → Int), d ≠ 0 ∧ ∀ j, j < n → d * v j = sumN s (fun i => c i * M i j)
theorem span_row {n s : Nat} {M : Nat → Nat → Int} {i : Nat} (h : i < s) : InSpan n s M (M i) :=
  ⟨1, fun t => if t = i then 1 else 0, by decide, fun j _ => by
    rw [sumN_one h (fun t _ hne => by simp [hne])]
    simp⟩
theorem span_zero {n s : Nat} {M : Nat → Nat → Int} {v : Nat → Int} (h : ∀ j, j < n → v j = 0) : InSpan n s M v :=
  ⟨1, fun _ => 0, by decide, fun j hj => by rw [h j hj, sumN_zero (fun _ _ => by simp)]; rfl⟩
theorem span_congr {n s : Nat} {M : Nat → Nat → Int} {v w : Nat → Int} (h : InSpan n s M v) (e : ∀ j, j < n → w j = v j) : InSpan n s M w := by
  obtain ⟨d, c, h1, h2⟩ := h
  exact ⟨d, c, h1, fun j hj => by rw [e j hj]; exact h2 j hj⟩
theorem mul_ne {a b : Int} (ha : a ≠ 0) (hb : b ≠ 0) : a * b ≠ 0 := fun h => (Int.mul_eq_zero.1 h).elim ha hb
/-- A combination of two. -/
theorem span_comb {n s : Nat} {M : Nat → Nat → Int} {u v w : Nat → Int} (a b e : Int) (he : e ≠ 0) (hu : InSpan n s M u) (hv : InSpan n s M v) (hw : ∀ j, j < n → e * w j = a * u j + b * v j) : InSpan n s M w := by
  obtain ⟨d1, c1, h1, h2⟩ := hu
  obtain ⟨d2, c2, h3, h4⟩ := hv
  refine ⟨d1 * d2 * e, fun i => a * d2 * c1 i + b * d1 * c2 i, mul_ne (mul_ne h1 h3) he, fun j hj => ?_⟩
  have e1 := h2 j hj
  have e2 := h4 j hj
  have e3 := hw j hj
  have r1 : sumN s (fun i => (a * d2 * c1 i + b * d1 * c2 i) * M i j) = a * d2 * sumN s (fun i => c1 i * M i j) + b * d1 * sumN s (fun i => c2 i * M i j) := by
    rw [← sumN_mul, ← sumN_mul, ← sumN_add]
    exact sumN_congr fun i _ => by rw [Int.add_mul, Int.mul_assoc (a * d2), Int.mul_assoc (b * d1)]
  rw [r1, ← e1, ← e2, Int.mul_assoc (d1 * d2), e3, Int.mul_add]
  congr 1
  · calc d1 * d2 * (a * u j) = a * (d1 * d2 * u j) := by rw [Int.mul_left_comm]
      _ = a * d2 * (d1 * u j) := by rw [Int.mul_comm d1 d2, Int.mul_assoc d2, Int.mul_assoc a]
  · calc d1 * d2 * (b * v j) = b * (d1 * d2 * v j) := by rw [Int.mul_left_comm]
      _ = b * d1 * (d2 * v j) := by rw [Int.mul_assoc d1, Int.mul_assoc b]
/-- The span of vectors that are in the span. -/
theorem span_sum {n s : Nat} {M : Nat → Nat → Int} : ∀ (k : Nat) (P : Nat → Nat → Int) (c : Nat → Int), (∀ t, t < k → InSpan n s M (P t)) → InSpan n s M (fun j => sumN k (fun t => c t * P t j))
  | 0, P, c, _ => span_zero (fun _ _ => rfl)
  | k + 1, P, c, h => span_comb 1 (c k) 1 (by decide) (span_sum k P c (fun t ht => h t (by omega))) (h k (by omega)) (fun j _ => by rw [sumN]; simp)
theorem span_trans {n s k : Nat} {M P : Nat → Nat → Int} {v : Nat → Int} (h : InSpan n k P v) (hP : ∀ t, t < k → InSpan n s M (P t)) : InSpan n s M v := by
  obtain ⟨d, c, h1, h2⟩ := h
  exact span_comb 1 0 d h1 (span_sum k P c hP) (span_zero (v := fun _ => 0) (fun _ _ => rfl)) (fun j hj => by rw [h2 j hj]; simp)
/-- s + 1 vectors in the span of s rows depend on each other. -/
theorem span_rel {n s : Nat} {M : Nat → Nat → Int} (U : Nat → Nat → Int) (h : ∀ i, i < s + 1 → InSpan n s M (U i)) : ∃ z : Nat → Int, (∃ i, i < s + 1 ∧ z i ≠ 0) ∧ ∀ j, j < n → sumN (s + 1) (fun i => z i * U i j) = 0 := by
  have h' : ∀ i, ∃ p : Int × (Nat → Int), i < s + 1 → p.1 ≠ 0 ∧ ∀ j, j < n → p.1 * U i j = sumN s (fun t => p.2 t * M t j) := fun i => by
    by_cases hi : i < s + 1
    · obtain ⟨d, c, h1, h2⟩ := h i hi
      exact ⟨(d, c), fun _ => ⟨h1, h2⟩⟩
    · exact ⟨(0, fun _ => 0), fun h => absurd h hi⟩
  obtain ⟨p, hp⟩ := Classical.axiomOfChoice h'
  obtain ⟨y, ⟨i0, hi0, hy0⟩, hy⟩ := any_rel s (fun i t => (p i).2 t)
  refine ⟨fun i => y i * (p i).1, ⟨i0, hi0, mul_ne hy0 (hp i0 hi0).1⟩, fun j hj => ?_⟩
  have e1 : sumN (s + 1) (fun i => y i * (p i).1 * U i j) = sumN (s + 1) (fun i => sumN s (fun t => y i * (p i).2 t * M t j)) := sumN_congr fun i hi => by
    rw [Int.mul_assoc, (hp i hi).2 j hj, ← sumN_mul]
    exact sumN_congr fun t _ => (Int.mul_assoc _ _ _).symm
  rw [e1, sumN_swap]
  exact sumN_zero fun t ht => by rw [sumN_mulR, hy t ht, Int.zero_mul]
/-- Row a left out. -/
def skip (a : Nat) (M : Nat → Nat → Int) : Nat → Nat → Int := fun i => if i < a then M i else M (i + 1)
theorem sumN_skip (k a : Nat) (ha : a ≤ k) (f : Nat → Int) : sumN (k + 1) f = sumN k (fun i => if i < a then f i else f (i + 1)) + f a := by
  induction k with
  | zero =>
    obtain rfl : a = 0 := by omega
    simp [sumN]
  | succ k ih =>
    by_cases h : a = k + 1
    · subst h
      rw [sumN]
      congr 1
      exact sumN_congr fun i hi => by rw [if_pos hi]
    · rw [sumN, ih (by omega), sumN, if_neg (by omega)]
      omega
/-- If the rows depend on each other, one of them is not needed. -/
theorem span_drop {n k : Nat} {M : Nat → Nat → Int} {y : Nat → Int} {a : Nat} (ha : a < k + 1) (hy : y a ≠ 0) (h0 : ∀ j, j < n → sumN (k + 1) (fun i => y i * M i j) = 0) {v : Nat → Int} (h : InSpan n (k + 1) M v) : InSpan n k (skip a M) v := by
  obtain ⟨d, c, h1, h2⟩ := h
  refine ⟨y a * d, fun i => if i < a then y a * c i - c a * y i else y a * c (i + 1) - c a * y (i + 1), mul_ne hy h1, fun j hj => ?_⟩
  have e1 : sumN (k + 1) (fun i => (y a * c i - c a * y i) * M i j) = y a * (d * v j) := by
    have : sumN (k + 1) (fun i => (y a * c i - c a * y i) * M i j) = y a * sumN (k + 1) (fun i => c i * M i j) - c a * sumN (k + 1) (fun i => y i * M i j) := by
      rw [← sumN_mul, ← sumN_mul, ← sumN_sub]
      exact sumN_congr fun i _ => by rw [Int.sub_mul, Int.mul_assoc, Int.mul_assoc]
    rw [this, h0 j hj, ← h2 j hj]
    omega
  rw [sumN_skip k a (by omega)] at e1
  rw [Int.mul_assoc, ← e1, Int.mul_comm (y a) (c a), Int.sub_self, Int.zero_mul, Int.add_zero]
  exact sumN_congr fun i _ => by
    unfold skip
    by_cases hi : i < a
    · simp only [hi, if_true]
    · simp only [hi, if_false]
/-! ### Primitive vectors -/
/-- The greatest common divisor of the first n. -/
def gcdN : Nat → (Nat → Int) → Nat
  | 0, _ => 0
  | n + 1, v => Int.gcd (gcdN n v) (v n)
theorem gcdN_dvd {n : Nat} {v : Nat → Int} : ∀ j, j < n → (gcdN n v : Int) ∣ v j := by
  induction n with
  | zero => intro j hj; omega
  | succ n ih =>
    intro j hj
    rcases Nat.lt_or_eq_of_le (Nat.lt_succ_iff.1 hj) with h | rfl
    · exact Int.dvd_trans (Int.gcd_dvd_left _ _) (ih j h)
    · exact Int.gcd_dvd_right _ _
theorem dvd_gcdN {n : Nat} {v : Nat → Int} {b : Int} (h : ∀ j, j < n → b ∣ v j) : b ∣ (gcdN n v : Int) := by
  induction n with
  | zero => exact Int.dvd_zero b
  | succ n ih => exact Int.dvd_coe_gcd (ih fun j hj => h j (by omega)) (h n (by omega))
theorem gcdN_mul (n : Nat) (a : Int) (v : Nat → Int) : gcdN n (fun j => a * v j) = a.natAbs * gcdN n v := by
  induction n with
  | zero => simp [gcdN]
  | succ n ih =>
    rw [gcdN, gcdN, ih]
    have : ((a.natAbs * gcdN n v : Nat) : Int) = (a.natAbs : Int) * (gcdN n v : Int) := by simp
    rw [this]
    have e2 : Int.gcd ((a.natAbs : Int) * (gcdN n v : Int)) (a * v n) = Int.gcd (a * (gcdN n v : Int)) (a * v n) := by
      simp [Int.gcd, Int.natAbs_mul]
    rw [e2, Int.gcd_mul_left]
def Prim (n : Nat) (v : Nat → Int) : Prop := gcdN n v = 1
theorem Prim.dvd {n : Nat} {v : Nat → Int} (h : Prim n v) {a b : Int} (hb : ∀ j, j < n → b ∣ a * v j) : b ∣ a := by
  have h1 := dvd_gcdN hb
  rw [gcdN_mul, h, Nat.mul_one] at h1
  exact Int.dvd_natAbs.1 h1
theorem Prim.ne {n : Nat} {v : Nat → Int} (h : Prim n v) : ∃ j, j < n ∧ v j ≠ 0 := by
  rcases Classical.em (∃ j, j < n ∧ v j ≠ 0) with h1 | h1
  · exact h1
  · have h2 := dvd_gcdN (n := n) (v := v) (b := 0) (fun j hj => by
      rcases Classical.em (v j = 0) with h3 | h3
      · rw [h3]; exact Int.dvd_refl 0
      · exact absurd ⟨j, hj, h3⟩ h1)
    rw [h] at h2
    exact absurd (Int.zero_dvd.1 h2) (by decide)
/-- Parallel to a primitive vector: a multiple of it. -/
theorem Prim.mult {n : Nat} {v w : Nat → Int} (h : Prim n v) {a b : Int} (hb : b ≠ 0) (he : ∀ j, j < n → a * v j = b * w j) : ∃ q, ∀ j, j < n → w j = q * v j := by
  obtain ⟨q, hq⟩ := h.dvd (fun j hj => ⟨w j, he j hj⟩)
  refine ⟨q, fun j hj => ?_⟩
  have := he j hj
  rw [hq, Int.mul_assoc] at this
  exact (Int.eq_of_mul_eq_mul_left hb this).symm
/-! ### The bound -/
/-- What elimination makes is small: a primitive vector in the span of k + 1 rows that is 0 in k pivots' columns. -/
theorem elim_bound {n k K N : Nat} (hK : 1 ≤ K) {M : Nat → Nat → Int} {P : Nat → Nat → Int} {c : Nat → Nat} {v : Nat → Int} (hc : ∀ t, t < k → c t < n)
    (hM : ∀ i, i < k + 1 → ∀ t, t < k → -(K : Int) ≤ M i (c t) ∧ M i (c t) ≤ K) {j1 : Nat} (hj1 : j1 < n) (hN : ∀ i, i < k + 1 → -(N : Int) ≤ M i j1 ∧ M i j1 ≤ N)
    (hP : ∀ t, t < k → InSpan n (k + 1) M (P t)) (hd : ∀ t, t < k → P t (c t) ≠ 0) (hz : ∀ t, t < k → ∀ u, u < k → u ≠ t → P t (c u) = 0)
    (hv : InSpan n (k + 1) M v) (hvz : ∀ t, t < k → v (c t) = 0) (hp : Prim n v) :
    -((((k + 1) * ((K * (k + 1)) ^ k * N) : Nat)) : Int) ≤ v j1 ∧ v j1 ≤ (((k + 1) * ((K * (k + 1)) ^ k * N) : Nat) : Int) := by
  obtain ⟨j0, hj0, hv0⟩ := hp.ne
  obtain ⟨y, ⟨a, ha, hya⟩, hyb, hy⟩ := small_rel k K hK (fun i t => M i (c t)) hM
  let w : Nat → Int := fun j => sumN (k + 1) (fun i => y i * M i j)
  have hwb : -((((k + 1) * ((K * (k + 1)) ^ k * N) : Nat)) : Int) ≤ w j1 ∧ w j1 ≤ (((k + 1) * ((K * (k + 1)) ^ k * N) : Nat) : Int) := by
    have := sumN_bd (k := k + 1) (f := fun i => y i * M i j1) (B := (((K * (k + 1)) ^ k : Nat) : Int) * (N : Int)) (fun i hi => by
      have h1 := hyb i hi
      have h2 := hN i hi
      have h3 : (y i * M i j1).natAbs ≤ (K * (k + 1)) ^ k * N := by
        rw [Int.natAbs_mul]
        exact Nat.mul_le_mul (by omega) (by omega)
      have h4 : ((((K * (k + 1)) ^ k * N : Nat)) : Int) = (((K * (k + 1)) ^ k : Nat) : Int) * (N : Int) := Int.natCast_mul _ _
      rw [← h4]
      omega)
    have h5 : (((k + 1) * ((K * (k + 1)) ^ k * N) : Nat) : Int) = ((k + 1 : Nat) : Int) * ((((K * (k + 1)) ^ k : Nat) : Int) * (N : Int)) := by rw [Int.natCast_mul, Int.natCast_mul]
    rw [h5]
    exact this
  -- the pivots alone and v: nothing but 0 is left of a relation
  have key : ∀ (s : Nat) (M' : Nat → Nat → Int), s = k → (∀ t, t < k → InSpan n s M' (P t)) → InSpan n s M' v → False := by
    intro s M' hs hP' hv'
    subst hs
    obtain ⟨z, ⟨i, hi, hzi⟩, hz0⟩ := span_rel (fun i => if i < s then P i else v) (fun i hi => by
      by_cases h : i < s
      · simp only [h, if_true]; exact hP' i h
      · simp only [h, if_false]; exact hv')
    have hzt : ∀ t, t < s → z t = 0 := fun t ht => by
      have h1 := hz0 (c t) (hc t ht)
      rw [sumN, sumN_one ht (fun u hu hne => by rw [if_pos hu, hz u hu t ht (fun e => hne e.symm), Int.mul_zero])] at h1
      simp only [ht, if_true, Nat.lt_irrefl, if_false, hvz t ht, Int.mul_zero, Int.add_zero] at h1
      exact (Int.mul_eq_zero.1 h1).resolve_right (hd t ht)
    have h2 := hz0 j0 hj0
    rw [sumN, sumN_zero (fun t ht => by rw [hzt t ht, Int.zero_mul])] at h2
    simp only [Nat.lt_irrefl, if_false, Int.zero_add] at h2
    have h3 := (Int.mul_eq_zero.1 h2).resolve_right hv0
    rcases Nat.lt_or_eq_of_le (Nat.lt_succ_iff.1 hi) with h4 | h4
    · exact hzi (hzt i h4)
    · subst h4; exact hzi h3
  have hwz : ∃ j, j < n ∧ w j ≠ 0 := by
    rcases Classical.em (∃ j, j < n ∧ w j ≠ 0) with h | h
    · exact h
    · have h0 : ∀ j, j < n → sumN (k + 1) (fun i => y i * M i j) = 0 := fun j hj => by
        rcases Classical.em (w j = 0) with h1 | h1
        · exact h1
        · exact absurd ⟨j, hj, h1⟩ h
      exact absurd (key k (skip a M) rfl (fun t ht => span_drop ha hya h0 (hP t ht)) (span_drop ha hya h0 hv)) id
  have hws : InSpan n (k + 1) M w := ⟨1, y, by decide, fun j _ => by rw [Int.one_mul]⟩
  have hwc : ∀ t, t < k → w (c t) = 0 := fun t ht => hy t ht
  obtain ⟨z, ⟨i, hi, hzi⟩, hz0⟩ := span_rel (n := n) (s := k + 1) (M := M) (fun i => if i < k then P i else if i = k then v else w) (fun i hi => by
    by_cases h : i < k
    · simp only [h, if_true]; exact hP i h
    · by_cases h2 : i = k
      · subst h2; simp only [Nat.lt_irrefl, if_false, if_true]; exact hv
      · simp only [h, h2, if_false]; exact hws)
  have hzt : ∀ t, t < k → z t = 0 := fun t ht => by
    have h1 := hz0 (c t) (hc t ht)
    rw [sumN, sumN, sumN_one ht (fun u hu hne => by rw [if_pos hu, hz u hu t ht (fun e => hne e.symm), Int.mul_zero])] at h1
    have n1 : ¬ k + 1 < k := by omega
    have n2 : ¬ k + 1 = k := by omega
    simp only [ht, if_true, Nat.lt_irrefl, if_false, hvz t ht, hwc t ht, Int.mul_zero, Int.add_zero, n1, n2] at h1
    exact (Int.mul_eq_zero.1 h1).resolve_right (hd t ht)
  have hrel : ∀ j, j < n → z k * v j = -(z (k + 1)) * w j := fun j hj => by
    have h2 := hz0 j hj
    have n1 : ¬ k + 1 < k := by omega
    have n2 : ¬ k + 1 = k := by omega
    rw [sumN, sumN, sumN_zero (fun t ht => by rw [hzt t ht, Int.zero_mul])] at h2
    simp only [Nat.lt_irrefl, if_false, if_true, Int.zero_add, n1, n2] at h2
    rw [Int.neg_mul]
    omega
  have hzw : z (k + 1) ≠ 0 := fun h => by
    have h3 := hrel j0 hj0
    rw [h] at h3
    simp only [Int.neg_zero, Int.zero_mul] at h3
    have h4 := (Int.mul_eq_zero.1 h3).resolve_right hv0
    rcases Nat.lt_or_ge i k with h5 | h5
    · exact hzi (hzt i h5)
    · rcases Nat.lt_or_eq_of_le h5 with h6 | h6
      · exact hzi (by rw [show i = k + 1 by omega]; exact h)
      · subst h6; exact hzi h4
  obtain ⟨q, hq⟩ := hp.mult (b := -(z (k + 1))) (by omega) hrel
  have hq0 : q ≠ 0 := fun h => by
    obtain ⟨j, hj, hwj⟩ := hwz
    exact hwj (by rw [hq j hj, h, Int.zero_mul])
  have h1 := hwb
  rw [hq j1 hj1] at h1
  have h2 : (v j1).natAbs ≤ (q * v j1).natAbs := by
    rw [Int.natAbs_mul]
    exact Nat.le_mul_of_pos_left _ (by omega)
  omega
end Go.Proofs.Ytbclnklejleobaa
