/- Determinants by the first column, and what Cramer's rule needs of them. Plain mathematics. -/
import Derived.Test.YtedkeobhcpbigaaRedA
import Derived.Test.YtedkeobhcpbigaaRatI
namespace Go.Proofs.Ytedkeobhcpbigaa
/-- The sign of a place. -/
def sg : Nat → Int
  | 0 => 1
  | i + 1 => -sg i
theorem sg_abs (i : Nat) : (sg i).natAbs = 1 := by
  induction i with
  | zero => rfl
  | succ i ih => rw [sg, Int.natAbs_neg, ih]
theorem sg_sq (i : Nat) : sg i * sg i = 1 := by
  induction i with
  | zero => rfl
  | succ i ih => rw [sg, Int.neg_mul_neg, ih]
/-- The columns from the second on. -/
def tl (A : Nat → Nat → Int) : Nat → Nat → Int := fun i v => A i (v + 1)
def det : Nat → (Nat → Nat → Int) → Int
  | 0, _ => 1
  | r + 1, A => sumN (r + 1) fun i => sg i * A i 0 * det r (skip i (tl A))
theorem det_succ (r : Nat) (A : Nat → Nat → Int) : det (r + 1) A = sumN (r + 1) (fun i => sg i * A i 0 * det r (skip i (tl A))) := rfl
theorem skip_lt {a i : Nat} {M : Nat → Nat → Int} (h : i < a) : skip a M i = M i := if_pos h
theorem skip_ge {a i : Nat} {M : Nat → Nat → Int} (h : a ≤ i) : skip a M i = M (i + 1) := if_neg (by omega)
theorem det_congr : ∀ (r : Nat) {A B : Nat → Nat → Int}, (∀ i, i < r → ∀ v, v < r → A i v = B i v) → det r A = det r B
  | 0, _, _, _ => rfl
  | r + 1, A, B, h => by
    unfold det
    refine sumN_congr fun i hi => ?_
    rw [h i hi 0 (by omega), det_congr r (A := skip i (tl A)) (B := skip i (tl B)) fun k hk v hv => by
      unfold skip tl
      split
      · exact h k (by omega) (v + 1) (by omega)
      · exact h (k + 1) (by omega) (v + 1) (by omega)]
/-- A double sum over pairs of different places. -/
theorem sum_pairs (f : Nat → Nat → Int) : ∀ m, sumN (m + 1) (fun i => sumN m (fun k => f i k)) = sumN (m + 1) (fun i => sumN i (fun k => f i k + f k (i - 1)))
  | 0 => by simp [sumN]
  | m + 1 => by
    have ih := sum_pairs f m
    have e1 : sumN (m + 1) (fun i => sumN (m + 1) (fun k => f i k)) = sumN (m + 1) (fun i => sumN m (fun k => f i k)) + sumN (m + 1) (fun i => f i m) := by
      rw [← sumN_add]
      rfl
    have e2 : sumN (m + 2) (fun i => sumN (m + 1) (fun k => f i k)) = sumN (m + 1) (fun i => sumN (m + 1) (fun k => f i k)) + sumN (m + 1) (fun k => f (m + 1) k) := rfl
    have e3 : sumN (m + 2) (fun i => sumN i (fun k => f i k + f k (i - 1))) = sumN (m + 1) (fun i => sumN i (fun k => f i k + f k (i - 1))) + sumN (m + 1) (fun k => f (m + 1) k + f k m) := rfl
    rw [e2, e1, e3, ih, sumN_add (m + 1) (fun k => f (m + 1) k), Int.add_assoc, Int.add_comm (sumN (m + 1) fun i => f i m)]
/-- Two columns, next to each other, in each other's place. -/
def swc (j : Nat) (A : Nat → Nat → Int) : Nat → Nat → Int := fun i v => A i (if v = j then j + 1 else if v = j + 1 then j else v)
theorem swc_tl (j : Nat) (A : Nat → Nat → Int) (i v : Nat) : tl (swc (j + 1) A) i v = swc j (tl A) i v := by
  unfold tl swc
  by_cases h1 : v = j
  · subst h1; simp
  · by_cases h2 : v = j + 1
    · subst h2; simp
    · rw [if_neg (by omega), if_neg (by omega), if_neg h1, if_neg h2]
theorem skip_at (a : Nat) (M : Nat → Nat → Int) (i v : Nat) : skip a M i v = if i < a then M i v else M (i + 1) v := by
  unfold skip
  split <;> rfl
theorem skip_swc (a j : Nat) (A : Nat → Nat → Int) (i v : Nat) : skip a (swc j A) i v = swc j (skip a A) i v := by
  show _ = skip a A i _
  rw [skip_at, skip_at]
  rfl
theorem skip_tl (a : Nat) (A : Nat → Nat → Int) (i v : Nat) : skip a (tl A) i v = tl (skip a A) i v := by
  show _ = skip a A i (v + 1)
  rw [skip_at, skip_at]
  rfl
theorem skip_skip {k i : Nat} (h : k < i) (A : Nat → Nat → Int) (u : Nat) : skip (i - 1) (skip k A) u = skip k (skip i A) u := by
  unfold skip
  by_cases h1 : u < k
  · rw [if_pos (by omega), if_pos h1, if_pos h1, if_pos (by omega)]
  · by_cases h2 : u < i - 1
    · rw [if_pos h2, if_neg h1, if_neg h1, if_pos (by omega)]
    · rw [if_neg h2, if_neg (by omega), if_neg h1, if_neg (by omega)]
theorem det_two (r : Nat) (A : Nat → Nat → Int) : det (r + 2) A = sumN (r + 2) (fun i => sumN i (fun k => sg i * sg k * (A i 0 * A k 1 - A k 0 * A i 1) * det r (skip k (skip i (tl (tl A)))))) := by
  have e : det (r + 2) A = sumN (r + 2) (fun i => sumN (r + 1) (fun k => sg i * A i 0 * (sg k * skip i (tl A) k 0 * det r (skip k (skip i (tl (tl A))))))) := by
    show sumN (r + 2) (fun i => sg i * A i 0 * det (r + 1) (skip i (tl A))) = _
    refine sumN_congr fun i hi => ?_
    rw [sumN_mul]
    show sg i * A i 0 * sumN (r + 1) (fun k => sg k * skip i (tl A) k 0 * det r (skip k (tl (skip i (tl A))))) = _
    refine congrArg _ (sumN_congr fun k hk => congrArg _ (det_congr r fun a ha v hv => ?_))
    have : tl (skip i (tl A)) = skip i (tl (tl A)) := by
      funext x y
      exact (skip_tl i (tl A) x y).symm
    rw [this]
  rw [e, sum_pairs]
  refine sumN_congr fun i hi => sumN_congr fun k hk => ?_
  have h1 : skip i (tl A) k 0 = A k 1 := by rw [skip_lt hk]; rfl
  have h2 : skip k (tl A) (i - 1) 0 = A i 1 := by rw [skip_ge (by omega), show i - 1 + 1 = i by omega]; rfl
  have h3 : det r (skip (i - 1) (skip k (tl (tl A)))) = det r (skip k (skip i (tl (tl A)))) := det_congr r fun a ha v hv => by rw [skip_skip hk]
  have h4 : sg (i - 1) = -sg i := by
    obtain ⟨j, rfl⟩ : ∃ j, i = j + 1 := ⟨i - 1, by omega⟩
    show sg j = -sg (j + 1)
    rw [sg, Int.neg_neg]
  rw [h1, h2, h3, h4]
  generalize det r (skip k (skip i (tl (tl A)))) = d
  generalize sg i = s
  generalize sg k = u
  generalize A i 0 = a
  generalize A k 1 = b
  generalize A k 0 = x
  generalize A i 1 = y
  have e1 : s * a * (u * b * d) = s * u * (a * b) * d := by
    simp only [Int.mul_comm, Int.mul_left_comm]
  have e2 : u * x * (-s * y * d) = -(s * u * (x * y) * d) := by
    rw [Int.neg_mul, Int.neg_mul, Int.mul_neg]
    congr 1
    simp only [Int.mul_comm, Int.mul_left_comm]
  rw [e1, e2, Int.mul_sub, Int.sub_mul]
  omega
theorem det_sw : ∀ (r j : Nat) (A : Nat → Nat → Int), j + 1 < r → det r (swc j A) = -det r A
  | 0, _, _, h => by omega
  | 1, _, _, h => by omega
  | r + 2, 0, A, _ => by
    rw [det_two, det_two, ← Int.one_mul (sumN _ _), ← Int.one_mul (sumN (r + 2) (fun i => sumN i (fun k => sg i * sg k * (A i 0 * A k 1 - A k 0 * A i 1) * det r (skip k (skip i (tl (tl A))))))), ← Int.neg_mul, ← sumN_mul, ← sumN_mul]
    refine sumN_congr fun i hi => ?_
    rw [Int.one_mul, ← sumN_mul]
    refine sumN_congr fun k hk => ?_
    have e0 : swc 0 A i 0 = A i 1 := rfl
    have e1 : swc 0 A k 1 = A k 0 := rfl
    have e2 : swc 0 A k 0 = A k 1 := rfl
    have e3 : swc 0 A i 1 = A i 0 := rfl
    have e4 : det r (skip k (skip i (tl (tl (swc 0 A))))) = det r (skip k (skip i (tl (tl A)))) := det_congr r fun a ha v hv => by
      have : tl (tl (swc 0 A)) = tl (tl A) := by
        funext x y
        show A x (if y + 1 + 1 = 0 then 0 + 1 else if y + 1 + 1 = 0 + 1 then 0 else y + 1 + 1) = A x (y + 1 + 1)
        rw [if_neg (by omega), if_neg (by omega)]
      rw [this]
    rw [e0, e1, e2, e3, e4]
    have : A i 1 * A k 0 - A k 1 * A i 0 = -(A i 0 * A k 1 - A k 0 * A i 1) := by
      rw [Int.mul_comm (A i 1), Int.mul_comm (A k 1)]
      omega
    rw [this, Int.mul_neg, Int.neg_mul, Int.neg_mul, Int.one_mul]
  | r + 2, j + 1, A, h => by
    have ih := fun i => det_sw (r + 1) j (skip i (tl A)) (by omega)
    show sumN (r + 2) (fun i => sg i * swc (j + 1) A i 0 * det (r + 1) (skip i (tl (swc (j + 1) A)))) = -(sumN (r + 2) fun i => sg i * A i 0 * det (r + 1) (skip i (tl A)))
    rw [← Int.one_mul (sumN (r + 2) fun i => sg i * A i 0 * det (r + 1) (skip i (tl A))), ← Int.neg_mul, ← sumN_mul]
    refine sumN_congr fun i hi => ?_
    have e0 : swc (j + 1) A i 0 = A i 0 := by
      show A i (if 0 = j + 1 then j + 1 + 1 else if 0 = j + 1 + 1 then j + 1 else 0) = A i 0
      rw [if_neg (by omega), if_neg (by omega)]
    have e1 : det (r + 1) (skip i (tl (swc (j + 1) A))) = det (r + 1) (swc j (skip i (tl A))) := det_congr (r + 1) fun a ha v hv => by
      rw [← skip_swc]
      unfold skip
      split <;> exact swc_tl j A _ v
    rw [e0, e1, ih i, Int.mul_neg, Int.neg_mul, Int.one_mul]
/-- A column again further back. -/
theorem det_eq0 : ∀ (j r : Nat) (A : Nat → Nat → Int), j + 1 < r → (∀ i, i < r → A i 0 = A i (j + 1)) → det r A = 0
  | 0, r, A, h, he => by
    have h1 := det_sw r 0 A h
    have h2 : det r (swc 0 A) = det r A := det_congr r fun i hi v hv => by
      unfold swc
      by_cases h1 : v = 0
      · subst h1; rw [if_pos rfl]; exact (he i hi).symm
      · by_cases h2 : v = 0 + 1
        · subst h2; rw [if_neg (by omega), if_pos rfl]; exact he i hi
        · rw [if_neg h1, if_neg h2]
    omega
  | j + 1, r, A, h, he => by
    have h1 := det_sw r (j + 1) A h
    have h2 := det_eq0 j r (swc (j + 1) A) (by omega) fun i hi => by
      have e0 : swc (j + 1) A i 0 = A i 0 := by
        show A i (if 0 = j + 1 then j + 1 + 1 else if 0 = j + 1 + 1 then j + 1 else 0) = A i 0
        rw [if_neg (by omega), if_neg (by omega)]
      have e1 : swc (j + 1) A i (j + 1) = A i (j + 1 + 1) := by
        unfold swc
        rw [if_pos rfl]
      rw [e0, e1, he i hi]
    omega
def fct : Nat → Nat
  | 0 => 1
  | r + 1 => (r + 1) * fct r
theorem det_bound {K : Nat} : ∀ (r : Nat) (A : Nat → Nat → Int), (∀ i, i < r → ∀ v, v < r → (A i v).natAbs ≤ K) → (det r A).natAbs ≤ fct r * K ^ r
  | 0, _, _ => by simp [det, fct]
  | r + 1, A, h => by
    have key : ∀ m, m ≤ r + 1 → (sumN m fun i => sg i * A i 0 * det r (skip i (tl A))).natAbs ≤ m * (K * (fct r * K ^ r)) := by
      intro m
      induction m with
      | zero => intro _; simp [sumN]
      | succ m ih =>
        intro hm
        have h1 := ih (by omega)
        have h2 : (sg m * A m 0 * det r (skip m (tl A))).natAbs ≤ K * (fct r * K ^ r) := by
          rw [Int.natAbs_mul, Int.natAbs_mul, sg_abs, Nat.one_mul]
          refine Nat.mul_le_mul (h m (by omega) 0 (by omega)) (det_bound r _ fun i hi v hv => ?_)
          unfold skip tl
          split
          · exact h i (by omega) (v + 1) (by omega)
          · exact h (i + 1) (by omega) (v + 1) (by omega)
        have h3 := Int.natAbs_add_le (sumN m fun i => sg i * A i 0 * det r (skip i (tl A))) (sg m * A m 0 * det r (skip m (tl A)))
        rw [Nat.succ_mul]
        show (sumN m (fun i => sg i * A i 0 * det r (skip i (tl A))) + sg m * A m 0 * det r (skip m (tl A))).natAbs ≤ _
        omega
    have h1 := key (r + 1) (Nat.le_refl _)
    have h2 : fct (r + 1) * K ^ (r + 1) = (r + 1) * (K * (fct r * K ^ r)) := by
      rw [fct, Nat.pow_succ, Nat.mul_assoc, Nat.mul_comm (K ^ r) K, ← Nat.mul_assoc (fct r), Nat.mul_comm (fct r) K, Nat.mul_assoc K]
    rw [h2]
    exact h1
theorem lift_rel {r : Nat} {A : Nat → Nat → Int} {a : Nat} (ha : a ≤ r) (h : ∃ y : Nat → Int, (∃ u, u < r ∧ y u ≠ 0) ∧ ∀ v, v < r → sumN r (fun u => y u * skip a (tl A) u v) = 0) :
    ∃ z : Nat → Int, (∃ u, u < r + 1 ∧ z u ≠ 0) ∧ z a = 0 ∧ ∀ v, v < r → sumN (r + 1) (fun u => z u * A u (v + 1)) = 0 := by
  obtain ⟨y, ⟨u, hu, hyu⟩, h0⟩ := h
  refine ⟨fun i => if i < a then y i else if i = a then 0 else y (i - 1), ?_, by simp, fun v hv => ?_⟩
  · by_cases hua : u < a
    · exact ⟨u, by omega, by simp only [hua, if_true]; exact hyu⟩
    · refine ⟨u + 1, by omega, ?_⟩
      simp only [show ¬ u + 1 < a by omega, show ¬ u + 1 = a by omega, if_false, Nat.add_sub_cancel]
      exact hyu
  · rw [sumN_skip r a ha]
    simp only [Nat.lt_irrefl, if_false, if_true, Int.zero_mul, Int.add_zero]
    rw [← h0 v hv]
    refine sumN_congr fun i hi => ?_
    rw [skip_at]
    by_cases hia : i < a
    · simp only [hia, if_true]
      rfl
    · simp only [hia, if_false, show ¬ i + 1 < a by omega, show ¬ i + 1 = a by omega, Nat.add_sub_cancel]
      rfl
theorem cof_zero {r : Nat} {A : Nat → Nat → Int} {v : Nat} (hv : v < r) : sumN (r + 1) (fun u => sg u * det r (skip u (tl A)) * A u (v + 1)) = 0 := by
  have h := det_eq0 v (r + 1) (fun i w => if w = 0 then A i (v + 1) else A i w) (by omega) (fun i hi => by simp)
  rw [← h, det_succ]
  refine sumN_congr fun u hu => ?_
  have : det r (skip u (tl fun i w => if w = 0 then A i (v + 1) else A i w)) = det r (skip u (tl A)) := det_congr r fun i hi w hw => by
    rw [skip_at, skip_at]
    unfold tl
    simp
  rw [this]
  simp only [if_true]
  rw [Int.mul_assoc, Int.mul_assoc, Int.mul_comm (det r _)]
theorem det_rel : ∀ (r : Nat) (A : Nat → Nat → Int), det r A = 0 → ∃ y : Nat → Int, (∃ u, u < r ∧ y u ≠ 0) ∧ ∀ v, v < r → sumN r (fun u => y u * A u v) = 0
  | 0, _, h => absurd h (by simp [det])
  | r + 1, A, h => by
    rcases Classical.em (∃ u, u < r + 1 ∧ det r (skip u (tl A)) ≠ 0) with ⟨u, hu, hd⟩ | hn
    · refine ⟨fun u => sg u * det r (skip u (tl A)), ⟨u, hu, mul_ne (fun e => by have := sg_abs u; rw [e] at this; exact absurd this (by decide)) hd⟩, fun v hv => ?_⟩
      cases v with
      | zero =>
        rw [← h, det_succ]
        refine sumN_congr fun u hu => ?_
        show sg u * det r (skip u (tl A)) * A u 0 = sg u * A u 0 * det r (skip u (tl A))
        rw [Int.mul_assoc, Int.mul_assoc, Int.mul_comm (det r _)]
      | succ v => exact cof_zero (by omega)
    · have hz : ∀ u, u < r + 1 → det r (skip u (tl A)) = 0 := fun u hu => Classical.byContradiction fun h => hn ⟨u, hu, h⟩
      obtain ⟨z, ⟨a, ha, hza⟩, _, hzc⟩ := lift_rel (A := A) (Nat.zero_le r) (det_rel r _ (hz 0 (by omega)))
      obtain ⟨z', ⟨b, hb, hzb⟩, hza', hzc'⟩ := lift_rel (A := A) (show a ≤ r by omega) (det_rel r _ (hz a ha))
      obtain ⟨e, he⟩ : ∃ e, e = sumN (r + 1) (fun u => z u * A u 0) := ⟨_, rfl⟩
      obtain ⟨e', he'⟩ : ∃ e, e = sumN (r + 1) (fun u => z' u * A u 0) := ⟨_, rfl⟩
      rcases Classical.em (e' = 0) with h0 | h0
      · refine ⟨z', ⟨b, hb, hzb⟩, fun v hv => ?_⟩
        cases v with
        | zero => rw [← he', h0]
        | succ v => exact hzc' v (by omega)
      · have lin : ∀ v, sumN (r + 1) (fun u => (e' * z u - e * z' u) * A u v) = e' * sumN (r + 1) (fun u => z u * A u v) - e * sumN (r + 1) (fun u => z' u * A u v) := fun v => by
          rw [← sumN_mul, ← sumN_mul, ← sumN_sub]
          refine sumN_congr fun u hu => ?_
          rw [Int.sub_mul, Int.mul_assoc, Int.mul_assoc]
        refine ⟨fun u => e' * z u - e * z' u, ⟨a, ha, ?_⟩, fun v hv => ?_⟩
        · show e' * z a - e * z' a ≠ 0
          rw [hza', Int.mul_zero, Int.sub_zero]
          exact mul_ne h0 hza
        · rw [lin]
          cases v with
          | zero => rw [← he, ← he', Int.mul_comm, Int.sub_self]
          | succ v => rw [hzc v (by omega), hzc' v (by omega), Int.mul_zero, Int.mul_zero, Int.sub_self]
/-- Column t moved to the front. -/
def mv (t : Nat) (A : Nat → Nat → Int) : Nat → Nat → Int := fun i v => if v = 0 then A i t else A i (if v - 1 < t then v - 1 else v)
theorem mv_succ (t : Nat) (A : Nat → Nat → Int) (i v : Nat) : mv t A i (v + 1) = A i (if v < t then v else v + 1) := by
  unfold mv
  rw [if_neg (by omega), Nat.add_sub_cancel]
theorem det_mv : ∀ (t r : Nat) (A : Nat → Nat → Int), t < r → det r (mv t A) = sg t * det r A
  | 0, r, A, _ => by
    rw [sg, Int.one_mul]
    refine det_congr r fun i hi v hv => ?_
    unfold mv
    by_cases h : v = 0
    · rw [if_pos h, h]
    · rw [if_neg h, if_neg (by omega)]
  | t + 1, r, A, h => by
    have e : det r (mv (t + 1) A) = det r (mv t (swc t A)) := det_congr r fun i hi v hv => by
      unfold mv swc
      by_cases h : v = 0
      · rw [if_pos h, if_pos h, if_pos rfl]
      · rw [if_neg h, if_neg h]
        by_cases h1 : v - 1 < t
        · rw [if_pos (by omega), if_pos h1, if_neg (by omega), if_neg (by omega)]
        · by_cases h2 : v - 1 = t
          · rw [if_pos (by omega), if_neg h1, if_neg (by omega), if_pos (by omega)]
            congr 1
          · rw [if_neg (by omega), if_neg h1, if_neg (by omega), if_neg (by omega)]
    rw [e, det_mv t r _ (by omega), det_sw r t A (by omega), sg, Int.neg_mul, Int.mul_neg]
/-- Cramer's rule: what takes a matrix to a multiple of the unit matrix, and how great its numbers are. -/
theorem cramer {r K : Nat} {A : Nat → Nat → Int} (hA : ∀ i, i < r + 1 → ∀ v, v < r + 1 → (A i v).natAbs ≤ K) (hind : ∀ y : Nat → Int, (∀ v, v < r + 1 → sumN (r + 1) (fun u => y u * A u v) = 0) → ∀ u, u < r + 1 → y u = 0) :
    ∃ (D : Int) (G : Nat → Nat → Int), D ≠ 0 ∧ D.natAbs ≤ fct (r + 1) * K ^ (r + 1) ∧ (∀ t, t < r + 1 → ∀ u, u < r + 1 → (G t u).natAbs ≤ fct r * K ^ r) ∧ ∀ t, t < r + 1 → ∀ v, v < r + 1 → sumN (r + 1) (fun u => G t u * A u v) = if v = t then D else 0 := by
  refine ⟨det (r + 1) A, fun t u => sg t * (sg u * det r (skip u (tl (mv t A)))), fun h => ?_, det_bound _ _ hA, fun t ht u hu => ?_, fun t ht v hv => ?_⟩
  · obtain ⟨y, ⟨u, hu, hy⟩, h0⟩ := det_rel _ _ h
    exact hy (hind y h0 u hu)
  · rw [Int.natAbs_mul, Int.natAbs_mul, sg_abs, sg_abs, Nat.one_mul, Nat.one_mul]
    refine det_bound r _ fun i hi v hv => ?_
    rw [skip_at]
    show (if i < u then mv t A i (v + 1) else mv t A (i + 1) (v + 1)).natAbs ≤ K
    rw [mv_succ, mv_succ]
    split
    · exact hA i (by omega) _ (by split <;> omega)
    · exact hA (i + 1) (by omega) _ (by split <;> omega)
  · have e1 : sumN (r + 1) (fun u => sg t * (sg u * det r (skip u (tl (mv t A)))) * A u v) = sg t * sumN (r + 1) (fun u => sg u * det r (skip u (tl (mv t A))) * A u v) := by
      rw [← sumN_mul]
      exact sumN_congr fun u hu => Int.mul_assoc _ _ _
    show sumN (r + 1) (fun u => sg t * (sg u * det r (skip u (tl (mv t A)))) * A u v) = _
    rw [e1]
    by_cases hvt : v = t
    · rw [if_pos hvt, hvt]
      have e2 : sumN (r + 1) (fun u => sg u * det r (skip u (tl (mv t A))) * A u t) = det (r + 1) (mv t A) := by
        rw [det_succ]
        refine sumN_congr fun u hu => ?_
        have : mv t A u 0 = A u t := if_pos rfl
        rw [this, Int.mul_assoc, Int.mul_assoc, Int.mul_comm (det r _)]
      rw [e2, det_mv t _ A ht, ← Int.mul_assoc, sg_sq, Int.one_mul]
    · rw [if_neg hvt]
      obtain ⟨w, hw, hwv⟩ : ∃ w, w < r ∧ (if w < t then w else w + 1) = v := by
        rcases Nat.lt_or_ge v t with h | h
        · exact ⟨v, by omega, if_pos h⟩
        · exact ⟨v - 1, by omega, by rw [if_neg (by omega)]; omega⟩
      have e2 : sumN (r + 1) (fun u => sg u * det r (skip u (tl (mv t A))) * A u v) = sumN (r + 1) (fun u => sg u * det r (skip u (tl (mv t A))) * mv t A u (w + 1)) := sumN_congr fun u hu => by
        have : mv t A u (w + 1) = A u v := by
          unfold mv
          rw [if_neg (by omega), Nat.add_sub_cancel, hwv]
        rw [this]
      rw [e2, cof_zero hw, Int.mul_zero]
end Go.Proofs.Ytedkeobhcpbigaa
/- Elimination and Cramer's rule: one common denominator for all reduced rows, and small numbers above it. Plain mathematics. -/
namespace Go.Proofs.Ytedkeobhcpbigaa
/-- What is 0 in all pivots' columns, and in the span of the rows from which the pivots stem, is 0. -/
theorem Elim.null {n q s : Nat} {M R : Nat → Nat → Int} {r k : Nat} {c o : Nat → Nat} (h : Elim n q s M R r k c o) {w : Nat → Int} (hw : InSpan n r (fun u => M (o u)) w) (h0 : ∀ t, t < r → w (c t) = 0) : ∀ j, j < n → w j = 0 := by
  have hcn : ∀ t, t < r → c t < n := fun t ht => by have := h.ck t ht; have := h.kq; have := h.qn; omega
  have hrs := h.rs
  obtain ⟨z, ⟨i, hi, hzi⟩, hz0⟩ := span_rel (fun i => if i < r then R i else w) (fun i hi => by
    by_cases h1 : i < r
    · simp only [h1, if_true]; exact h.span1 i h1
    · simp only [h1, if_false]; exact hw)
  have hzt : ∀ t, t < r → z t = 0 := fun t ht => by
    have h1 := hz0 (c t) (hcn t ht)
    rw [sumN, sumN_one ht (fun u hu hne => by rw [if_pos hu, h.off t ht u (by omega) hne, Int.mul_zero])] at h1
    simp only [ht, if_true, Nat.lt_irrefl, if_false, h0 t ht, Int.mul_zero, Int.add_zero] at h1
    exact (Int.mul_eq_zero.1 h1).resolve_right (by have := h.pos t ht; omega)
  have hzr : z r ≠ 0 := fun e => by
    rcases Nat.lt_or_eq_of_le (Nat.lt_succ_iff.1 hi) with h1 | h1
    · exact hzi (hzt i h1)
    · subst h1; exact hzi e
  intro j hj
  have h1 := hz0 j hj
  rw [sumN, sumN_zero (fun t ht => by rw [hzt t ht, Int.zero_mul])] at h1
  simp only [Nat.lt_irrefl, if_false, Int.zero_add] at h1
  exact (Int.mul_eq_zero.1 h1).resolve_left hzr
/-- The rows from which the pivots stem do not depend on each other. -/
theorem Elim.free {n q s : Nat} {M R : Nat → Nat → Int} {r k : Nat} {c o : Nat → Nat} (h : Elim n q s M R (r + 1) k c o) {y : Nat → Int} (hy : ∀ v, v < r + 1 → sumN (r + 1) (fun u => y u * M (o u) (c v)) = 0) : ∀ u, u < r + 1 → y u = 0 := fun a ha => Classical.byContradiction fun hya => by
  have hcn : ∀ t, t < r + 1 → c t < n := fun t ht => by have := h.ck t ht; have := h.kq; have := h.qn; omega
  have hrs := h.rs
  have h0 := h.null (w := fun j => sumN (r + 1) (fun u => y u * M (o u) j)) ⟨1, y, by decide, fun j _ => by rw [Int.one_mul]⟩ hy
  obtain ⟨z, ⟨i, hi, hzi⟩, hz0⟩ := span_rel (fun i => R i) (fun i hi => span_drop ha hya h0 (h.span1 i hi))
  have h1 := hz0 (c i) (hcn i hi)
  rw [sumN_one hi (fun u hu hne => by rw [h.off i hi u (by omega) hne, Int.mul_zero])] at h1
  exact hzi ((Int.mul_eq_zero.1 h1).resolve_right (by have := h.pos i hi; omega))
/-- The common denominator, and what stands above it. -/
structure Cram (n q s : Nat) (M R : Nat → Nat → Int) (r K : Nat) (c : Nat → Nat) (D : Int) (Y : Nat → Nat → Int) : Prop where
  pos : 0 < D
  le : D.natAbs ≤ fct r * K ^ r
  row : ∀ t, t < r → ∀ j, j < n → R t (c t) * Y t j = D * R t j
  bd : ∀ (N : Nat) j, (∀ i, i < s → (M i j).natAbs ≤ N) → ∀ t, t < r → (Y t j).natAbs ≤ fct r * K ^ (r - 1) * N
theorem Elim.cram {n q s : Nat} {M R : Nat → Nat → Int} {r k : Nat} {c o : Nat → Nat} (h : Elim n q s M R r k c o) {K : Nat} (hK : ∀ i, i < s → ∀ j, j < q → (M i j).natAbs ≤ K) : ∃ D Y, Cram n q s M R r K c D Y := by
  cases r with
  | zero => exact ⟨1, fun _ _ => 0, by decide, by simp [fct], fun t ht => by omega, fun N j _ t ht => by omega⟩
  | succ r =>
    have hrs := h.rs
    have hcq : ∀ t, t < r + 1 → c t < q := fun t ht => by have := h.ck t ht; have := h.kq; omega
    have hcn : ∀ t, t < r + 1 → c t < n := fun t ht => by have := hcq t ht; have := h.qn; omega
    obtain ⟨D, G, hD, hDb, hGb, hG⟩ := cramer (r := r) (K := K) (A := fun u v => M (o u) (c v)) (fun i hi v hv => hK _ (h.olt i (by omega)) _ (hcq v hv)) (fun y hy => h.free hy)
    -- a sign that makes D positive
    obtain ⟨e, he, hpos⟩ : ∃ e : Int, e.natAbs = 1 ∧ 0 < e * D := by
      rcases Int.lt_or_gt_of_ne hD with h1 | h1
      · exact ⟨-1, by decide, by omega⟩
      · exact ⟨1, by decide, by omega⟩
    refine ⟨e * D, fun t j => e * sumN (r + 1) (fun u => G t u * M (o u) j), hpos, by rw [Int.natAbs_mul, he, Nat.one_mul]; exact hDb, fun t ht j hj => ?_, fun N j hN t ht => ?_⟩
    · have h0 := h.null (w := fun j => R t (c t) * sumN (r + 1) (fun u => G t u * M (o u) j) - D * R t j)
        (span_comb (u := fun j => sumN (r + 1) (fun u => G t u * M (o u) j)) (v := R t) (R t (c t)) (-D) 1 (by decide) ⟨1, G t, by decide, fun j _ => by rw [Int.one_mul]⟩ (h.span1 t ht) (fun j _ => by rw [Int.one_mul, Int.neg_mul]; omega))
        (fun v hv => by
          have h1 := hG t ht v hv
          have h2 : sumN (r + 1) (fun u => G t u * M (o u) (c v)) = if v = t then D else 0 := h1
          show R t (c t) * sumN (r + 1) (fun u => G t u * M (o u) (c v)) - D * R t (c v) = 0
          rw [h2]
          by_cases hvt : v = t
          · rw [if_pos hvt, hvt, Int.mul_comm, Int.sub_self]
          · rw [if_neg hvt, h.off v hv t (by omega) (fun e => hvt e.symm), Int.mul_zero, Int.mul_zero, Int.sub_zero])
        j hj
      have h0' : R t (c t) * sumN (r + 1) (fun u => G t u * M (o u) j) = D * R t j := by
        have : R t (c t) * sumN (r + 1) (fun u => G t u * M (o u) j) - D * R t j = 0 := h0
        omega
      show R t (c t) * (e * sumN (r + 1) (fun u => G t u * M (o u) j)) = e * D * R t j
      rw [Int.mul_left_comm, h0', Int.mul_assoc]
    · show (e * sumN (r + 1) (fun u => G t u * M (o u) j)).natAbs ≤ _
      rw [Int.natAbs_mul, he, Nat.one_mul]
      have h1 := sumN_bd (k := r + 1) (f := fun u => G t u * M (o u) j) (B := ((fct r * K ^ r * N : Nat) : Int)) (fun u hu => by
        have h2 : (G t u * M (o u) j).natAbs ≤ fct r * K ^ r * N := by
          rw [Int.natAbs_mul]
          exact Nat.mul_le_mul (hGb t ht u hu) (hN _ (h.olt u (by omega)))
        omega)
      have h3 : fct (r + 1) * K ^ (r + 1 - 1) * N = (r + 1) * (fct r * K ^ r * N) := by
        rw [fct, Nat.add_sub_cancel]
        simp only [Nat.mul_assoc]
      rw [h3]
      have h4 : (((r + 1) * (fct r * K ^ r * N) : Nat) : Int) = ((r + 1 : Nat) : Int) * ((fct r * K ^ r * N : Nat) : Int) := Int.natCast_mul _ _
      rw [← h4] at h1
      omega
/-- A pivot divides the common denominator. -/
theorem Cram.dvd {n q s : Nat} {M R : Nat → Nat → Int} {r K : Nat} {c : Nat → Nat} {D : Int} {Y : Nat → Nat → Int} (h : Cram n q s M R r K c D Y) {t : Nat} (ht : t < r) (hp : Prim n (R t)) : R t (c t) ∣ D :=
  hp.dvd fun j hj => ⟨Y t j, (h.row t ht j hj).symm⟩
theorem fct_le6 {r : Nat} (h : r ≤ 6) : fct r * 2 ^ r ≤ 46080 ∧ fct r * 2 ^ (r - 1) ≤ 23040 := by
  have : r = 0 ∨ r = 1 ∨ r = 2 ∨ r = 3 ∨ r = 4 ∨ r = 5 ∨ r = 6 := by omega
  rcases this with rfl | rfl | rfl | rfl | rfl | rfl | rfl <;> decide
theorem fct_le5 {r : Nat} (h : r ≤ 5) : fct r * 2 ^ r ≤ 3840 ∧ fct r * 2 ^ (r - 1) ≤ 1920 := by
  have : r = 0 ∨ r = 1 ∨ r = 2 ∨ r = 3 ∨ r = 4 ∨ r = 5 := by omega
  rcases this with rfl | rfl | rfl | rfl | rfl | rfl <;> decide
end Go.Proofs.Ytedkeobhcpbigaa
/- Fractions over one common denominator: sums and products stay valid as long as the numbers above it are small. Plain mathematics. -/
namespace Go.Proofs.Ytedkeobhcpbigaa
open Go.RowKit
/-- The valid fraction p has the value of N over D. -/
structure Rep (D N : Int) (p : Int × Int) : Prop where
  ok : IsR p.1 p.2
  eq : p.1 * D = N * p.2
def Lim (N : Int) : Prop := -1000000000 ≤ N ∧ N ≤ 1000000000
theorem rep_red {D N : Int} (hD : 0 < D) (hD1 : D ≤ 1000000000) (hN : Lim N) : Rep D N (redN N D, redD N D) :=
  ⟨isR_true.1 (red_in (by omega) (inR_true.2 hN) (inR_true.2 ⟨by omega, hD1⟩)), red_cross (by omega)⟩
theorem rep_uniq {D N : Int} {p q : Int × Int} (hD : 0 < D) (hp : Rep D N p) (hq : Rep D N q) : p = q := by
  obtain ⟨_, a1, a2⟩ := mk_uniq hD hp.ok hp.eq.symm
  obtain ⟨_, b1, b2⟩ := mk_uniq hD hq.ok hq.eq.symm
  exact Prod.ext (a1.symm.trans b1) (a2.symm.trans b2)
theorem rep_inj {D N N' : Int} {p : Int × Int} (hp : Rep D N p) (hq : Rep D N' p) : N = N' := by
  have h := hp.eq.symm.trans hq.eq
  have hd := hp.ok.2.2.1
  exact mul_cancel (show 0 < p.2 by omega) h
theorem rep_int {D a : Int} (ha : Lim a) : Rep D (a * D) (a, 1) :=
  ⟨⟨ha.1, ha.2, by omega, by omega, by simp⟩, by simp⟩
/-- A made fraction. -/
theorem rep_mk {D N n d : Int} (hD : 0 < D) (hD1 : D ≤ 1000000000) (hN : Lim N) (hd : 0 < d) (h : n * D = N * d) : MkOk n d ∧ Rep D N (mkN n d, mkD n d) := by
  have hr := rep_red hD hD1 hN
  have hc : n * redD N D = redN N D * d := by
    refine mul_cancel hD ?_
    have e := hr.eq
    calc n * redD N D * D = n * D * redD N D := by rw [Int.mul_assoc, Int.mul_comm (redD N D), ← Int.mul_assoc]
      _ = N * redD N D * d := by rw [h, Int.mul_assoc, Int.mul_comm d, ← Int.mul_assoc]
      _ = redN N D * D * d := by rw [← e]
      _ = redN N D * d * D := by rw [Int.mul_assoc, Int.mul_comm D, ← Int.mul_assoc]
  obtain ⟨h1, h2, h3⟩ := mk_uniq hd hr.ok hc
  exact ⟨h1, by rw [h2, h3]; exact hr⟩
theorem rep_mul {D N a : Int} {p : Int × Int} (hD : 0 < D) (hD1 : D ≤ 1000000000) (ha : Lim a) (hp : Rep D N p) (hN : Lim (a * N)) : MulOk a 1 p.1 p.2 ∧ Rep D (a * N) (mulN a 1 p.1 p.2, mulD a 1 p.1 p.2) := by
  have hd := hp.ok.2.2.1
  obtain ⟨h1, h2⟩ := rep_mk (n := a * p.1) (d := 1 * p.2) hD hD1 hN (by omega) (by rw [Int.one_mul, Int.mul_assoc, hp.eq, Int.mul_assoc])
  have hm : MulOk a 1 p.1 p.2 := ⟨(rep_int (D := D) ha).ok, hp.ok, h1⟩
  refine ⟨hm, ?_⟩
  unfold mulN mulD
  rw [if_pos hm, if_pos hm]
  exact h2
theorem rep_add {D N N' : Int} {p q : Int × Int} (hD : 0 < D) (hD1 : D ≤ 1000000000) (hp : Rep D N p) (hq : Rep D N' q) (hN : Lim (N + N')) : AddOk p.1 p.2 q.1 q.2 ∧ Rep D (N + N') (addN p.1 p.2 q.1 q.2, addD p.1 p.2 q.1 q.2) := by
  have hd := hp.ok.2.2.1
  have hd2 := hq.ok.2.2.1
  obtain ⟨h1, h2⟩ := rep_mk (n := p.1 * q.2 + q.1 * p.2) (d := p.2 * q.2) hD hD1 hN (Int.mul_pos (by omega) (by omega)) (by
    have e1 := hp.eq
    have e2 := hq.eq
    have r1 : p.1 * q.2 * D = N * (p.2 * q.2) := by rw [Int.mul_assoc, Int.mul_comm q.2, ← Int.mul_assoc, e1, Int.mul_assoc]
    have r2 : q.1 * p.2 * D = N' * (p.2 * q.2) := by rw [Int.mul_assoc, Int.mul_comm p.2, ← Int.mul_assoc, e2, Int.mul_assoc, Int.mul_comm q.2]
    rw [Int.add_mul, Int.add_mul, r1, r2])
  have hm : AddOk p.1 p.2 q.1 q.2 := ⟨hp.ok, hq.ok, h1⟩
  refine ⟨hm, ?_⟩
  unfold addN addD
  rw [if_pos hm, if_pos hm]
  exact h2
/-! ### Integers times fractions -/
/-- One more product. -/
def stepR (s : Int × Int) (a : Int) (x : Int × Int) : Option (Int × Int) :=
  if MulOk a 1 x.1 x.2 then (if AddOk s.1 s.2 (mulN a 1 x.1 x.2) (mulD a 1 x.1 x.2) then some (addN s.1 s.2 (mulN a 1 x.1 x.2) (mulD a 1 x.1 x.2), addD s.1 s.2 (mulN a 1 x.1 x.2) (mulD a 1 x.1 x.2)) else none) else none
/-- The sum of the first k products, if it is valid all the way. -/
def dotR (z : List Int) (xs : List (Int × Int)) : Nat → Option (Int × Int)
  | 0 => some (0, 1)
  | k + 1 => (dotR z xs k).bind fun s => stepR s (vec z k) (xs.getD k (0, 0))
theorem dotR_none {z : List Int} {xs : List (Int × Int)} {k : Nat} (h : dotR z xs k = none) : ∀ d, dotR z xs (k + d) = none
  | 0 => h
  | d + 1 => by
    show (dotR z xs (k + d)).bind _ = none
    rw [dotR_none h d]
    rfl
theorem dotR_valid {z : List Int} {xs : List (Int × Int)} : ∀ {k : Nat} {p : Int × Int}, dotR z xs k = some p → IsR p.1 p.2
  | 0, p, h => by
    cases h
    decide
  | k + 1, p, h => by
    have h1 : (dotR z xs k).bind (fun s => stepR s (vec z k) (xs.getD k (0, 0))) = some p := h
    cases hs : dotR z xs k with
    | none => rw [hs] at h1; cases h1
    | some s =>
      rw [hs] at h1
      have h2 : stepR s (vec z k) (xs.getD k (0, 0)) = some p := h1
      unfold stepR at h2
      split at h2
      · split at h2
        · rename_i ha
          cases h2
          exact add_valid ha
        · cases h2
      · cases h2
theorem dot_rep {D : Int} {z : List Int} {xs : List (Int × Int)} {X : Nat → Int} {n : Nat} (hD : 0 < D) (hD1 : D ≤ 1000000000) (hx : ∀ k, k < n → Rep D (X k) (xs.getD k (0, 0))) (ha : ∀ k, k < n → Lim (vec z k)) (hm : ∀ k, k < n → Lim (vec z k * X k))
    (hs : ∀ k, k ≤ n → Lim (sumN k fun j => vec z j * X j)) : ∀ k, k ≤ n → ∃ p, dotR z xs k = some p ∧ Rep D (sumN k fun j => vec z j * X j) p
  | 0, _ => ⟨(0, 1), rfl, by
    have := rep_int (D := D) (a := 0) ⟨by omega, by omega⟩
    rw [Int.zero_mul] at this
    exact this⟩
  | k + 1, hk => by
    obtain ⟨p, hp, hr⟩ := dot_rep hD hD1 hx ha hm hs k (by omega)
    obtain ⟨m1, m2⟩ := rep_mul hD hD1 (ha k (by omega)) (hx k (by omega)) (hm k (by omega))
    obtain ⟨a1, a2⟩ := rep_add hD hD1 hr m2 (hs (k + 1) hk)
    refine ⟨_, ?_, a2⟩
    show (dotR z xs k).bind _ = _
    rw [hp]
    show stepR p (vec z k) (xs.getD k (0, 0)) = _
    unfold stepR
    rw [if_pos m1, if_pos a1]
end Go.Proofs.Ytedkeobhcpbigaa
