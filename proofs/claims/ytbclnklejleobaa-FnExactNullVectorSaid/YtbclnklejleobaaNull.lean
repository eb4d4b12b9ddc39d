/- Vectors whose products with reduced rows are 0: how they are made, and how small their common multiple stays. Plain mathematics. -/
import Derived.Test.YtbclnklejleobaaRem
import Derived.Test.YtbclnklejleobaaDot
namespace Go.Proofs.Ytbclnklejleobaa
/-- The integer with which row t begins. -/
def leadV (rs : List (List Int)) (t : Nat) : Int := vec (row rs t) (leadL (row rs t))
/-- The common multiple of the first integers of the first t rows, as it is reckoned. -/
def lcmN (rs : List (List Int)) : Nat → Int
  | 0 => 1
  | t + 1 => (lcmN rs t).tdiv (Int.gcd (lcmN rs t) (leadV rs t) : Int) * leadV rs t
theorem lcm_step {a b : Int} (ha : 0 < a) (hb : 0 < b) : a.tdiv (Int.gcd a b : Int) * b = (Int.lcm a b : Int) := by
  have hg : (0 : Int) < (Int.gcd a b : Int) := by
    have := Int.gcd_pos_of_ne_zero_left b (show a ≠ 0 by omega)
    omega
  have h1 : (Int.gcd a b : Int) * (Int.lcm a b : Int) = a * b := by
    have h := Int.gcd_mul_lcm a b
    have h2 : ((Int.gcd a b * Int.lcm a b : Nat) : Int) = ((a * b).natAbs : Int) := by rw [h, Int.natAbs_mul]
    rw [Int.natCast_mul] at h2
    rw [h2]
    have := Int.mul_pos ha hb
    omega
  have h3 : (Int.gcd a b : Int) * a.tdiv (Int.gcd a b : Int) = a := Int.mul_tdiv_cancel' (Int.gcd_dvd_left a b)
  refine Int.eq_of_mul_eq_mul_left (show (Int.gcd a b : Int) ≠ 0 by omega) ?_
  rw [h1, ← Int.mul_assoc, h3]
theorem lcmN_pos {rs : List (List Int)} {r : Nat} (hp : ∀ t, t < r → 0 < leadV rs t) : ∀ t, t ≤ r → 0 < lcmN rs t
  | 0, _ => by show (0 : Int) < 1; decide
  | t + 1, ht => by
    have ih := lcmN_pos hp t (by omega)
    rw [lcmN, lcm_step ih (hp t (by omega))]
    have := Int.lcm_pos (show lcmN rs t ≠ 0 by omega) (show leadV rs t ≠ 0 by have := hp t (by omega); omega)
    omega
theorem lcmN_dvd {rs : List (List Int)} {r : Nat} (hp : ∀ t, t < r → 0 < leadV rs t) {Z : Int} (hZ : ∀ t, t < r → leadV rs t ∣ Z) : ∀ t, t ≤ r → lcmN rs t ∣ Z
  | 0, _ => Int.one_dvd Z
  | t + 1, ht => by
    rw [lcmN, lcm_step (lcmN_pos hp t (by omega)) (hp t (by omega))]
    exact Int.coe_lcm_dvd (lcmN_dvd hp hZ t (by omega)) (hZ t (by omega))
theorem dvd_lcmN {rs : List (List Int)} {r : Nat} (hp : ∀ t, t < r → 0 < leadV rs t) : ∀ t, t ≤ r → ∀ u, u < t → leadV rs u ∣ lcmN rs t
  | 0, _, u, hu => absurd hu (Nat.not_lt_zero _)
  | t + 1, ht, u, hu => by
    rw [lcmN, lcm_step (lcmN_pos hp t (by omega)) (hp t (by omega))]
    rcases Nat.lt_or_eq_of_le (Nat.lt_succ_iff.1 hu) with h | rfl
    · exact Int.dvd_trans (dvd_lcmN hp t (by omega) u h) (Int.dvd_lcm_left _ _)
    · exact Int.dvd_lcm_right _ _
/-- A small number that makes every free column's entry a multiple. -/
theorem Reduced.small_null {n : Nat} {ms rs : List (List Int)} {s : Nat} {M R : Nat → Nat → Int} {c o : Nat → Nat} (h : Reduced n ms rs s M R c o) {f : Nat} (hf : f < n) :
    ∃ z : Int, z ≠ 0 ∧ z.natAbs ≤ (2 * (rs.length + 1)) ^ rs.length ∧ ∀ t, t < rs.length → R t (c t) ∣ z * R t f := by
  have he := h.el
  obtain ⟨y, ⟨a, ha, hya⟩, hyb, hy⟩ := small_rel rs.length 2 (by decide) (fun i j => if i < rs.length then M (o j) (c i) else M (o j) f) (fun i hi j hj => by
    have hoj := he.olt j (by have := he.rs; omega)
    split
    · exact h.small _ hoj _ (he.ck i (by assumption))
    · exact h.small _ hoj _ hf)
  have key : ∀ t, t < rs.length → y t * R t (c t) + y rs.length * R t f = 0 := fun t ht => by
    obtain ⟨d, b, hd, e⟩ := he.span1 t ht
    have e1 : d * (sumN (rs.length + 1) (fun i => y i * (if i < rs.length then R t (c i) else R t f))) = 0 := by
      rw [← sumN_mul]
      have e2 : sumN (rs.length + 1) (fun i => d * (y i * (if i < rs.length then R t (c i) else R t f))) = sumN (rs.length + 1) (fun i => sumN rs.length (fun j => b j * (y i * (if i < rs.length then M (o j) (c i) else M (o j) f)))) := sumN_congr fun i hi => by
        by_cases hir : i < rs.length
        · simp only [hir, if_true]
          rw [Int.mul_left_comm, e (c i) (he.ck i hir), ← sumN_mul]
          exact sumN_congr fun j _ => by rw [Int.mul_left_comm]
        · simp only [hir, if_false]
          rw [Int.mul_left_comm, e f hf, ← sumN_mul]
          exact sumN_congr fun j _ => by rw [Int.mul_left_comm]
      rw [e2, sumN_swap]
      exact sumN_zero fun j hj => by rw [sumN_mul, hy j hj, Int.mul_zero]
    have e3 := (Int.mul_eq_zero.1 e1).resolve_left hd
    rw [sumN, sumN_one ht (fun u hu hne => by rw [if_pos hu, he.off u hu t (by have := he.rs; omega) (fun e => hne e.symm), Int.mul_zero])] at e3
    simpa [ht] using e3
  refine ⟨y rs.length, fun h0 => ?_, ?_, fun t ht => ⟨-(y t), ?_⟩⟩
  · rcases Nat.lt_or_eq_of_le (Nat.lt_succ_iff.1 ha) with h1 | h1
    · have := key a h1
      rw [h0, Int.zero_mul, Int.add_zero] at this
      exact hya ((Int.mul_eq_zero.1 this).resolve_right (by have := he.pos a h1; omega))
    · rw [h1] at hya; exact hya h0
  · have := hyb rs.length (Nat.lt_succ_self _)
    omega
  · have := key t ht
    rw [Int.mul_neg, Int.mul_comm (R t (c t))]
    omega
theorem Reduced.common {n : Nat} {ms rs : List (List Int)} {s : Nat} {M R : Nat → Nat → Int} {c o : Nat → Nat} (h : Reduced n ms rs s M R c o) : ∀ m, m ≤ n →
    ∃ (Z : Int) (k fr : Nat), Z ≠ 0 ∧ k + fr = m ∧ k ≤ rs.length ∧ (∀ t, t < rs.length → (c t < m ↔ t < k)) ∧ Z.natAbs ≤ ((2 * (rs.length + 1)) ^ rs.length) ^ fr ∧ ∀ t, t < rs.length → ∀ f, f < m → R t (c t) ∣ Z * R t f
  | 0, _ => ⟨1, 0, 0, by decide, rfl, Nat.zero_le _, fun t _ => by omega, by simp, fun t _ f hf => absurd hf (Nat.not_lt_zero _)⟩
  | m + 1, hm => by
    obtain ⟨Z, k, fr, hZ, hk, hkr, hc, hb, hd⟩ := h.common m (by omega)
    have he := h.el
    by_cases hp : ∃ u, u < rs.length ∧ c u = m
    · obtain ⟨u, hu, hcu⟩ := hp
      have huk : u = k := by
        have h1 : ¬ u < k := fun h2 => by have := (hc u hu).2 h2; omega
        rcases Nat.lt_or_ge k u with h2 | h2
        · have h3 := he.mono k u h2 hu
          have := (hc k (by omega)).1 (by omega)
          omega
        · omega
      subst huk
      refine ⟨Z, u + 1, fr, hZ, by omega, by omega, fun t ht => ?_, hb, fun t ht f hf => ?_⟩
      · have := hc t ht
        constructor
        · intro h1
          rcases Nat.lt_or_ge (c t) m with h2 | h2
          · have := this.1 h2; omega
          · rcases Nat.lt_trichotomy t u with h3 | h3 | h3
            · omega
            · omega
            · have := he.mono u t h3 ht; omega
        · intro h1
          rcases Nat.lt_or_eq_of_le (Nat.lt_succ_iff.1 h1) with h2 | rfl
          · have := this.2 h2; omega
          · omega
      · rcases Nat.lt_or_eq_of_le (Nat.lt_succ_iff.1 hf) with h1 | h1
        · exact hd t ht f h1
        · rw [h1, ← hcu]
          by_cases htu : t = u
          · subst htu; exact Int.dvd_mul_left _ _
          · rw [he.off u hu t (by have := he.rs; omega) htu, Int.mul_zero]; exact Int.dvd_zero _
    · obtain ⟨z, hz, hzb, hzd⟩ := h.small_null (f := m) (by omega)
      refine ⟨Z * z, k, fr + 1, mul_ne hZ hz, by omega, hkr, fun t ht => ?_, ?_, fun t ht f hf => ?_⟩
      · have h1 := hc t ht
        have h2 : c t ≠ m := fun e => hp ⟨t, ht, e⟩
        omega
      · rw [Int.natAbs_mul, Nat.pow_succ]
        exact Nat.mul_le_mul hb hzb
      · rcases Nat.lt_or_eq_of_le (Nat.lt_succ_iff.1 hf) with h1 | h1
        · rw [Int.mul_right_comm]
          exact Int.dvd_trans (hd t ht f h1) (Int.dvd_mul_right _ _)
        · rw [h1, Int.mul_assoc]
          exact Int.dvd_trans (hzd t ht) (Int.dvd_mul_left _ _)
theorem null_pow {r n : Nat} (hr : r ≤ n) (hn : n ≤ 6) : ((2 * (r + 1)) ^ r) ^ (n - r) ≤ 134217728 := by
  have : r = 0 ∨ r = 1 ∨ r = 2 ∨ r = 3 ∨ r = 4 ∨ r = 5 ∨ r = 6 := by omega
  rcases this with rfl | rfl | rfl | rfl | rfl | rfl | rfl
  · simp
  · exact Nat.le_trans (Nat.pow_le_pow_right (by decide) (show n - 1 ≤ 5 by omega)) (by decide)
  · exact Nat.le_trans (Nat.pow_le_pow_right (by decide) (show n - 2 ≤ 4 by omega)) (by decide)
  · exact Nat.le_trans (Nat.pow_le_pow_right (by decide) (show n - 3 ≤ 3 by omega)) (by decide)
  · exact Nat.le_trans (Nat.pow_le_pow_right (by decide) (show n - 4 ≤ 2 by omega)) (by decide)
  · exact Nat.le_trans (Nat.pow_le_pow_right (by decide) (show n - 5 ≤ 1 by omega)) (by decide)
  · exact Nat.le_trans (Nat.pow_le_pow_right (by decide) (show n - 6 ≤ 0 by omega)) (by decide)
theorem Reduced.leadV {n : Nat} {ms rs : List (List Int)} {s : Nat} {M R : Nat → Nat → Int} {c o : Nat → Nat} (h : Reduced n ms rs s M R c o) {t : Nat} (ht : t < rs.length) : Go.Proofs.Ytbclnklejleobaa.leadV rs t = R t (c t) := by
  unfold Go.Proofs.Ytbclnklejleobaa.leadV
  rw [h.lead t ht, h.rowv t ht]
theorem Reduced.lpos {n : Nat} {ms rs : List (List Int)} {s : Nat} {M R : Nat → Nat → Int} {c o : Nat → Nat} (h : Reduced n ms rs s M R c o) : ∀ t, t < rs.length → 0 < Go.Proofs.Ytbclnklejleobaa.leadV rs t := fun t ht => by rw [h.leadV ht]; exact h.el.pos t ht
/-- The common multiple of the first integers stays small. -/
theorem Reduced.lcm_le {n : Nat} {ms rs : List (List Int)} {s : Nat} {M R : Nat → Nat → Int} {c o : Nat → Nat} (h : Reduced n ms rs s M R c o) {t : Nat} (ht : t ≤ rs.length) : 0 < lcmN rs t ∧ lcmN rs t ≤ 134217728 := by
  refine ⟨lcmN_pos h.lpos t ht, ?_⟩
  have he := h.el
  obtain ⟨Z, k, fr, hZ, hk, hkr, hc, hb, hd⟩ := h.common n (Nat.le_refl n)
  have hkr2 : k = rs.length := by
    rcases Nat.lt_or_ge k rs.length with h1 | h1
    · have := (hc k h1).1 (he.ck k h1); omega
    · omega
  have hdv : ∀ t, t < rs.length → Go.Proofs.Ytbclnklejleobaa.leadV rs t ∣ Z := fun t ht => by
    rw [h.leadV ht]
    refine Prim.dvd (n := n) (v := R t) ?_ (fun j hj => hd t ht j hj)
    exact ((he.tidy t (by have := he.rs; omega)).first (he.ck t ht) (he.before t ht) (by have := he.pos t ht; omega)).2
  have h1 := lcmN_dvd h.lpos hdv t ht
  have h2 : (lcmN rs t).natAbs ≤ Z.natAbs := Nat.le_of_dvd (by omega) (Int.natAbs_dvd_natAbs.2 h1)
  have h3 := null_pow (r := rs.length) (n := n) (by omega) h.n6
  rw [show n - rs.length = fr by omega] at h3
  omega
end Go.Proofs.Ytbclnklejleobaa
