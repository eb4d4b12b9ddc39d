/- Vectors whose products with reduced rows are 0: how they are made, and how small their common multiple stays. Plain mathematics. -/
import Derived.Test.YtgcgdgbogamlnaaSpA
import Derived.Test.YtgcgdgbogamlnaaDot
namespace Go.Proofs.Ytgcgdgbogamlnaa
/-- The integer with which row t begins. -/
def leadV (rs : List (List Int)) (t : Nat) : Int := vec (row rs t) (leadL (row rs t))
/-- The common multiple of the first integers of the first t rows, as it is reckoned. -/
def lcmN (rs : List (List Int)) : Nat → Int
  | 0 => 1
  | t + 1 => (lcmN rs t).tdiv (Int.gcd (lcmN rs t) (leadV rs t) : Int) * leadV rs t
theorem lcm_step {a b : Int} (ha : 0 < a) (hb : 0 < b) : a.tdiv (Int.gcd a b : Int) * b = (Int.lcm a b : Int) := by
  have hg : (0 : Int) < (Int.gcd a b : Int) := by
    have := Int.gcd_pos_of_ne_zero_left b (show a ≠ 0 by omega)
    omega
  have h1 : (Int.gcd a b : Int) * (Int.lcm a b : Int) = a * b := by
    have h := Int.gcd_mul_lcm a b
    have h2 : ((Int.gcd a b * Int.lcm a b : Nat) : Int) = ((a * b).natAbs : Int) := by rw [h, Int.natAbs_mul]
    rw [Int.natCast_mul] at h2
    rw [h2]
    have := Int.mul_pos ha hb
    omega
  have h3 : (Int.gcd a b : Int) * a.tdiv (Int.gcd a b : Int) = a := Int.mul_tdiv_cancel' (Int.gcd_dvd_left a b)
  refine Int.eq_of_mul_eq_mul_left (show (Int.gcd a b : Int) ≠ 0 by omega) ?_
  rw [h1, ← Int.mul_assoc, h3]
theorem lcmN_pos {rs : List (List Int)} {r : Nat} (hp : ∀ t, t < r → 0 < leadV rs t) : ∀ t, t ≤ r → 0 < lcmN rs t
  | 0, _ => by show (0 : Int) < 1; decide
  | t + 1, ht => by
    have ih := lcmN_pos hp t (by omega)
    rw [lcmN, lcm_step ih (hp t (by omega))]
    have := Int.lcm_pos (show lcmN rs t ≠ 0 by omega) (show leadV rs t ≠ 0 by have := hp t (by omega); omega)
    omega
theorem lcmN_dvd {rs : List (List Int)} {r : Nat} (hp : ∀ t, t < r → 0 < leadV rs t) {Z : Int} (hZ : ∀ t, t < r → leadV rs t ∣ Z) : ∀ t, t ≤ r → lcmN rs t ∣ Z
  | 0, _ => Int.one_dvd Z
  | t + 1, ht => by
    rw [lcmN, lcm_step (lcmN_pos hp t (by omega)) (hp t (by omega))]
    exact Int.coe_lcm_dvd (lcmN_dvd hp hZ t (by omega)) (hZ t (by omega))
theorem dvd_lcmN {rs : List (List Int)} {r : Nat} (hp : ∀ t, t < r → 0 < leadV rs t) : ∀ t, t ≤ r → ∀ u, u < t → leadV rs u ∣ lcmN rs t
  | 0, _, u, hu => absurd hu (Nat.not_lt_zero _)
  | t + 1, ht, u, hu => by
    rw [lcmN, lcm_step (lcmN_pos hp t (by omega)) (hp t (by omega))]
    rcases Nat.lt_or_eq_of_le (Nat.lt_succ_iff.1 hu) with h | rfl
    · exact Int.dvd_trans (dvd_lcmN hp t (by omega) u h) (Int.dvd_lcm_left _ _)
    · exact Int.dvd_lcm_right _ _
/-- A small number that makes every free column's entry a multiple. -/
theorem Reduced.small_null {n : Nat} {ms rs : List (List Int)} {s : Nat} {M R : Nat → Nat → Int} {c o : Nat → Nat} (h : Reduced n ms rs s M R c o) {f : Nat} (hf : f < n) :
    ∃ z : Int, z ≠ 0 ∧ z.natAbs ≤ (2 * (rs.length + 1)) ^ rs.length ∧ ∀ t, t < rs.length → R t (c t) ∣ z * R t f := by
  have he := h.el
  obtain ⟨y, ⟨a, ha, hya⟩, hyb, hy⟩ := small_rel rs.length 2 (by decide) (fun i j => if i < rs.length then M (o j) (c i) else M (o j) f) (fun i hi j hj => by
    have hoj := he.olt j (by have := he.rs; omega)
    split
    · exact h.small _ hoj _ (he.ck i (by assumption))
    · exact h.small _ hoj _ hf)
  have key : ∀ t, t < rs.length → y t * R t (c t) + y rs.length * R t f = 0 := fun t ht => by
    obtain ⟨d, b, hd, e⟩ := he.span1 t ht
    have e1 : d * (sumN (rs.length + 1) (fun i => y i * (if i < rs.length then R t (c i) else R t f))) = 0 := by
      rw [← sumN_mul]
      have e2 : sumN (rs.length + 1) (fun i => d * (y i * (if i < rs.length then R t (c i) else R t f))) = sumN (rs.length + 1) (fun i => sumN rs.length (fun j => b j * (y i * (if i < rs.length then M (o j) (c i) else M (o j) f)))) := sumN_congr fun i hi => by
        by_cases hir : i < rs.length
        · simp only [hir, if_true]
          rw [Int.mul_left_comm, e (c i) (he.ck i hir), ← sumN_mul]
          exact sumN_congr fun j _ => by rw [Int.mul_left_comm]
        · simp only [hir, if_false]
          rw [Int.mul_left_comm, e f hf, ← sumN_mul]
          exact sumN_congr fun j _ => by rw [Int.mul_left_comm]
      rw [e2, sumN_swap]
      exact sumN_zero fun j hj => by rw [sumN_mul, hy j hj, Int.mul_zero]
    have e3 := (Int.mul_eq_zero.1 e1).resolve_left hd
    rw [sumN, sumN_one ht (fun u hu hne => by rw [if_pos hu, he.off u hu t (by have := he.rs; omega) (fun e => hne e.symm), Int.mul_zero])] at e3
    simpa [ht] using e3
  refine ⟨y rs.length, fun h0 => ?_, ?_, fun t ht => ⟨-(y t), ?_⟩⟩
  · rcases Nat.lt_or_eq_of_le (Nat.lt_succ_iff.1 ha) with h1 | h1
    · have := key a h1
      rw [h0, Int.zero_mul, Int.add_zero] at this
      exact hya ((Int.mul_eq_zero.1 this).resolve_right (by have := he.pos a h1; omega))
    · rw [h1] at hya; exact hya h0
  · have := hyb rs.length (Nat.lt_succ_self _)
    omega
  · have := key t ht
    rw [Int.mul_neg, Int.mul_comm (R t (c t))]
    omega
theorem Reduced.common {n : Nat} {ms rs : List (List Int)} {s : Nat} {M R : Nat → Nat → Int} {c o : Nat → Nat} (h : Reduced n ms rs s M R c o) : ∀ m, m ≤ n →
    ∃ (Z : Int) (k fr : Nat), Z ≠ 0 ∧ k + fr = m ∧ k ≤ rs.length ∧ (∀ t, t < rs.length → (c t < m ↔ t < k)) ∧ Z.natAbs ≤ ((2 * (rs.length + 1)) ^ rs.length) ^ fr ∧ ∀ t, t < rs.length → ∀ f, f < m → R t (c t) ∣ Z * R t f
  | 0, _ => ⟨1, 0, 0, by decide, rfl, Nat.zero_le _, fun t _ => by omega, by simp, fun t _ f hf => absurd hf (Nat.not_lt_zero _)⟩
  | m + 1, hm => by
    obtain ⟨Z, k, fr, hZ, hk, hkr, hc, hb, hd⟩ := h.common m (by omega)
    have he := h.el
    by_cases hp : ∃ u, u < rs.length ∧ c u = m
    · obtain ⟨u, hu, hcu⟩ := hp
      have huk : u = k := by
        have h1 : ¬ u < k := fun h2 => by have := (hc u hu).2 h2; omega
        rcases Nat.lt_or_ge k u with h2 | h2
        · have h3 := he.mono k u h2 hu
          have := (hc k (by omega)).1 (by omega)
          omega
        · omega
      subst huk
      refine ⟨Z, u + 1, fr, hZ, by omega, by omega, fun t ht => ?_, hb, fun t ht f hf => ?_⟩
      · have := hc t ht
        constructor
        · intro h1
          rcases Nat.lt_or_ge (c t) m with h2 | h2
          · have := this.1 h2; omega
          · rcases Nat.lt_trichotomy t u with h3 | h3 | h3
            · omega
            · omega
            · have := he.mono u t h3 ht; omega
        · intro h1
          rcases Nat.lt_or_eq_of_le (Nat.lt_succ_iff.1 h1) with h2 | rfl
          · have := this.2 h2; omega
          · omega
      · rcases Nat.lt_or_eq_of_le (Nat.lt_succ_iff.1 hf) with h1 | h1
        · exact hd t ht f h1
        · rw [h1, ← hcu]
          by_cases htu : t = u
          · subst htu; exact Int.dvd_mul_left _ _
          · rw [he.off u hu t (by have := he.rs; omega) htu, Int.mul_zero]; exact Int.dvd_zero _
    · obtain ⟨z, hz, hzb, hzd⟩ := h.small_null (f := m) (by omega)
      refine ⟨Z * z, k, fr + 1, mul_ne hZ hz, by omega, hkr, fun t ht => ?_, ?_, fun t ht f hf => ?_⟩
      · have h1 := hc t ht
        have h2 : c t ≠ m := fun e => hp ⟨t, ht, e⟩
        omega
      · rw [Int.natAbs_mul, Nat.pow_succ]
        exact Nat.mul_le_mul hb hzb
      · rcases Nat.lt_or_eq_of_le (Nat.lt_succ_iff.1 hf) with h1 | h1
        · rw [Int.mul_right_comm]
          exact Int.dvd_trans (hd t ht f h1) (Int.dvd_mul_right _ _)
        · rw [h1, Int.mul_assoc]
          exact Int.dvd_trans (hzd t ht) (Int.dvd_mul_left _ _)
theorem null_pow {r n : Nat} (hr : r ≤ n) (hn : n ≤ 6) : ((2 * (r + 1)) ^ r) ^ (n - r) ≤ 134217728 := by
  have : r = 0 ∨ r = 1 ∨ r = 2 ∨ r = 3 ∨ r = 4 ∨ r = 5 ∨ r = 6 := by omega
  rcases this with rfl | rfl | rfl | rfl | rfl | rfl | rfl
  · simp
  · exact Nat.le_trans (Nat.pow_le_pow_right (by decide) (show n - 1 ≤ 5 by omega)) (by decide)
  · exact Nat.le_trans (Nat.pow_le_pow_right (by decide) (show n - 2 ≤ 4 by omega)) (by decide)
  · exact Nat.le_trans (Nat.pow_le_pow_right (by decide) (show n - 3 ≤ 3 by omega)) (by decide)
  · exact Nat.le_trans (Nat.pow_le_pow_right (by decide) (show n - 4 ≤ 2 by omega)) (by decide)
  · exact Nat.le_trans (Nat.pow_le_pow_right (by decide) (show n - 5 ≤ 1 by omega)) (by decide)
  · exact Nat.le_trans (Nat.pow_le_pow_right (by decide) (show n - 6 ≤ 0 by omega)) (by decide)
theorem Reduced.leadV {n : Nat} {ms rs : List (List Int)} {s : Nat} {M R : Nat → Nat → Int} {c o : Nat → Nat} (h : Reduced n ms rs s M R c o) {t : Nat} (ht : t < rs.length) : Go.Proofs.Ytgcgdgbogamlnaa.leadV rs t = R t (c t) := by
  unfold Go.Proofs.Ytgcgdgbogamlnaa.leadV
  rw [h.lead t ht, h.rowv t ht]
theorem Reduced.lpos {n : Nat} {ms rs : List (List Int)} {s : Nat} {M R : Nat → Nat → Int} {c o : Nat → Nat} (h : Reduced n ms rs s M R c o) : ∀ t, t < rs.length → 0 < Go.Proofs.Ytgcgdgbogamlnaa.leadV rs t := fun t ht => by rw [h.leadV ht]; exact h.el.pos t ht
/-- The common multiple of the first integers stays small. -/
theorem Reduced.lcm_le {n : Nat} {ms rs : List (List Int)} {s : Nat} {M R : Nat → Nat → Int} {c o : Nat → Nat} (h : Reduced n ms rs s M R c o) {t : Nat} (ht : t ≤ rs.length) : 0 < lcmN rs t ∧ lcmN rs t ≤ 134217728 := by
  refine ⟨lcmN_pos h.lpos t ht, ?_⟩
  have he := h.el
  obtain ⟨Z, k, fr, hZ, hk, hkr, hc, hb, hd⟩ := h.common n (Nat.le_refl n)
  have hkr2 : k = rs.length := by
    rcases Nat.lt_or_ge k rs.length with h1 | h1
    · have := (hc k h1).1 (he.ck k h1); omega
    · omega
  have hdv : ∀ t, t < rs.length → Go.Proofs.Ytgcgdgbogamlnaa.leadV rs t ∣ Z := fun t ht => by
    rw [h.leadV ht]
    refine Prim.dvd (n := n) (v := R t) ?_ (fun j hj => hd t ht j hj)
    exact ((he.tidy t (by have := he.rs; omega)).first (he.ck t ht) (he.before t ht) (by have := he.pos t ht; omega)).2
  have h1 := lcmN_dvd h.lpos hdv t ht
  have h2 : (lcmN rs t).natAbs ≤ Z.natAbs := Nat.le_of_dvd (by omega) (Int.natAbs_dvd_natAbs.2 h1)
  have h3 := null_pow (r := rs.length) (n := n) (by omega) h.n6
  rw [show n - rs.length = fr by omega] at h3
  omega
end Go.Proofs.Ytgcgdgbogamlnaa
/- Null vectors of reduced rows: what they are, what their products are. Plain mathematics. -/
namespace Go.Proofs.Ytgcgdgbogamlnaa
open Go.RowKit
/-- The null vector with the free column f, after t rows. -/
def nullAt (rs : List (List Int)) (n f : Nat) : Nat → List Int
  | 0 => (List.replicate n 0).set f (lcmN rs rs.length)
  | t + 1 => (nullAt rs n f t).set (leadL (row rs t)) (-((lcmN rs rs.length).tdiv (leadV rs t)) * vec (row rs t) f)
theorem nullAt_len (rs : List (List Int)) (n f : Nat) : ∀ t, (nullAt rs n f t).length = n
  | 0 => by simp [nullAt]
  | t + 1 => by rw [nullAt, List.length_set, nullAt_len rs n f t]
/-- Whether one of the first u rows begins in column f. -/
def leadIn (rs : List (List Int)) (f : Nat) : Nat → Bool
  | 0 => false
  | u + 1 => leadIn rs f u || decide (leadL (row rs u) = f)
theorem leadIn_true {rs : List (List Int)} {f : Nat} : ∀ {u : Nat}, leadIn rs f u = true ↔ ∃ t, t < u ∧ leadL (row rs t) = f
  | 0 => by simp [leadIn]
  | u + 1 => by
    rw [leadIn, Bool.or_eq_true, leadIn_true, decide_eq_true_eq]
    constructor
    · rintro (⟨t, h1, h2⟩ | h)
      · exact ⟨t, by omega, h2⟩
      · exact ⟨u, by omega, h⟩
    · rintro ⟨t, h1, h2⟩
      rcases Nat.lt_or_eq_of_le (Nat.lt_succ_iff.1 h1) with h3 | rfl
      · exact .inl ⟨t, h3, h2⟩
      · exact .inr h2
theorem leadIn_false {rs : List (List Int)} {f u : Nat} (h : leadIn rs f u = false) {t : Nat} (ht : t < u) : leadL (row rs t) ≠ f := fun e => by
  rw [leadIn_true.2 ⟨t, ht, e⟩] at h
  cases h
theorem vec_set_same {z : List Int} {k : Nat} {a : Int} (h : k < z.length) : vec (z.set k a) k = a := by simp [vec, List.getD, h]
theorem vec_set_other {z : List Int} {k j : Nat} {a : Int} (h : j ≠ k) : vec (z.set k a) j = vec z j := by
  unfold vec List.getD
  rw [List.getElem?_set_ne (fun e => h e.symm)]
theorem vec_replicate (n j : Nat) : vec (List.replicate n 0) j = 0 := by
  unfold vec List.getD
  rw [List.getElem?_replicate]
  split <;> rfl
theorem nullAt_off {rs : List (List Int)} {n f k : Nat} (hf : k ≠ f) : ∀ t, (∀ u, u < t → leadL (row rs u) ≠ k) → vec (nullAt rs n f t) k = 0
  | 0, _ => by rw [nullAt, vec_set_other hf, vec_replicate]
  | t + 1, h => by rw [nullAt, vec_set_other (fun e => h t (Nat.lt_succ_self t) e.symm), nullAt_off hf t (fun u hu => h u (by omega))]
theorem sum_set {z : List Int} {n k : Nat} {a : Int} (x : Nat → Int) (hz : z.length = n) (hk : k < n) : sumN n (fun j => vec (z.set k a) j * x j) = sumN n (fun j => vec z j * x j) + (a - vec z k) * x k := by
  have h : sumN n (fun j => vec (z.set k a) j * x j) - sumN n (fun j => vec z j * x j) = (a - vec z k) * x k := by
    rw [← sumN_sub, sumN_one hk (fun j _ hne => by rw [vec_set_other hne, Int.sub_self]), vec_set_same (by omega), Int.sub_mul]
  omega
theorem nullAt_dot {n : Nat} {ms rs : List (List Int)} {s : Nat} {M R : Nat → Nat → Int} {c o : Nat → Nat} (h : Reduced n ms rs s M R c o) {f : Nat} (hf : f < n) (hfree : leadIn rs f rs.length = false) (x : Nat → Int) : ∀ t, t ≤ rs.length →
    sumN n (fun j => vec (nullAt rs n f t) j * x j) = lcmN rs rs.length * x f + sumN t (fun u => -((lcmN rs rs.length).tdiv (leadV rs u)) * vec (row rs u) f * x (c u))
  | 0, _ => by
    rw [nullAt, sum_set x (by simp) hf, sumN_zero (fun j _ => by rw [vec_replicate, Int.zero_mul]), vec_replicate, sumN, Int.sub_zero]
    omega
  | t + 1, ht => by
    have hl := h.lead t (by omega)
    have hct : c t < n := h.el.ck t (by omega)
    have hne : c t ≠ f := by rw [← hl]; exact leadIn_false hfree (by omega)
    rw [nullAt, hl, sum_set x (nullAt_len rs n f t) hct, nullAt_off hne t (fun u hu => by
      rw [h.lead u (by omega)]
      have := h.el.mono u t hu (by omega)
      omega), nullAt_dot h hf hfree x t (by omega), sumN, Int.sub_zero]
    omega
theorem null_row {n : Nat} {ms rs : List (List Int)} {s : Nat} {M R : Nat → Nat → Int} {c o : Nat → Nat} (h : Reduced n ms rs s M R c o) {f : Nat} (hf : f < n) (hfree : leadIn rs f rs.length = false) {t : Nat} (ht : t < rs.length) :
    sumN n (fun j => vec (nullAt rs n f rs.length) j * vec (row rs t) j) = 0 := by
  rw [nullAt_dot h hf hfree _ rs.length (Nat.le_refl _), sumN_one ht (fun u hu hne => by
    rw [← h.rowv t ht, h.el.off u hu t (by have := h.el.rs; omega) (fun e => hne e.symm), Int.mul_zero])]
  have e1 : vec (row rs t) (c t) = leadV rs t := by rw [h.leadV ht, h.rowv t ht]
  have e2 : leadV rs t * (lcmN rs rs.length).tdiv (leadV rs t) = lcmN rs rs.length := Int.mul_tdiv_cancel' (dvd_lcmN h.lpos _ (Nat.le_refl _) t ht)
  rw [e1, Int.neg_mul, Int.neg_mul, Int.mul_right_comm, Int.mul_comm _ (leadV rs t), e2]
  omega
/-- A null vector's product with a sum of the rows is 0. -/
theorem null_span {n : Nat} {ms rs : List (List Int)} {s : Nat} {M R : Nat → Nat → Int} {c o : Nat → Nat} (h : Reduced n ms rs s M R c o) {f : Nat} (hf : f < n) (hfree : leadIn rs f rs.length = false) {x : Nat → Int} (hx : InSpan n rs.length (fun u => vec (row rs u)) x) :
    sumN n (fun j => vec (nullAt rs n f rs.length) j * x j) = 0 := by
  obtain ⟨d, b, hd, e⟩ := hx
  have : d * sumN n (fun j => vec (nullAt rs n f rs.length) j * x j) = 0 := by
    rw [← sumN_mul]
    have e2 : sumN n (fun j => d * (vec (nullAt rs n f rs.length) j * x j)) = sumN n (fun j => sumN rs.length (fun u => b u * (vec (nullAt rs n f rs.length) j * vec (row rs u) j))) := sumN_congr fun j hj => by
      rw [Int.mul_left_comm, e j hj, ← sumN_mul]
      exact sumN_congr fun u _ => by rw [Int.mul_left_comm]
    rw [e2, sumN_swap]
    exact sumN_zero fun u hu => by rw [sumN_mul, null_row h hf hfree hu, Int.mul_zero]
  exact (Int.mul_eq_zero.1 this).resolve_left hd
/-! ### Products as machine integers have them -/
theorem wrap_add (a b : Int) : IntKind.i64.wrap (IntKind.i64.wrap a + IntKind.i64.wrap b) = IntKind.i64.wrap (a + b) := by
  rw [IntKind.wrap_i64, IntKind.wrap_i64, IntKind.wrap_i64, IntKind.wrap_i64]
  omega
theorem dotW_sum (xs ys : List Int) : ∀ k, dotW xs ys k = IntKind.i64.wrap (sumN k (fun j => vec xs j * vec ys j))
  | 0 => by show (0 : Int) = IntKind.i64.wrap 0; decide
  | k + 1 => by
    rw [dotW, dotW_sum xs ys k, wrap_add]
    rfl
theorem dotV_sum {xs ys : List Int} {n : Nat} (hx : xs.length = n) (hy : ys.length = n) : dotV xs ys = IntKind.i64.wrap (sumN n (fun j => vec xs j * vec ys j)) := by
  unfold dotV
  rw [hx, hy, Nat.min_self, dotW_sum]
/-- The first free column whose null vector tells z from the rows; n if there is none. -/
def nullIdx (rs : List (List Int)) (z : List Int) (n : Nat) : Nat := findA (fun f => if leadIn rs f rs.length = true then 0 else dotV (nullAt rs n f rs.length) z) n 0
def nullV (ms : List (List Int)) (z : List Int) : List Int :=
  if bothV ms z = true then (if nullIdx (rrL ms z.length) z z.length = z.length then [] else nullAt (rrL ms z.length) z.length (nullIdx (rrL ms z.length) z z.length) (rrL ms z.length).length) else []
/-- What is in the span is a sum of the reduced rows. -/
theorem span_of {n : Nat} {ms rs : List (List Int)} {s : Nat} {M R : Nat → Nat → Int} {c o : Nat → Nat} (h : Reduced n ms rs s M R c o) {z : List Int} (hz : z.length = n) (h0 : leadL (remL z rs rs.length) = n) : InSpan n rs.length (fun u => vec (row rs u)) (vec z) := by
  obtain ⟨d, a, b, _, ha, e⟩ := (h.rest hz rs.length (Nat.le_refl _)).comb
  refine ⟨a, fun u => -(b u), ha, fun j hj => ?_⟩
  have h1 := e j hj
  rw [leadL_all (by rw [remL_len, hz]; exact h0), Int.mul_zero] at h1
  have h2 : sumN rs.length (fun u => -(b u) * vec (row rs u) j) = -sumN rs.length (fun u => b u * vec (row rs u) j) := by
    have := sumN_mul rs.length (-1) (fun u => b u * vec (row rs u) j)
    have h3 : sumN rs.length (fun u => -(b u) * vec (row rs u) j) = sumN rs.length (fun u => -1 * (b u * vec (row rs u) j)) := sumN_congr fun u _ => by rw [Int.neg_mul]; omega
    rw [h3, this]
    omega
  rw [h2]
  omega
theorem in_null {ms : List (List Int)} {z : List Int} (hb : bothV ms z = true) (h : inSpanV ms z = true) : nullIdx (rrL ms z.length) z z.length = z.length := by
  obtain ⟨c, o, hr⟩ := (both_fine hb).reduced
  rw [inSpan_yes hb, decide_eq_true_eq] at h
  have hs := span_of hr rfl h
  refine findA_eq (Nat.zero_le _) (by omega) (fun f _ hf => ?_) (.inl (by omega))
  cases hl : leadIn (rrL ms z.length) f (rrL ms z.length).length
  · rw [if_neg (by decide), dotV_sum (nullAt_len _ _ _ _) rfl, null_span hr hf hl hs]
    decide
  · rw [if_pos rfl]
theorem null_none {ms : List (List Int)} {z : List Int} (h : bothV ms z = false) : nullV ms z = [] := by unfold nullV; rw [h]; rfl
theorem null_in {ms : List (List Int)} {z : List Int} (hb : bothV ms z = true) (h : inSpanV ms z = true) : nullV ms z = [] := by
  unfold nullV
  rw [if_pos hb, if_pos (in_null hb h)]
/-- What the walks need. -/
structure NullAt (n : Nat) (rs : List (List Int)) : Prop where
  n1 : 1 ≤ n
  n6 : n ≤ 6
  many : rs.length ≤ 6
  wid : ∀ t, t < rs.length → (row rs t).length = n
  lead : ∀ t, t < rs.length → leadL (row rs t) < n
  pos : ∀ t, t < rs.length → 1 ≤ leadV rs t ∧ leadV rs t ≤ 2985984
  fit : ∀ t, t < rs.length → Fit 2985984 (row rs t)
  lcm : ∀ t, t ≤ rs.length → 1 ≤ lcmN rs t ∧ lcmN rs t ≤ 134217728
theorem null_at {ms : List (List Int)} {z : List Int} (h : bothV ms z = true) : NullAt z.length (rrL ms z.length) := by
  have hf := both_fine h
  have hn := both_len h
  obtain ⟨c, o, hr⟩ := hf.reduced
  refine ⟨hn.1, hn.2, by have := hr.el.rk; omega, hr.wid, fun t ht => by rw [hr.lead t ht]; exact hr.el.ck t ht, fun t ht => ?_, fun t ht => rr_fit hf ht, fun t ht => ?_⟩
  · have h1 := hr.lpos t ht
    have h2 := rr_fit hf ht (leadL (row (rrL ms z.length) t))
    unfold leadV at h1 ⊢
    omega
  · have := hr.lcm_le ht
    omega
theorem NullAt.quo {n : Nat} {rs : List (List Int)} (h : NullAt n rs) {t : Nat} (ht : t < rs.length) : 0 ≤ (lcmN rs rs.length).tdiv (leadV rs t) ∧ (lcmN rs rs.length).tdiv (leadV rs t) ≤ 134217728 := by
  have h1 := h.lcm rs.length (Nat.le_refl _)
  have h2 := h.pos t ht
  refine ⟨Int.tdiv_nonneg (by omega) (by omega), ?_⟩
  have := Int.natAbs_tdiv_le_natAbs (lcmN rs rs.length) (leadV rs t)
  omega
/-- The entries of a null vector. -/
theorem NullAt.entry {n : Nat} {rs : List (List Int)} (h : NullAt n rs) {t : Nat} (ht : t < rs.length) (f : Nat) : -1000000000000000 ≤ -((lcmN rs rs.length).tdiv (leadV rs t)) * vec (row rs t) f ∧ -((lcmN rs rs.length).tdiv (leadV rs t)) * vec (row rs t) f ≤ 1000000000000000 := by
  have h1 := h.quo ht
  have h2 := h.fit t ht f
  have := mul_fit (A := 134217728) (B := 2985984) (C := 400771988324352) (x := -((lcmN rs rs.length).tdiv (leadV rs t))) (y := vec (row rs t) f) (by omega) h2 (by decide) (by decide) (by decide)
  omega
theorem NullAt.bound {n : Nat} {rs : List (List Int)} (h : NullAt n rs) (f : Nat) : ∀ t, t ≤ rs.length → Fit 1000000000000000 (nullAt rs n f t)
  | 0, _, j => by
    have h1 := h.lcm rs.length (Nat.le_refl _)
    rw [nullAt]
    by_cases hj : j = f
    · subst hj
      rcases Nat.lt_or_ge j n with h2 | h2
      · rw [vec_set_same (by simpa using h2)]; omega
      · rw [vec_beyond (by simpa using h2)]; decide
    · rw [vec_set_other hj, vec_replicate]; decide
  | t + 1, ht, j => by
    have ih := NullAt.bound h f t (by omega)
    rw [nullAt]
    by_cases hj : j = leadL (row rs t)
    · subst hj
      rw [vec_set_same (by rw [nullAt_len]; exact h.lead t (by omega))]
      exact h.entry (by omega) f
    · rw [vec_set_other hj]; exact ih j
end Go.Proofs.Ytgcgdgbogamlnaa
/- The model's null vectors. -/
namespace Go.Proofs.Ytgcgdgbogamlnaa
open Go.RowKit
theorem repl_next (k : Nat) : List.replicate k (0 : Int) ++ [0] = List.replicate (k + 1) 0 := by
  rw [List.replicate_succ']
set_option maxRecDepth 20000 in
set_option maxHeartbeats 1600000 in
theorem specNull_any (W : World) (a : Option Addr) (cap : Nat) (rs : List (List Int)) (n f : Nat) (hA : NullAt n rs) (hs : SeesM W a rs.length rs) (hf : f < n) (hfree : leadIn rs f rs.length = false) :
    Calls Try.prog 103 #[.slice a rs.length cap, .int .i64 (n : Int), .int .i64 (f : Int)] W (Made .i64 3 (nullAt rs n f rs.length) W) := by
  have HS := Lib.hid hs
  have HA := Lib.hid hA
  have HFR := Lib.hid hfree
  have hn6 : n ≤ 6 := hA.n6
  have hr6 : rs.length ≤ 6 := hA.many
  clear hs hA hfree
  obtain ⟨i0, hi, hz0, hz1, hz2⟩ := info_parts info_i64
  go_enter Try.func103, Try.ntmps103
  go_wp2_with fail
  go_loopw [7, 8] (fun v i wr => ∃ (u : Nat) (x : Int), u ≤ rs.length ∧ i = .int .i64 u ∧ v = .int .i64 x ∧ x = lcmN rs u ∧ Below W.heap.size W wr) (fun _ i _ => rs.length - (intOf i).toNat)
  case atStart => exact ⟨0, 1, Nat.zero_le _, rfl, rfl, rfl, Below.refl _ _⟩
  case round =>
    obtain ⟨u, x, hu, rfl, rfl, hx, hb⟩ := hrel
    have HB := Lib.hid hb
    have hxb := HA.out.lcm u hu
    rw [← hx] at hxb
    obtain ⟨hx0, hx1⟩ := hxb
    have HX := Lib.hid hx
    clear hx
    by_cases hul : u < rs.length
    · obtain ⟨b1, o1, ar, cr, rfl, hbl, hc, _, _, hsr⟩ := HS.out.2 u hul
      have hcw := (hb.cell (p := ⟨b1, o1 + u, none⟩) hbl).trans hc
      rw [HA.out.wid u hul] at hcw hsr
      have HSR := Lib.hid (hsr.below hb)
      obtain ⟨d, hd⟩ : ∃ d, d = leadL (row rs u) := ⟨_, rfl⟩
      have hdn : d < n := by rw [hd]; exact HA.out.lead u hul
      have HD := Lib.hid hd
      rcases hsr.2.2 with h0 | ⟨b2, o2, rfl, hb2, hc2⟩
      · omega
      · have hcc := (hb.cell (p := ⟨b2, o2 + d, none⟩) hb2).trans (hc2 d hdn)
        obtain ⟨p, hp⟩ : ∃ p, p = leadV rs u := ⟨_, rfl⟩
        rw [show (row rs u).getD d 0 = p by rw [hp, hd]; rfl] at hcc
        have hpb := HA.out.pos u hul
        rw [← hp] at hpb
        obtain ⟨hp0, hp1⟩ := hpb
        obtain ⟨g, hg⟩ : ∃ g : Int, g = (Int.gcd x p : Int) := ⟨_, rfl⟩
        have hg1 : 1 ≤ g := by have := Int.gcd_pos_of_ne_zero_left p (show x ≠ 0 by omega); omega
        have hg2 : g ≤ 134217728 := by
          have := Int.le_of_dvd (show 0 < x by omega) (Int.gcd_dvd_left x p)
          omega
        have HG := Lib.hid hg
        obtain ⟨q, hq⟩ : ∃ q, x.tdiv g = q := ⟨_, rfl⟩
        have hq0 : 0 ≤ q := by rw [← hq]; exact Int.tdiv_nonneg (by omega) (by omega)
        have hq1 : q ≤ 134217728 := by have := Int.natAbs_tdiv_le_natAbs x g; rw [hq] at this; omega
        have hm := HA.out.lcm (u + 1) (by omega)
        obtain ⟨y, hy⟩ : ∃ y, q * p = y := ⟨_, rfl⟩
        have HY : Hid (y = lcmN rs (u + 1)) := Lib.hid (by rw [lcmN, ← HX.out, ← hp, ← hg, hq, hy])
        rw [← HY.out] at hm
        obtain ⟨hm0, hm1⟩ := hm
        have hw : IntKind.i64.wrap (q * p) = y := by rw [hy]; exact IntWalk.i64_in _ (by omega)
        have hu0 : (0 : Int) ≤ (u : Int) := Int.natCast_nonneg _
        have hui : (u : Int) < (rs.length : Int) := by omega
        have hd0 : (0 : Int) ≤ (d : Int) := Int.natCast_nonneg _
        have hdi : (d : Int) < (n : Int) := by omega
        have hn9 : n ≤ 1073741824 := by omega
        clear hc hsr hb hd hc2 hp hg hy
        go_wp2_with fail
        go_region_held3 (fun w' => w'.cell? ⟨b1, o1 + u, none⟩ = some (.slice (some ⟨b2, o2, none⟩) n cr) ∧ w'.cell? ⟨b2, o2 + d, none⟩ = some (.int .i64 p)) (go_keep) (first | (go_at_call 50; refine (specLead_any _ _ n cr (row rs u) hn9 (HSR.out.below (Below.refl _ _).drew)).mono ?_; rw [← HD.out]; rintro e w' ⟨rfl, rfl⟩))
        go_wp2_with (go_at_call 86; refine (specGcd_any x p _ (by omega) (by omega) (by omega) (by omega)).mono ?_; rw [← HG.out]; rintro e w' ⟨rfl, rfl⟩)
        go_roundw
        case rel => exact ⟨u + 1, y, by omega, by go_num, rfl, HY.out, HB.out.drew⟩
        case measure => simp [intOf]; omega
    · obtain rfl : u = rs.length := by omega
      have hsz := hb.size
      clear hb
      go_wp2_with fail
      go_loopw [10, 11] (fun v i wr2 => ∃ (k : Nat) (a' : Option Addr) (c' : Nat), k ≤ n ∧ i = .int .i64 k ∧ v = .slice a' k c' ∧ Own .i64 3 wr2 W.heap.size wr2.heap.size a' k c' (List.replicate k 0) ∧ Below W.heap.size W wr2) (fun _ i _ => n - (intOf i).toNat)
      case atStart => exact ⟨0, _, _, Nat.zero_le _, rfl, rfl, (own_nil _ _ _).wide hsz (by simp) (Nat.le_refl _), HB.out.alloc hsz _⟩
      case round =>
        obtain ⟨k, a', c', hk, rfl, rfl, ho, hb⟩ := hrel
        have HO := Lib.hid ho
        have HB2 := Lib.hid hb
        have hsz2 := hb.size
        by_cases hkn : k < n
        · have HN := Lib.hid (repl_next k)
          clear ho hb
          go_wp2_with (at_builtin; refine wp_append_sees rfl _ _ 25 rfl 3 i0 .i64 8 Try.underlying25 hi hz0 hz1 hz2 _ _ _ _ rfl _ _ (HO.out.alloc _) _ _ _ _ rfl (sees_one (x := 0) (WalkArith.wf_i64 (by omega)) _ _) (by unfold maxLen; omega) (by omega) (by simp; omega) ?_; intro b2 len2 cap2 w2 hlen2 ho2 hm2; subst hlen2; have HO2 := Lib.hid ho2; have HM2 := Lib.hid hm2; clear ho2 hm2)
          go_roundw
          case rel => exact ⟨k + 1, _, _, by omega, by go_num, rfl, by have h := HO2.out; rw [HN.out] at h; exact h, below_moved (HB2.out.alloc hsz2 _) HM2.out (Nat.le_refl _) (Nat.le_refl _)⟩
          case measure => simp [intOf]; omega
        · obtain rfl : k = n := by omega
          rcases ho.spot with ⟨_, h0, _⟩ | ⟨g, rfl, hg1, hg2, _, _, hcs, hfz⟩
          · omega
          · have hcd := hcs f hf
            have hfd := hfz f
            have HST := Lib.hid (HO.out.stored f x (WalkArith.wf_i64 (by omega)))
            have HN0 : Hid ((List.replicate k (0 : Int)).set f x = nullAt rs k f 0) := Lib.hid (by rw [nullAt, HX.out])
            clear hcs hfz ho hb
            go_wp2_with fail
            go_loopw [12, 13] (fun i _ wr3 => ∃ t : Nat, t ≤ rs.length ∧ i = .int .i64 t ∧ Own .i64 3 wr3 W.heap.size wr3.heap.size (some ⟨g, 0, none⟩) k c' (nullAt rs k f t) ∧ Below W.heap.size W wr3) (fun i _ _ => rs.length - (intOf i).toNat)
            case atStart => exact ⟨0, Nat.zero_le _, rfl, by have h := HST.out.1; rw [HN0.out] at h; exact h.wide (Nat.le_refl _) h.2.2.1 (Nat.le_refl _), below_moved HB2.out HST.out.2 (Nat.le_refl _) (Nat.le_refl _)⟩
            case round =>
              obtain ⟨t, ht, rfl, ho, hb⟩ := hrel
              have HO3 := Lib.hid ho
              have HB3 := Lib.hid hb
              by_cases htl : t < rs.length
              · obtain ⟨b1, o1, ar, cr, rfl, hbl, hc, _, _, hsr⟩ := HS.out.2 t htl
                have hcw := (hb.cell (p := ⟨b1, o1 + t, none⟩) hbl).trans hc
                rw [HA.out.wid t htl] at hcw hsr
                have HSR := Lib.hid (hsr.below hb)
                obtain ⟨d, hd⟩ : ∃ d, d = leadL (row rs t) := ⟨_, rfl⟩
                have hdn : d < k := by rw [hd]; exact HA.out.lead t htl
                have HD := Lib.hid hd
                rcases hsr.2.2 with h0 | ⟨b2, o2, rfl, hb2, hc2⟩
                · omega
                · have hcc := (hb.cell (p := ⟨b2, o2 + d, none⟩) hb2).trans (hc2 d hdn)
                  have hcf := (hb.cell (p := ⟨b2, o2 + f, none⟩) hb2).trans (hc2 f hf)
                  have hee := HA.out.entry htl f
                  have hqq := HA.out.quo htl
                  have hpb := HA.out.pos t htl
                  obtain ⟨p, hp⟩ : ∃ p, p = leadV rs t := ⟨_, rfl⟩
                  obtain ⟨y, hy⟩ : ∃ y, y = vec (row rs t) f := ⟨_, rfl⟩
                  rw [show (row rs t).getD d 0 = p by rw [hp, hd]; rfl] at hcc
                  rw [show (row rs t).getD f 0 = y from hy.symm] at hcf
                  rw [← hp, ← hy, ← HX.out] at hee
                  rw [← hp, ← HX.out] at hqq
                  rw [← hp] at hpb
                  obtain ⟨hp0, hp1⟩ := hpb
                  obtain ⟨q, hq⟩ : ∃ q, x.tdiv p = q := ⟨_, rfl⟩
                  rw [hq] at hee hqq
                  obtain ⟨hq0, hq1⟩ := hqq
                  obtain ⟨z, hz⟩ : ∃ z, -q * y = z := ⟨_, rfl⟩
                  rw [hz] at hee
                  obtain ⟨he0, he1⟩ := hee
                  have hw : IntKind.i64.wrap (-q * y) = z := by rw [hz]; exact IntWalk.i64_in _ (by omega)
                  have hw2 : wrap64 (-q * y) = z := by rw [← IntWalk.i64_left]; exact hw
                  have HWW := Lib.hid hw2
                  have HZ : Hid ((nullAt rs k f t).set d z = nullAt rs k f (t + 1)) := Lib.hid (by rw [nullAt, ← HX.out, ← hp, ← hy, hq, hz, hd])
                  rcases ho.spot with ⟨hx0, _⟩ | ⟨g', hg', _, hgs, _, _, hcs, hfz⟩
                  · cases hx0
                  · cases hg'
                    have hcd := hcs d hdn
                    have hfd := hfz d
                    have ht0 : (0 : Int) ≤ (t : Int) := Int.natCast_nonneg _
                    have hti : (t : Int) < (rs.length : Int) := by omega
                    have hd0 : (0 : Int) ≤ (d : Int) := Int.natCast_nonneg _
                    have hdi : (d : Int) < (k : Int) := by omega
                    have hf0 : (0 : Int) ≤ (f : Int) := Int.natCast_nonneg _
                    have hfi : (f : Int) < (k : Int) := by omega
                    have hn9 : k ≤ 1073741824 := by omega
                    have HST3 := Lib.hid (HO3.out.stored d z (WalkArith.wf_i64 (by omega)))
                    clear hc hsr hb ho hd hc2 hp hy hz hcs hfz
                    go_wp2_with (go_at_call 50; refine (specLead_any _ _ k cr (row rs t) hn9 HSR.out).mono ?_; rw [← HD.out]; rintro e w' ⟨rfl, rfl⟩)
                    go_region_with (fail)
                    all_goals (go_wp2)
                    all_goals
                      go_roundw
                      case rel =>
                        have h := HST3.out.1
                        rw [HZ.out] at h
                        have h2 : Own .i64 3 (wr.setCell ⟨g, d, none⟩ (.int .i64 z)).drew W.heap.size (wr.setCell ⟨g, d, none⟩ (.int .i64 z)).drew.heap.size (some ⟨g, 0, none⟩) k c' (nullAt rs k f (t + 1)) := (h.below (Below.refl _ _).drew).wide (Nat.le_refl _) (by simp [World.setCell]) (Nat.le_refl _)
                        have h3 := (below_moved HB3.out HST3.out.2 (Nat.le_refl _) (Nat.le_refl _)).drew
                        first
                          | exact ⟨t + 1, by omega, by go_num, h2, h3⟩
                          | (rw [HWW.out]; exact ⟨t + 1, by omega, by go_num, h2, h3⟩)
                      case measure => simp [intOf]; omega
              · obtain rfl : t = rs.length := by omega
                clear ho hb
                go_wp2
                go_ret
                exact ⟨_, _, _, rfl, HO3.out, HB3.out⟩
end Go.Proofs.Ytgcgdgbogamlnaa
/- The model's NullVector. -/
namespace Go.Proofs.Ytgcgdgbogamlnaa
open Go.RowKit
/-- What the search finds, and what it passes. -/
structure NullHit (rs : List (List Int)) (z : List Int) (n idx : Nat) : Prop where
  le : idx ≤ n
  miss : ∀ k, k < idx → leadIn rs k rs.length = true ∨ dotV (nullAt rs n k rs.length) z = 0
  hit : idx < n → leadIn rs idx rs.length = false ∧ dotV (nullAt rs n idx rs.length) z ≠ 0
theorem null_hit (rs : List (List Int)) (z : List Int) (n : Nat) : NullHit rs z n (nullIdx rs z n) := by
  obtain ⟨_, h2, h3, h4⟩ := findA_spec (fun f => if leadIn rs f rs.length = true then 0 else dotV (nullAt rs n f rs.length) z) n 0
  refine ⟨by unfold nullIdx; omega, fun k hk => ?_, fun hk => ?_⟩
  · have := h3 k (Nat.zero_le _) hk
    cases hl : leadIn rs k rs.length
    · rw [hl, if_neg (by decide)] at this
      exact .inr this
    · exact .inl rfl
  · have h5 := h4.resolve_left (by unfold nullIdx at hk; omega)
    unfold nullIdx
    generalize findA (fun f => if leadIn rs f rs.length = true then 0 else dotV (nullAt rs n f rs.length) z) n 0 = i at h5
    cases hl : leadIn rs i rs.length
    · rw [hl, if_neg (by decide)] at h5
      exact ⟨rfl, h5⟩
    · rw [hl, if_pos rfl] at h5
      exact absurd rfl h5
theorem null_yes {ms : List (List Int)} {z : List Int} (h : bothV ms z = true) : nullV ms z = if nullIdx (rrL ms z.length) z z.length = z.length then [] else nullAt (rrL ms z.length) z.length (nullIdx (rrL ms z.length) z z.length) (rrL ms z.length).length := by unfold nullV; rw [if_pos h]
theorem own_empty (w : World) (lo : Nat) (h : lo ≤ w.heap.size) : Own .i64 3 (w.alloc (.cells #[] 3)) lo (w.alloc (.cells #[] 3)).heap.size (some ⟨w.heap.size, 0, none⟩) 0 0 [] :=
  (own_nil .i64 3 w).wide h (by simp) (Nat.le_refl _)
set_option maxRecDepth 20000 in
set_option maxHeartbeats 1600000 in
theorem specNV_any (W : World) (a : Option Addr) (len cap : Nat) (ms : List (List Int)) (b : Option Addr) (lb cb : Nat) (z : List Int) (hsm : SmallM ms) (hs : SeesM W a len ms) (hl : lb ≤ 1073741824) (hc : lb ≤ cb) (hcm : cb ≤ maxLen) (hs2 : Sees .i64 W b lb z) :
    Calls Try.prog 71 #[.slice a len cap, .slice b lb cb] W (Made .i64 3 (nullV ms z) W) := by
  have HS := Lib.hid hs
  have HSM := Lib.hid hsm
  have HS2 := Lib.hid hs2
  have HLB := Lib.hid hs2.1
  cases hv : bothV ms z
  · have HE := Lib.hid (null_none hv)
    have HV := Lib.hid hv
    clear hv hs hsm hs2
    go_enter Try.func71, Try.ntmps71
    go_wp2_with (go_at_call 99; refine (specBoth_any _ a len cap ms b lb cb z HSM.out HS.out hl hc hcm HS2.out).mono ?_; rw [HV.out]; rintro e w1 ⟨rfl, hb1⟩; have HB1 := Lib.hid hb1; clear hb1)
    go_ret
    rw [HE.out]
    exact ⟨_, _, _, rfl, own_empty w1 _ HB1.out.size, HB1.out.alloc HB1.out.size _⟩
  · cases hin : inSpanV ms z
    · have HA := Lib.hid (null_at hv)
      have HRV : Hid (rrV ms (lb : Int) = rrL ms z.length) := Lib.hid (by
        have h1 : isMat ms (z.length : Int) = true := by simp only [bothV, Bool.and_eq_true] at hv; exact hv.1
        unfold rrV
        rw [← hs2.1, if_pos h1]
        simp)
      have HNV := Lib.hid (null_yes hv)
      have HH := Lib.hid (null_hit (rrL ms z.length) z z.length)
      obtain ⟨idx, hidx⟩ : ∃ idx, idx = nullIdx (rrL ms z.length) z z.length := ⟨_, rfl⟩
      rw [← hidx] at HH HNV
      obtain ⟨rs, hrs⟩ : ∃ rs, rs = rrL ms z.length := ⟨_, rfl⟩
      rw [← hrs] at HH HNV HRV HA
      rw [HLB.out] at HH HNV HA
      obtain ⟨nv, hnv⟩ : ∃ nv, nv = nullV ms z := ⟨_, rfl⟩
      rw [← hnv] at HNV ⊢
      have hn6 : lb ≤ 6 := HA.out.n6
      have hr6 : rs.length ≤ 6 := HA.out.many
      have hidl : idx ≤ lb := HH.out.le
      have HV := Lib.hid hv
      have HIN := Lib.hid hin
      clear hv hin hs hsm hs2 hrs hidx hnv
      go_enter Try.func71, Try.ntmps71
      go_wp2_with (first
        | (go_at_call 99; refine (specBoth_any _ a len cap ms b lb cb z HSM.out HS.out hl hc hcm HS2.out).mono ?_; rw [HV.out]; rintro e w1 ⟨rfl, hb1⟩; have HB1 := Lib.hid hb1; clear hb1)
        | (go_at_call 67; refine (specSpan_any _ a len cap ms b lb cb z HSM.out (HS.out.below HB1.out) hl hc hcm (HS2.out.below HB1.out)).mono ?_; rw [HIN.out]; rintro e w2 ⟨rfl, hb2⟩; have HB2 := Lib.hid (below_up HB1.out hb2 (Nat.le_refl _)); clear hb2)
        | (go_at_call 100; refine (specRR_any _ a len cap ms (lb : Int) HSM.out (by omega) (by omega) (HS.out.below HB2.out)).mono ?_; rw [HRV.out]; rintro e w4 ⟨a4, l4, c4, rfl, hs4, _, _, hb4⟩; have hl4 := hs4.1; subst hl4; have HS4 := Lib.hid hs4.sees; have HB4 := Lib.hid (below_up HB2.out hb4 (Nat.le_refl _)); clear hs4 hb4))
      go_loopw [6, 7, 8, 9] (fun i _ _ _ wr => ∃ k : Nat, k ≤ idx ∧ i = .int .i64 k ∧ Below W.heap.size W wr ∧ Below w4.heap.size w4 wr) (fun i _ _ _ _ => lb - (intOf i).toNat)
      case atStart => exact ⟨0, Nat.zero_le _, rfl, HB4.out, Below.refl _ _⟩
      case round =>
        obtain ⟨k, hk, rfl, hb, hb4⟩ := hrel
        have HB := Lib.hid hb
        have HB5 := Lib.hid hb4
        have HSR := Lib.hid (HS4.out.below hb4)
        clear hb hb4
        by_cases hkn : k < lb
        · go_wp2_with fail
          go_loop [7, 8] (fun v i => ∃ u : Nat, u ≤ rs.length ∧ i = .int .i64 u ∧ v = .bool (leadIn rs k u)) (fun _ i => rs.length - (intOf i).toNat)
          case atStart => exact ⟨0, Nat.zero_le _, rfl, rfl⟩
          case round =>
            obtain ⟨u, hu, rfl, rfl⟩ := hrel
            by_cases hul : u < rs.length
            · obtain ⟨b5, off5, ar, cr, rfl, _, hcw, _, _, hsr⟩ := HSR.out.2 u hul
              rw [HA.out.wid u hul] at hcw hsr
              have HSU := Lib.hid hsr
              have hlb9 : lb ≤ 1073741824 := hl
              obtain ⟨d, hd⟩ : ∃ d, d = leadL (row rs u) := ⟨_, rfl⟩
              have HD := Lib.hid hd
              cases hlk : leadIn rs k u
              · have HN : Hid (leadIn rs k (u + 1) = decide (d = k)) := Lib.hid (by rw [leadIn, hlk, ← hd]; rfl)
                clear hsr hd hlk
                go_wp2_with (go_at_call 50; refine (specLead_any _ ar lb cr (row rs u) hlb9 HSU.out).mono ?_; rw [← HD.out]; rintro e w' ⟨rfl, rfl⟩)
                go_round
                case rel => exact ⟨u + 1, by omega, by go_num, by rw [HN.out]; by_cases h : d = k; simp [h]; simp [h]; omega⟩
                case measure => simp [intOf]; omega
              · have HN : Hid (leadIn rs k (u + 1) = true) := Lib.hid (by rw [leadIn, hlk]; rfl)
                clear hsr hd hlk
                go_wp2
                go_round
                case rel => exact ⟨u + 1, by omega, by go_num, by rw [HN.out]⟩
                case measure => simp [intOf]; omega
            · obtain rfl : u = rs.length := by omega
              cases hlk : leadIn rs k rs.length
              · have HLK := Lib.hid hlk
                obtain ⟨dv, hdv⟩ : ∃ dv, dv = dotV (nullAt rs lb k rs.length) z := ⟨_, rfl⟩
                have HDV := Lib.hid hdv
                have hn9 : lb ≤ 1073741824 := hl
                by_cases hd0 : dv = 0
                · have hkid : k < idx := by
                    rcases Nat.lt_or_eq_of_le hk with h1 | h1
                    · exact h1
                    · have := (HH.out.hit (by omega)).2
                      rw [← h1, ← hdv] at this
                      exact absurd hd0 this
                  subst hd0
                  clear hlk hdv
                  go_wp2_with (first
                    | (go_at_call 103; refine (specNull_any _ a4 c4 rs lb k HA.out HSR.out hkn HLK.out).mono ?_; rintro e w6 ⟨a6, l6, c6, rfl, ho6, hb6⟩; have hl6 : lb = l6 := (by have h1 := ho6.1; rw [nullAt_len] at h1; exact h1); subst hl6; have HO6 := Lib.hid ho6; have HB6 := Lib.hid hb6; clear ho6 hb6)
                    | (go_at_call 104; refine (specDot_any _ a6 lb c6 b lb cb (nullAt rs lb k rs.length) z hn9 hn9 HO6.out.sees (HS2.out.below (below_up HB.out HB6.out (Nat.le_refl _)))).mono ?_; rw [← HDV.out]; rintro e w7 ⟨rfl, hb7⟩; have HB7 := Lib.hid hb7; clear hb7))
                  go_roundw
                  case rel => exact ⟨k + 1, by omega, by go_num, below_up (below_up HB.out HB6.out (Nat.le_refl _)) HB7.out (Nat.le_refl _), below_up (below_up HB5.out HB6.out (Nat.le_refl _)) HB7.out (Nat.le_refl _)⟩
                  case measure => simp [intOf]; omega
                · have hkid : k = idx := by
                    rcases Nat.lt_or_eq_of_le hk with h1 | h1
                    · rcases HH.out.miss k h1 with h2 | h2
                      · rw [hlk] at h2; cases h2
                      · rw [← hdv] at h2; exact absurd h2 hd0
                    · exact h1
                  have HRES : Hid (nv = nullAt rs lb k rs.length) := Lib.hid (by rw [HNV.out, if_neg (by omega), hkid])
                  have hd0b : (dv != 0) = true := by simp [hd0]
                  clear hlk hdv hkid
                  go_wp2_with (first
                    | (go_at_call 103; refine (specNull_any _ a4 c4 rs lb k HA.out HSR.out hkn HLK.out).mono ?_; rintro e w6 ⟨a6, l6, c6, rfl, ho6, hb6⟩; have hl6 : lb = l6 := (by have h1 := ho6.1; rw [nullAt_len] at h1; exact h1); subst hl6; have HO6 := Lib.hid ho6; have HB6 := Lib.hid hb6; clear ho6 hb6)
                    | (go_at_call 104; refine (specDot_any _ a6 lb c6 b lb cb (nullAt rs lb k rs.length) z hn9 hn9 HO6.out.sees (HS2.out.below (below_up HB.out HB6.out (Nat.le_refl _)))).mono ?_; rw [← HDV.out]; rintro e w7 ⟨rfl, hb7⟩; have HB7 := Lib.hid hb7; clear hb7))
                  go_ret
                  rw [HRES.out]
                  exact ⟨_, _, _, rfl, (HO6.out.below HB7.out).wide HB.out.size HB7.out.size (Nat.le_refl _), below_up (below_up HB.out HB6.out (Nat.le_refl _)) HB7.out (Nat.le_refl _)⟩
              · have hkid : k < idx := by
                  rcases Nat.lt_or_eq_of_le hk with h1 | h1
                  · exact h1
                  · have := (HH.out.hit (by omega)).1
                    rw [← h1, hlk] at this
                    cases this
                clear hlk
                go_wp2
                go_roundw
                case rel => exact ⟨k + 1, by omega, by go_num, HB.out, HB5.out⟩
                case measure => simp [intOf]; omega
        · have HRES : Hid (nv = []) := Lib.hid (by rw [HNV.out, if_pos (by omega)])
          go_wp2
          go_ret
          rw [HRES.out]
          exact ⟨_, _, _, rfl, own_empty _ _ HB.out.size, HB.out.alloc HB.out.size _⟩
    · have HE := Lib.hid (null_in hv hin)
      have HV := Lib.hid hv
      have HIN := Lib.hid hin
      clear hv hin hs hsm hs2
      go_enter Try.func71, Try.ntmps71
      go_wp2_with (first
        | (go_at_call 99; refine (specBoth_any _ a len cap ms b lb cb z HSM.out HS.out hl hc hcm HS2.out).mono ?_; rw [HV.out]; rintro e w1 ⟨rfl, hb1⟩; have HB1 := Lib.hid hb1; clear hb1)
        | (go_at_call 67; refine (specSpan_any _ a len cap ms b lb cb z HSM.out (HS.out.below HB1.out) hl hc hcm (HS2.out.below HB1.out)).mono ?_; rw [HIN.out]; rintro e w2 ⟨rfl, hb2⟩; have HB2 := Lib.hid (below_up HB1.out hb2 (Nat.le_refl _)); clear hb2))
      go_ret
      rw [HE.out]
      exact ⟨_, _, _, rfl, own_empty w2 _ HB2.out.size, HB2.out.alloc HB2.out.size _⟩
end Go.Proofs.Ytgcgdgbogamlnaa
