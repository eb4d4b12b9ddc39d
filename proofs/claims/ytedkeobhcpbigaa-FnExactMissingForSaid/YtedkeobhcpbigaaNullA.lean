/- Vectors whose products with reduced rows are 0: how they are made, and how small their common multiple stays. Plain mathematics. -/
import Derived.Test.YtedkeobhcpbigaaSpA
import Derived.Test.YtedkeobhcpbigaaDot
namespace Go.Proofs.Ytedkeobhcpbigaa
/-- The integer with which row t begins. -/
def leadV (rs : List (List Int)) (t : Nat) : Int := vec (row rs t) (leadL (row rs t))
/-- The common multiple of the first integers of the first t rows, as it is reckoned. -/
def lcmN (rs : List (List Int)) : Nat → Int
  | 0 => 1
  | t + 1 => (lcmN rs t).tdiv (Int.gcd (lcmN rs t) (leadV rs t) : Int) * leadV rs t
theorem lcm_step {a b : Int} (ha : 0 < a) (hb : 0 < b) : a.tdiv (Int.gcd a b : Int) * b = (Int.lcm a b : Int) := by
  have hg : (0 : Int) < (Int.gcd a b : Int) := by
    have := Int.gcd_pos_of_ne_zero_left b (show a ≠ 0 by omega)
    omega
  have h1 : (Int.gcd a b : Int) * (Int.lcm a b : Int) = a * b := by
    have h := Int.gcd_mul_lcm a b
    have h2 : ((Int.gcd a b * Int.lcm a b : Nat) : Int) = ((a * b).natAbs : Int) := by rw [h, Int.natAbs_mul]
    rw [Int.natCast_mul] at h2
    rw [h2]
    have := Int.mul_pos ha hb
    omega
  have h3 : (Int.gcd a b : Int) * a.tdiv (Int.gcd a b : Int) = a := Int.mul_tdiv_cancel' (Int.gcd_dvd_left a b)
  refine Int.eq_of_mul_eq_mul_left (show (Int.gcd a b : Int) ≠ 0 by omega) ?_
  rw [h1, ← Int.mul_assoc, h3]
theorem lcmN_pos {rs : List (List Int)} {r : Nat} (hp : ∀ t, t < r → 0 < leadV rs t) : ∀ t, t ≤ r → 0 < lcmN rs t
  | 0, _ => by show (0 : Int) < 1; decide
  | t + 1, ht => by
    have ih := lcmN_pos hp t (by omega)
    rw [lcmN, lcm_step ih (hp t (by omega))]
    have := Int.lcm_pos (show lcmN rs t ≠ 0 by omega) (show leadV rs t ≠ 0 by have := hp t (by omega); omega)
    omega
theorem lcmN_dvd {rs : List (List Int)} {r : Nat} (hp : ∀ t, t < r → 0 < leadV rs t) {Z : Int} (hZ : ∀ t, t < r → leadV rs t ∣ Z) : ∀ t, t ≤ r → lcmN rs t ∣ Z
  | 0, _ => Int.one_dvd Z
  | t + 1, ht => by
    rw [lcmN, lcm_step (lcmN_pos hp t (by omega)) (hp t (by omega))]
    exact Int.coe_lcm_dvd (lcmN_dvd hp hZ t (by omega)) (hZ t (by omega))
theorem dvd_lcmN {rs : List (List Int)} {r : Nat} (hp : ∀ t, t < r → 0 < leadV rs t) : ∀ t, t ≤ r → ∀ u, u < t → leadV rs u ∣ lcmN rs t
  | 0, _, u, hu => absurd hu (Nat.not_lt_zero _)
  | t + 1, ht, u, hu => by
    rw [lcmN, lcm_step (lcmN_pos hp t (by omega)) (hp t (by omega))]
    rcases Nat.lt_or_eq_of_le (Nat.lt_succ_iff.1 hu) with h | rfl
    · exact Int.dvd_trans (dvd_lcmN hp t (by omega) u h) (Int.dvd_lcm_left _ _)
    · exact Int.dvd_lcm_right _ _
/-- A small number that makes every free column's entry a multiple. -/
theorem Reduced.small_null {n : Nat} {ms rs : List (List Int)} {s : Nat} {M R : Nat → Nat → Int} {c o : Nat → Nat} (h : Reduced n ms rs s M R c o) {f : Nat} (hf : f < n) :
    ∃ z : Int, z ≠ 0 ∧ z.natAbs ≤ (2 * (rs.length + 1)) ^ rs.length ∧ ∀ t, t < rs.length → R t (c t) ∣ z * R t f := by
  have he := h.el
  obtain ⟨y, ⟨a, ha, hya⟩, hyb, hy⟩ := small_rel rs.length 2 (by decide) (fun i j => if i < rs.length then M (o j) (c i) else M (o j) f) (fun i hi j hj => by
    have hoj := he.olt j (by have := he.rs; omega)
    split
    · exact h.small _ hoj _ (he.ck i (by assumption))
    · exact h.small _ hoj _ hf)
  have key : ∀ t, t < rs.length → y t * R t (c t) + y rs.length * R t f = 0 := fun t ht => by
    obtain ⟨d, b, hd, e⟩ := he.span1 t ht
    have e1 : d * (sumN (rs.length + 1) (fun i => y i * (if i < rs.length then R t (c i) else R t f))) = 0 := by
      rw [← sumN_mul]
      have e2 : sumN (rs.length + 1) (fun i => d * (y i * (if i < rs.length then R t (c i) else R t f))) = sumN (rs.length + 1) (fun i => sumN rs.length (fun j => b j * (y i * (if i < rs.length then M (o j) (c i) else M (o j) f)))) := sumN_congr fun i hi => by
        by_cases hir : i < rs.length
        · simp only [hir, if_true]
          rw [Int.mul_left_comm, e (c i) (he.ck i hir), ← sumN_mul]
          exact sumN_congr fun j _ => by rw [Int.mul_left_comm]
        · simp only [hir, if_false]
          rw [Int.mul_left_comm, e f hf, ← sumN_mul]
          exact sumN_congr fun j _ => by rw [Int.mul_left_comm]
      rw [e2, sumN_swap]
      exact sumN_zero fun j hj => by rw [sumN_mul, hy j hj, Int.mul_zero]
    have e3 := (Int.mul_eq_zero.1 e1).resolve_left hd
    rw [sumN, sumN_one ht (fun u hu hne => by rw [if_pos hu, he.off u hu t (by have := he.rs; omega) (fun e => hne e.symm), Int.mul_zero])] at e3
    simpa [ht] using e3
  refine ⟨y rs.length, fun h0 => ?_, ?_, fun t ht => ⟨-(y t), ?_⟩⟩
  · rcases Nat.lt_or_eq_of_le (Nat.lt_succ_iff.1 ha) with h1 | h1
    · have := key a h1
      rw [h0, Int.zero_mul, Int.add_zero] at this
      exact hya ((Int.mul_eq_zero.1 this).resolve_right (by have := he.pos a h1; omega))
    · rw [h1] at hya; exact hya h0
  · have := hyb rs.length (Nat.lt_succ_self _)
    omega
  · have := key t ht
    rw [Int.mul_neg, Int.mul_comm (R t (c t))]
    omega
theorem Reduced.common {n : Nat} {ms rs : List (List Int)} {s : Nat} {M R : Nat → Nat → Int} {c o : Nat → Nat} (h : Reduced n ms rs s M R c o) : ∀ m, m ≤ n →
    ∃ (Z : Int) (k fr : Nat), Z ≠ 0 ∧ k + fr = m ∧ k ≤ rs.length ∧ (∀ t, t < rs.length → (c t < m ↔ t < k)) ∧ Z.natAbs ≤ ((2 * (rs.length + 1)) ^ rs.length) ^ fr ∧ ∀ t, t < rs.length → ∀ f, f < m → R t (c t) ∣ Z * R t f
  | 0, _ => ⟨1, 0, 0, by decide, rfl, Nat.zero_le _, fun t _ => by omega, by simp, fun t _ f hf => absurd hf (Nat.not_lt_zero _)⟩
  | m + 1, hm => by
    obtain ⟨Z, k, fr, hZ, hk, hkr, hc, hb, hd⟩ := h.common m (by omega)
    have he := h.el
    by_cases hp : ∃ u, u < rs.length ∧ c u = m
    · obtain ⟨u, hu, hcu⟩ := hp
      have huk : u = k := by
        have h1 : ¬ u < k := fun h2 => by have := (hc u hu).2 h2; omega
        rcases Nat.lt_or_ge k u with h2 | h2
        · have h3 := he.mono k u h2 hu
          have := (hc k (by omega)).1 (by omega)
          omega
        · omega
      subst huk
      refine ⟨Z, u + 1, fr, hZ, by omega, by omega, fun t ht => ?_, hb, fun t ht f hf => ?_⟩
      · have := hc t ht
        constructor
        · intro h1
          rcases Nat.lt_or_ge (c t) m with h2 | h2
          · have := this.1 h2; omega
          · rcases Nat.lt_trichotomy t u with h3 | h3 | h3
            · omega
            · omega
            · have := he.mono u t h3 ht; omega
        · intro h1
          rcases Nat.lt_or_eq_of_le (Nat.lt_succ_iff.1 h1) with h2 | rfl
          · have := this.2 h2; omega
          · omega
      · rcases Nat.lt_or_eq_of_le (Nat.lt_succ_iff.1 hf) with h1 | h1
        · exact hd t ht f h1
        · rw [h1, ← hcu]
          by_cases htu : t = u
          · subst htu; exact Int.dvd_mul_left _ _
          · rw [he.off u hu t (by have := he.rs; omega) htu, Int.mul_zero]; exact Int.dvd_zero _
    · obtain ⟨z, hz, hzb, hzd⟩ := h.small_null (f := m) (by omega)
      refine ⟨Z * z, k, fr + 1, mul_ne hZ hz, by omega, hkr, fun t ht => ?_, ?_, fun t ht f hf => ?_⟩
      · have h1 := hc t ht
        have h2 : c t ≠ m := fun e => hp ⟨t, ht, e⟩
        omega
      · rw [Int.natAbs_mul, Nat.pow_succ]
        exact Nat.mul_le_mul hb hzb
      · rcases Nat.lt_or_eq_of_le (Nat.lt_succ_iff.1 hf) with h1 | h1
        · rw [Int.mul_right_comm]
          exact Int.dvd_trans (hd t ht f h1) (Int.dvd_mul_right _ _)
        · rw [h1, Int.mul_assoc]
          exact Int.dvd_trans (hzd t ht) (Int.dvd_mul_left _ _)
theorem null_pow {r n : Nat} (hr : r ≤ n) (hn : n ≤ 6) : ((2 * (r + 1)) ^ r) ^ (n - r) ≤ 134217728 := by
  have : r = 0 ∨ r = 1 ∨ r = 2 ∨ r = 3 ∨ r = 4 ∨ r = 5 ∨ r = 6 := by omega
  rcases this with rfl | rfl | rfl | rfl | rfl | rfl | rfl
  · simp
  · exact Nat.le_trans (Nat.pow_le_pow_right (by decide) (show n - 1 ≤ 5 by omega)) (by decide)
  · exact Nat.le_trans (Nat.pow_le_pow_right (by decide) (show n - 2 ≤ 4 by omega)) (by decide)
  · exact Nat.le_trans (Nat.pow_le_pow_right (by decide) (show n - 3 ≤ 3 by omega)) (by decide)
  · exact Nat.le_trans (Nat.pow_le_pow_right (by decide) (show n - 4 ≤ 2 by omega)) (by decide)
  · exact Nat.le_trans (Nat.pow_le_pow_right (by decide) (show n - 5 ≤ 1 by omega)) (by decide)
  · exact Nat.le_trans (Nat.pow_le_pow_right (by decide) (show n - 6 ≤ 0 by omega)) (by decide)
theorem Reduced.leadV {n : Nat} {ms rs : List (List Int)} {s : Nat} {M R : Nat → Nat → Int} {c o : Nat → Nat} (h : Reduced n ms rs s M R c o) {t : Nat} (ht : t < rs.length) : Go.Proofs.Ytedkeobhcpbigaa.leadV rs t = R t (c t) := by
  unfold Go.Proofs.Ytedkeobhcpbigaa.leadV
  rw [h.lead t ht, h.rowv t ht]
theorem Reduced.lpos {n : Nat} {ms rs : List (List Int)} {s : Nat} {M R : Nat → Nat → Int} {c o : Nat → Nat} (h : Reduced n ms rs s M R c o) : ∀ t, t < rs.length → 0 < Go.Proofs.Ytedkeobhcpbigaa.leadV rs t := fun t ht => by rw [h.leadV ht]; exact h.el.pos t ht
/-- The common multiple of the first integers stays small. -/
theorem Reduced.lcm_le {n : Nat} {ms rs : List (List Int)} {s : Nat} {M R : Nat → Nat → Int} {c o : Nat → Nat} (h : Reduced n ms rs s M R c o) {t : Nat} (ht : t ≤ rs.length) : 0 < lcmN rs t ∧ lcmN rs t ≤ 134217728 := by
  refine ⟨lcmN_pos h.lpos t ht, ?_⟩
  have he := h.el
  obtain ⟨Z, k, fr, hZ, hk, hkr, hc, hb, hd⟩ := h.common n (Nat.le_refl n)
  have hkr2 : k = rs.length := by
    rcases Nat.lt_or_ge k rs.length with h1 | h1
    · have := (hc k h1).1 (he.ck k h1); omega
    · omega
  have hdv : ∀ t, t < rs.length → Go.Proofs.Ytedkeobhcpbigaa.leadV rs t ∣ Z := fun t ht => by
    rw [h.leadV ht]
    refine Prim.dvd (n := n) (v := R t) ?_ (fun j hj => hd t ht j hj)
    exact ((he.tidy t (by have := he.rs; omega)).first (he.ck t ht) (he.before t ht) (by have := he.pos t ht; omega)).2
  have h1 := lcmN_dvd h.lpos hdv t ht
  have h2 : (lcmN rs t).natAbs ≤ Z.natAbs := Nat.le_of_dvd (by omega) (Int.natAbs_dvd_natAbs.2 h1)
  have h3 := null_pow (r := rs.length) (n := n) (by omega) h.n6
  rw [show n - rs.length = fr by omega] at h3
  omega
end Go.Proofs.Ytedkeobhcpbigaa
/- Null vectors of reduced rows: what they are, what their products are. Plain mathematics. -/
namespace Go.Proofs.Ytedkeobhcpbigaa
open Go.RowKit
/-- The null vector with the free column f, after t rows. -/
def nullAt (rs : List (List Int)) (n f : Nat) : Nat → List Int
  | 0 => (List.replicate n 0).set f (lcmN rs rs.length)
  | t + 1 => (nullAt rs n f t).set (leadL (row rs t)) (-((lcmN rs rs.length).tdiv (leadV rs t)) * vec (row rs t) f)
theorem nullAt_len (rs : List (List Int)) (n f : Nat) : ∀ t, (nullAt rs n f t).length = n
  | 0 => by simp [nullAt]
  | t + 1 => by rw [nullAt, List.length_set, nullAt_len rs n f t]
/-- Whether one of the first u rows begins in column f. -/
def leadIn (rs : List (List Int)) (f : Nat) : Nat → Bool
  | 0 => false
  | u + 1 => leadIn rs f u || decide (leadL (row rs u) = f)
theorem leadIn_true {rs : List (List Int)} {f : Nat} : ∀ {u : Nat}, leadIn rs f u = true ↔ ∃ t, t < u ∧ leadL (row rs t) = f
  | 0 => by simp [leadIn]
  | u + 1 => by
    rw [leadIn, Bool.or_eq_true, leadIn_true, decide_eq_true_eq]
    constructor
    · rintro (⟨t, h1, h2⟩ | h)
      · exact ⟨t, by omega, h2⟩
      · exact ⟨u, by omega, h⟩
    · rintro ⟨t, h1, h2⟩
      rcases Nat.lt_or_eq_of_le (Nat.lt_succ_iff.1 h1) with h3 | rfl
      · exact .inl ⟨t, h3, h2⟩
      · exact .inr h2
theorem leadIn_false {rs : List (List Int)} {f u : Nat} (h : leadIn rs f u = false) {t : Nat} (ht : t < u) : leadL (row rs t) ≠ f := fun e => by
  rw [leadIn_true.2 ⟨t, ht, e⟩] at h
  cases h
theorem vec_set_same {z : List Int} {k : Nat} {a : Int} (h : k < z.length) : vec (z.set k a) k = a := by simp [vec, List.getD, h]
theorem vec_set_other {z : List Int} {k j : Nat} {a : Int} (h : j ≠ k) : vec (z.set k a) j = vec z j := by
  unfold vec List.getD
  rw [List.getElem?_set_ne (fun e => h e.symm)]
theorem vec_replicate (n j : Nat) : vec (List.replicate n 0) j = 0 := by
  unfold vec List.getD
  rw [List.getElem?_replicate]
  split <;> rfl
theorem nullAt_off {rs : List (List Int)} {n f k : Nat} (hf : k ≠ f) : ∀ t, (∀ u, u < t → leadL (row rs u) ≠ k) → vec (nullAt rs n f t) k = 0
  | 0, _ => by rw [nullAt, vec_set_other hf, vec_replicate]
  | t + 1, h => by rw [nullAt, vec_set_other (fun e => h t (Nat.lt_succ_self t) e.symm), nullAt_off hf t (fun u hu => h u (by omega))]
theorem sum_set {z : List Int} {n k : Nat} {a : Int} (x : Nat → Int) (hz : z.length = n) (hk : k < n) : sumN n (fun j => vec (z.set k a) j * x j) = sumN n (fun j => vec z j * x j) + (a - vec z k) * x k := by
  have h : sumN n (fun j => vec (z.set k a) j * x j) - sumN n (fun j => vec z j * x j) = (a - vec z k) * x k := by
    rw [← sumN_sub, sumN_one hk (fun j _ hne => by rw [vec_set_other hne, Int.sub_self]), vec_set_same (by omega), Int.sub_mul]
  omega
theorem nullAt_dot {n : Nat} {ms rs : List (List Int)} {s : Nat} {M R : Nat → Nat → Int} {c o : Nat → Nat} (h : Reduced n ms rs s M R c o) {f : Nat} (hf : f < n) (hfree : leadIn rs f rs.length = false) (x : Nat → Int) : ∀ t, t ≤ rs.length →
    sumN n (fun j => vec (nullAt rs n f t) j * x j) = lcmN rs rs.length * x f + sumN t (fun u => -((lcmN rs rs.length).tdiv (leadV rs u)) * vec (row rs u) f * x (c u))
  | 0, _ => by
    rw [nullAt, sum_set x (by simp) hf, sumN_zero (fun j _ => by rw [vec_replicate, Int.zero_mul]), vec_replicate, sumN, Int.sub_zero]
    omega
  | t + 1, ht => by
    have hl := h.lead t (by omega)
    have hct : c t < n := h.el.ck t (by omega)
    have hne : c t ≠ f := by rw [← hl]; exact leadIn_false hfree (by omega)
    rw [nullAt, hl, sum_set x (nullAt_len rs n f t) hct, nullAt_off hne t (fun u hu => by
      rw [h.lead u (by omega)]
      have := h.el.mono u t hu (by omega)
      omega), nullAt_dot h hf hfree x t (by omega), sumN, Int.sub_zero]
    omega
theorem null_row {n : Nat} {ms rs : List (List Int)} {s : Nat} {M R : Nat → Nat → Int} {c o : Nat → Nat} (h : Reduced n ms rs s M R c o) {f : Nat} (hf : f < n) (hfree : leadIn rs f rs.length = false) {t : Nat} (ht : t < rs.length) :
    sumN n (fun j => vec (nullAt rs n f rs.length) j * vec (row rs t) j) = 0 := by
  rw [nullAt_dot h hf hfree _ rs.length (Nat.le_refl _), sumN_one ht (fun u hu hne => by
    rw [← h.rowv t ht, h.el.off u hu t (by have := h.el.rs; omega) (fun e => hne e.symm), Int.mul_zero])]
  have e1 : vec (row rs t) (c t) = leadV rs t := by rw [h.leadV ht, h.rowv t ht]
  have e2 : leadV rs t * (lcmN rs rs.length).tdiv (leadV rs t) = lcmN rs rs.length := Int.mul_tdiv_cancel' (dvd_lcmN h.lpos _ (Nat.le_refl _) t ht)
  rw [e1, Int.neg_mul, Int.neg_mul, Int.mul_right_comm, Int.mul_comm _ (leadV rs t), e2]
  omega
/-- A null vector's product with a sum of the rows is 0. -/
theorem null_span {n : Nat} {ms rs : List (List Int)} {s : Nat} {M R : Nat → Nat → Int} {c o : Nat → Nat} (h : Reduced n ms rs s M R c o) {f : Nat} (hf : f < n) (hfree : leadIn rs f rs.length = false) {x : Nat → Int} (hx : InSpan n rs.length (fun u => vec (row rs u)) x) :
    sumN n (fun j => vec (nullAt rs n f rs.length) j * x j) = 0 := by
  obtain ⟨d, b, hd, e⟩ := hx
  have : d * sumN n (fun j => vec (nullAt rs n f rs.length) j * x j) = 0 := by
    rw [← sumN_mul]
    have e2 : sumN n (fun j => d * (vec (nullAt rs n f rs.length) j * x j)) = sumN n (fun j => sumN rs.length (fun u => b u * (vec (nullAt rs n f rs.length) j * vec (row rs u) j))) := sumN_congr fun j hj => by
      rw [Int.mul_left_comm, e j hj, ← sumN_mul]
      exact sumN_congr fun u _ => by rw [Int.mul_left_comm]
    rw [e2, sumN_swap]
    exact sumN_zero fun u hu => by rw [sumN_mul, null_row h hf hfree hu, Int.mul_zero]
  exact (Int.mul_eq_zero.1 this).resolve_left hd
/-! ### Products as machine integers have them -/
theorem wrap_add (a b : Int) : IntKind.i64.wrap (IntKind.i64.wrap a + IntKind.i64.wrap b) = IntKind.i64.wrap (a + b) := by
  rw [IntKind.wrap_i64, IntKind.wrap_i64, IntKind.wrap_i64, IntKind.wrap_i64]
  omega
theorem dotW_sum (xs ys : List Int) : ∀ k, dotW xs ys k = IntKind.i64.wrap (sumN k (fun j => vec xs j * vec ys j))
  | 0 => by show (0 : Int) = IntKind.i64.wrap 0; decide
  | k + 1 => by
    rw [dotW, dotW_sum xs ys k, wrap_add]
    rfl
theorem dotV_sum {xs ys : List Int} {n : Nat} (hx : xs.length = n) (hy : ys.length = n) : dotV xs ys = IntKind.i64.wrap (sumN n (fun j => vec xs j * vec ys j)) := by
  unfold dotV
  rw [hx, hy, Nat.min_self, dotW_sum]
/-- The first free column whose null vector tells z from the rows; n if there is none. -/
def nullIdx (rs : List (List Int)) (z : List Int) (n : Nat) : Nat := findA (fun f => if leadIn rs f rs.length = true then 0 else dotV (nullAt rs n f rs.length) z) n 0
def nullV (ms : List (List Int)) (z : List Int) : List Int :=
  if bothV ms z = true then (if nullIdx (rrL ms z.length) z z.length = z.length then [] else nullAt (rrL ms z.length) z.length (nullIdx (rrL ms z.length) z z.length) (rrL ms z.length).length) else []
/-- What is in the span is a sum of the reduced rows. -/
theorem span_of {n : Nat} {ms rs : List (List Int)} {s : Nat} {M R : Nat → Nat → Int} {c o : Nat → Nat} (h : Reduced n ms rs s M R c o) {z : List Int} (hz : z.length = n) (h0 : leadL (remL z rs rs.length) = n) : InSpan n rs.length (fun u => vec (row rs u)) (vec z) := by
  obtain ⟨d, a, b, _, ha, e⟩ := (h.rest hz rs.length (Nat.le_refl _)).comb
  refine ⟨a, fun u => -(b u), ha, fun j hj => ?_⟩
  have h1 := e j hj
  rw [leadL_all (by rw [remL_len, hz]; exact h0), Int.mul_zero] at h1
  have h2 : sumN rs.length (fun u => -(b u) * vec (row rs u) j) = -sumN rs.length (fun u => b u * vec (row rs u) j) := by
    have := sumN_mul rs.length (-1) (fun u => b u * vec (row rs u) j)
    have h3 : sumN rs.length (fun u => -(b u) * vec (row rs u) j) = sumN rs.length (fun u => -1 * (b u * vec (row rs u) j)) := sumN_congr fun u _ => by rw [Int.neg_mul]; omega
    rw [h3, this]
    omega
  rw [h2]
  omega
theorem in_null {ms : List (List Int)} {z : List Int} (hb : bothV ms z = true) (h : inSpanV ms z = true) : nullIdx (rrL ms z.length) z z.length = z.length := by
  obtain ⟨c, o, hr⟩ := (both_fine hb).reduced
  rw [inSpan_yes hb, decide_eq_true_eq] at h
  have hs := span_of hr rfl h
  refine findA_eq (Nat.zero_le _) (by omega) (fun f _ hf => ?_) (.inl (by omega))
  cases hl : leadIn (rrL ms z.length) f (rrL ms z.length).length
  · rw [if_neg (by decide), dotV_sum (nullAt_len _ _ _ _) rfl, null_span hr hf hl hs]
    decide
  · rw [if_pos rfl]
theorem null_none {ms : List (List Int)} {z : List Int} (h : bothV ms z = false) : nullV ms z = [] := by unfold nullV; rw [h]; rfl
theorem null_in {ms : List (List Int)} {z : List Int} (hb : bothV ms z = true) (h : inSpanV ms z = true) : nullV ms z = [] := by
  unfold nullV
  rw [if_pos hb, if_pos (in_null hb h)]
/-- What the walks need. -/
structure NullAt (n : Nat) (rs : List (List Int)) : Prop where
  n1 : 1 ≤ n
  n6 : n ≤ 6
  many : rs.length ≤ 6
  wid : ∀ t, t < rs.length → (row rs t).length = n
  lead : ∀ t, t < rs.length → leadL (row rs t) < n
  pos : ∀ t, t < rs.length → 1 ≤ leadV rs t ∧ leadV rs t ≤ 2985984
  fit : ∀ t, t < rs.length → Fit 2985984 (row rs t)
  lcm : ∀ t, t ≤ rs.length → 1 ≤ lcmN rs t ∧ lcmN rs t ≤ 134217728
theorem null_at {ms : List (List Int)} {z : List Int} (h : bothV ms z = true) : NullAt z.length (rrL ms z.length) := by
  have hf := both_fine h
  have hn := both_len h
  obtain ⟨c, o, hr⟩ := hf.reduced
  refine ⟨hn.1, hn.2, by have := hr.el.rk; omega, hr.wid, fun t ht => by rw [hr.lead t ht]; exact hr.el.ck t ht, fun t ht => ?_, fun t ht => rr_fit hf ht, fun t ht => ?_⟩
  · have h1 := hr.lpos t ht
    have h2 := rr_fit hf ht (leadL (row (rrL ms z.length) t))
    unfold leadV at h1 ⊢
    omega
  · have := hr.lcm_le ht
    omega
theorem NullAt.quo {n : Nat} {rs : List (List Int)} (h : NullAt n rs) {t : Nat} (ht : t < rs.length) : 0 ≤ (lcmN rs rs.length).tdiv (leadV rs t) ∧ (lcmN rs rs.length).tdiv (leadV rs t) ≤ 134217728 := by
  have h1 := h.lcm rs.length (Nat.le_refl _)
  have h2 := h.pos t ht
  refine ⟨Int.tdiv_nonneg (by omega) (by omega), ?_⟩
  have := Int.natAbs_tdiv_le_natAbs (lcmN rs rs.length) (leadV rs t)
  omega
/-- The entries of a null vector. -/
theorem NullAt.entry {n : Nat} {rs : List (List Int)} (h : NullAt n rs) {t : Nat} (ht : t < rs.length) (f : Nat) : -1000000000000000 ≤ -((lcmN rs rs.length).tdiv (leadV rs t)) * vec (row rs t) f ∧ -((lcmN rs rs.length).tdiv (leadV rs t)) * vec (row rs t) f ≤ 1000000000000000 := by
  have h1 := h.quo ht
  have h2 := h.fit t ht f
  have := mul_fit (A := 134217728) (B := 2985984) (C := 400771988324352) (x := -((lcmN rs rs.length).tdiv (leadV rs t))) (y := vec (row rs t) f) (by omega) h2 (by decide) (by decide) (by decide)
  omega
theorem NullAt.bound {n : Nat} {rs : List (List Int)} (h : NullAt n rs) (f : Nat) : ∀ t, t ≤ rs.length → Fit 1000000000000000 (nullAt rs n f t)
  | 0, _, j => by
    have h1 := h.lcm rs.length (Nat.le_refl _)
    rw [nullAt]
    by_cases hj : j = f
    · subst hj
      rcases Nat.lt_or_ge j n with h2 | h2
      · rw [vec_set_same (by simpa using h2)]; omega
      · rw [vec_beyond (by simpa using h2)]; decide
    · rw [vec_set_other hj, vec_replicate]; decide
  | t + 1, ht, j => by
    have ih := NullAt.bound h f t (by omega)
    rw [nullAt]
    by_cases hj : j = leadL (row rs t)
    · subst hj
      rw [vec_set_same (by rw [nullAt_len]; exact h.lead t (by omega))]
      exact h.entry (by omega) f
    · rw [vec_set_other hj]; exact ih j
end Go.Proofs.Ytedkeobhcpbigaa
/- The model's null vectors. -/
namespace Go.Proofs.Ytedkeobhcpbigaa
open Go.RowKit
theorem repl_next (k : Nat) : List.replicate k (0 : Int) ++ [0] = List.replicate (k + 1) 0 := by
  rw [List.replicate_succ']
end Go.Proofs.Ytedkeobhcpbigaa
/- The model's NullVector. -/
namespace Go.Proofs.Ytedkeobhcpbigaa
open Go.RowKit
/-- What the search finds, and what it passes. -/
structure NullHit (rs : List (List Int)) (z : List Int) (n idx : Nat) : Prop where
  le : idx ≤ n
  miss : ∀ k, k < idx → leadIn rs k rs.length = true ∨ dotV (nullAt rs n k rs.length) z = 0
  hit : idx < n → leadIn rs idx rs.length = false ∧ dotV (nullAt rs n idx rs.length) z ≠ 0
theorem null_hit (rs : List (List Int)) (z : List Int) (n : Nat) : NullHit rs z n (nullIdx rs z n) := by
  obtain ⟨_, h2, h3, h4⟩ := findA_spec (fun f => if leadIn rs f rs.length = true then 0 else dotV (nullAt rs n f rs.length) z) n 0
  refine ⟨by unfold nullIdx; omega, fun k hk => ?_, fun hk => ?_⟩
  · have := h3 k (Nat.zero_le _) hk
    cases hl : leadIn rs k rs.length
    · rw [hl, if_neg (by decide)] at this
      exact .inr this
    · exact .inl rfl
  · have h5 := h4.resolve_left (by unfold nullIdx at hk; omega)
    unfold nullIdx
    generalize findA (fun f => if leadIn rs f rs.length = true then 0 else dotV (nullAt rs n f rs.length) z) n 0 = i at h5
    cases hl : leadIn rs i rs.length
    · rw [hl, if_neg (by decide)] at h5
      exact ⟨rfl, h5⟩
    · rw [hl, if_pos rfl] at h5
      exact absurd rfl h5
theorem null_yes {ms : List (List Int)} {z : List Int} (h : bothV ms z = true) : nullV ms z = if nullIdx (rrL ms z.length) z z.length = z.length then [] else nullAt (rrL ms z.length) z.length (nullIdx (rrL ms z.length) z z.length) (rrL ms z.length).length := by unfold nullV; rw [if_pos h]
theorem own_empty (w : World) (lo : Nat) (h : lo ≤ w.heap.size) : Own .i64 3 (w.alloc (.cells #[] 3)) lo (w.alloc (.cells #[] 3)).heap.size (some ⟨w.heap.size, 0, none⟩) 0 0 [] :=
  (own_nil .i64 3 w).wide h (by simp) (Nat.le_refl _)
end Go.Proofs.Ytedkeobhcpbigaa
