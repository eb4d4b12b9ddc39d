/- What is left of a row when reduced rows are taken from it. Plain mathematics. -/
import Derived.Test.YtbclnklejleobaaRedS
namespace Go.Proofs.Ytbclnklejleobaa
/-- Further columns behind the first n. -/
def ext (n : Nat) (v w : Nat → Int) : Nat → Int := fun j => if j < n then v j else w (j - n)
theorem ext_lo {n : Nat} {v w : Nat → Int} {j : Nat} (h : j < n) : ext n v w j = v j := if_pos h
theorem ext_hi {n : Nat} {v w : Nat → Int} {j : Nat} : ext n v w (n + j) = w j := by
  unfold ext
  rw [if_neg (by omega)]
  congr 1
  omega
theorem ext_gcd (n : Nat) (v : Nat → Int) : ∀ m, gcdN (n + m) (ext n v (fun _ => 0)) = gcdN n v
  | 0 => by
    have : ∀ k, k ≤ n → gcdN k (ext n v (fun _ => 0)) = gcdN k v := by
      intro k
      induction k with
      | zero => intro _; rfl
      | succ k ih => intro hk; rw [gcdN, gcdN, ih (by omega), ext_lo (by omega)]
    exact this n (Nat.le_refl _)
  | m + 1 => by
    show Int.gcd (gcdN (n + m) (ext n v (fun _ => 0))) (ext n v (fun _ => 0) (n + m)) = _
    rw [ext_gcd n v m, ext_hi, Int.gcd_zero_right]
    omega
theorem bndN_le6 {r N : Nat} (h : r ≤ 6) : bndN r N ≤ 52706752 * N := by
  have : r = 0 ∨ r = 1 ∨ r = 2 ∨ r = 3 ∨ r = 4 ∨ r = 5 ∨ r = 6 := by omega
  rcases this with rfl | rfl | rfl | rfl | rfl | rfl | rfl <;> (unfold bndN; rw [← Nat.mul_assoc]; exact Nat.mul_le_mul_right _ (by decide))
/-- What is left of a row is small, after each of the rows. -/
theorem Elim.rest {n s : Nat} {M R : Nat → Nat → Int} {r : Nat} {c o : Nat → Nat} (h : Elim n n s M R r n c o) (hr : r ≤ 6) (hK : ∀ i, i < s → ∀ j, j < n → -2 ≤ M i j ∧ M i j ≤ 2) {z : Nat → Int} (hz : ∀ j, j < n → -2 ≤ z j ∧ z j ≤ 2)
    {t : Nat} (ht : t ≤ r) {y : Nat → Int} (hp : Prim n y) {d a : Int} {b : Nat → Int} (hd : d ≠ 0) (hy : ∀ j, j < n → d * y j = a * z j + sumN t (fun u => b u * R u j)) (h0 : ∀ u, u < t → y (c u) = 0) {j : Nat} (hj : j < n) :
    -105413504 ≤ y j ∧ y j ≤ 105413504 := by
  have hcn : ∀ u, u < r → c u < n := h.ck
  have hPs : ∀ u, u < r → InSpan (n + r) (r + 1) (fun i => if i < r then ext n (M (o i)) (fun w => M (o i) (c w)) else ext n z (fun w => if w < t then z (c w) else 0)) (ext n (R u) (fun w => R u (c w))) := fun u hu => by
    obtain ⟨e, b', he, h1⟩ := h.span1 u hu
    refine ⟨e, fun i => if i < r then b' i else 0, he, fun x hx => ?_⟩
    show _ = sumN r _ + _
    simp only [Nat.lt_irrefl, if_false, Int.zero_mul, Int.add_zero]
    rcases Nat.lt_or_ge x n with hxn | hxn
    · rw [ext_lo hxn, h1 x hxn]
      exact sumN_congr fun i hi => by simp only [hi, if_true]; rw [ext_lo hxn]
    · obtain ⟨w, rfl⟩ : ∃ w, x = n + w := ⟨x - n, by omega⟩
      rw [ext_hi, h1 (c w) (hcn w (by omega))]
      exact sumN_congr fun i hi => by simp only [hi, if_true]; rw [ext_hi]
  have key := elim_bound (n := n + r) (k := r) (K := 2) (N := 2) (by decide) (M := fun i => if i < r then ext n (M (o i)) (fun w => M (o i) (c w)) else ext n z (fun w => if w < t then z (c w) else 0))
    (P := fun u => ext n (R u) (fun w => R u (c w))) (c := fun u => n + u) (v := ext n y (fun _ => 0))
    (fun u hu => by omega)
    (fun i hi u hu => by
      by_cases hir : i < r
      · simp only [hir, if_true]
        rw [ext_hi]
        exact hK _ (h.olt i (by have := h.rs; omega)) _ (hcn u hu)
      · simp only [hir, if_false]
        rw [ext_hi]
        split
        · exact hz _ (hcn u hu)
        · decide)
    (j1 := j) (by omega)
    (fun i hi => by
      by_cases hir : i < r
      · simp only [hir, if_true]
        rw [ext_lo hj]
        exact hK _ (h.olt i (by have := h.rs; omega)) _ hj
      · simp only [hir, if_false]
        rw [ext_lo hj]
        exact hz _ hj)
    hPs
    (fun u hu => by rw [ext_hi]; have := h.pos u hu; omega)
    (fun u hu w hw hwu => by rw [ext_hi]; exact h.off w hw u (by have := h.rs; omega) (fun e => hwu e.symm))
    (by
      refine span_trans (k := t + 1) (P := fun u => if u < t then ext n (R u) (fun w => R u (c w)) else ext n z (fun w => if w < t then z (c w) else 0)) ⟨d, fun u => if u < t then b u else a, hd, fun x hx => ?_⟩ (fun u hu => ?_)
      · show _ = sumN t _ + _
        simp only [Nat.lt_irrefl, if_false]
        rcases Nat.lt_or_ge x n with hxn | hxn
        · rw [ext_lo hxn, ext_lo hxn, hy x hxn, Int.add_comm]
          congr 1
          exact sumN_congr fun i hi => by simp only [hi, if_true]; rw [ext_lo hxn]
        · obtain ⟨w, rfl⟩ : ∃ w, x = n + w := ⟨x - n, by omega⟩
          have hw : w < r := by omega
          rw [ext_hi, ext_hi, Int.mul_zero]
          have e1 : sumN t (fun i => (if i < t then b i else a) * (if i < t then ext n (R i) (fun w => R i (c w)) else ext n z (fun w => if w < t then z (c w) else 0)) (n + w)) = sumN t (fun u => b u * R u (c w)) := sumN_congr fun i hi => by simp only [hi, if_true]; rw [ext_hi]
          rw [e1]
          by_cases hwt : w < t
          · rw [if_pos hwt]
            have := hy (c w) (hcn w hw)
            rw [h0 w hwt, Int.mul_zero] at this
            omega
          · rw [if_neg hwt, Int.mul_zero, sumN_zero (fun u hu => by rw [h.off w hw u (by have := h.rs; omega) (by omega), Int.mul_zero])]
            rfl
      · by_cases hut : u < t
        · simp only [hut, if_true]
          exact hPs u (by omega)
        · simp only [hut, if_false]
          refine span_congr (span_row (show r < r + 1 by omega)) fun x hx => ?_
          simp only [Nat.lt_irrefl, if_false])
    (fun u hu => by rw [ext_hi])
    (by unfold Prim; rw [ext_gcd]; exact hp)
  rw [ext_lo hj] at key
  have h2 : bndN r 2 ≤ 52706752 * 2 := bndN_le6 hr
  unfold bndN at h2
  omega
/-- A row is taken where it is not 0. -/
def clrStep (x p : List Int) : List Int := clrRow x p (leadL p)
def remL (x : List Int) (rs : List (List Int)) : Nat → List Int
  | 0 => x
  | t + 1 => clrStep (remL x rs t) (row rs t)
/-- What the program leaves: it takes every row. -/
def remP (x : List Int) (rs : List (List Int)) : Nat → List Int
  | 0 => x
  | t + 1 => clearL (remP x rs t) (row rs t) (leadL (row rs t))
theorem remL_len (x : List Int) (rs : List (List Int)) : ∀ t, (remL x rs t).length = x.length
  | 0 => rfl
  | t + 1 => by rw [remL, clrStep, clrRow_len, remL_len x rs t]
theorem remP_len (x : List Int) (rs : List (List Int)) : ∀ t, (remP x rs t).length = x.length
  | 0 => rfl
  | t + 1 => by rw [remP, clearL_len, remP_len x rs t]
/-- The reduced rows of a matrix, with what they are. -/
structure Reduced (n : Nat) (ms rs : List (List Int)) (s : Nat) (M R : Nat → Nat → Int) (c o : Nat → Nat) : Prop where
  el : Elim n n s M R rs.length n c o
  n6 : n ≤ 6
  rowv : ∀ t, t < rs.length → ∀ j, R t j = vec (row rs t) j
  lead : ∀ t, t < rs.length → leadL (row rs t) = c t
  wid : ∀ t, t < rs.length → (row rs t).length = n
  src : s = ms.length ∧ ∀ i, M i = vec (row ms i)
  small : ∀ i, i < s → ∀ j, j < n → -2 ≤ M i j ∧ M i j ≤ 2
theorem Fine.reduced {n : Nat} {ms : List (List Int)} (h : Fine n n ms) : ∃ c o, Reduced n ms (rrL ms n) ms.length (fun i => vec (row ms i)) (fun i => vec (row (redL (ms.map tidyL) n).1 i)) c o := by
  obtain ⟨c, o, he⟩ := (h.inv (Nat.le_refl n)).el
  have hrow : ∀ t, t < (rrL ms n).length → row (rrL ms n) t = row (redL (ms.map tidyL) n).1 t := fun t ht => rrL_row h ht
  have hlen := rrL_len h
  refine ⟨c, o, by rw [hlen]; exact he, h.q6, fun t ht j => by rw [hrow t ht], fun t ht => ?_, fun t ht => rrL_wid h ht, ⟨rfl, fun _ => rfl⟩, h.small⟩
  rw [hrow t ht]
  rw [hlen] at ht
  have h1 := he.ck t ht
  have hw : (row (redL (ms.map tidyL) n).1 t).length = n := (h.inv (Nat.le_refl n)).wid t (by have := h.rle; omega)
  exact leadL_eq (by omega) (fun j hj => he.before t ht j hj) (.inr (by have := he.pos t ht; omega))
/-- What is true of what is left of z after t rows. -/
structure Rest (n : Nat) (rs : List (List Int)) (c : Nat → Nat) (z y : List Int) (t : Nat) : Prop where
  comb : ∃ (d a : Int) (b : Nat → Int), d ≠ 0 ∧ a ≠ 0 ∧ ∀ j, j < n → d * vec y j = a * vec z j + sumN t (fun u => b u * vec (row rs u) j)
  zero : ∀ u, u < t → vec y (c u) = 0
  tidy : Tidy n (vec y) ∨ y = z
theorem Reduced.rest_start {n : Nat} {ms rs : List (List Int)} {s : Nat} {M R : Nat → Nat → Int} {c o : Nat → Nat} (_h : Reduced n ms rs s M R c o) (z : List Int) : Rest n rs c z z 0 :=
  ⟨⟨1, 1, fun _ => 0, by decide, by decide, fun j _ => by simp [sumN]⟩, fun u hu => absurd hu (Nat.not_lt_zero _), .inr rfl⟩
theorem Reduced.rest_step {n : Nat} {ms rs : List (List Int)} {s : Nat} {M R : Nat → Nat → Int} {c o : Nat → Nat} (h : Reduced n ms rs s M R c o) {z y : List Int} {t : Nat} (ht : t < rs.length) (hy : y.length = n) (hr : Rest n rs c z y t) : Rest n rs c z (clrStep y (row rs t)) (t + 1) := by
  have hl := h.lead t ht
  have hpos := h.el.pos t ht
  have hck := h.el.ck t ht
  have hoff : ∀ u, u < t → vec (row rs t) (c u) = 0 := fun u hu => by rw [← h.rowv t ht]; exact h.el.off u (by omega) t (by have := h.el.rs; omega) (by omega)
  rw [h.rowv t ht] at hpos
  unfold clrStep clrRow
  rw [hl]
  by_cases h0 : vec y (c t) = 0
  · rw [if_pos h0]
    obtain ⟨d, a, b, hd, ha, e⟩ := hr.comb
    refine ⟨⟨d, a, fun u => if u < t then b u else 0, hd, ha, fun j hj => ?_⟩, fun u hu => ?_, hr.tidy⟩
    · rw [e j hj]
      congr 1
      show _ = sumN t _ + _
      simp only [Nat.lt_irrefl, if_false, Int.zero_mul, Int.add_zero]
      exact sumN_congr fun u hu => by simp only [hu, if_true]
    · rcases Nat.lt_or_eq_of_le (Nat.lt_succ_iff.1 hu) with h1 | rfl
      · exact hr.zero u h1
      · exact h0
  · rw [if_neg h0]
    have hcl : ∀ j, j < n → vec (combL y (row rs t) (c t)) j = vec y j * vec (row rs t) (c t) - vec (row rs t) j * vec y (c t) := fun j hj => combL_at (by omega)
    obtain ⟨q, hq, e1⟩ := tidyL_scale (combL y (row rs t) (c t))
    rw [combL_len, hy] at e1
    have e2 : ∀ j, j < n → q * vec (clearL y (row rs t) (c t)) j = vec y j * vec (row rs t) (c t) - vec (row rs t) j * vec y (c t) := fun j hj => (e1 j hj).trans (hcl j hj)
    refine ⟨?_, fun u hu => ?_, .inl ?_⟩
    · obtain ⟨d, a, b, hd, ha, e⟩ := hr.comb
      refine ⟨d * q, vec (row rs t) (c t) * a, fun u => if u < t then vec (row rs t) (c t) * b u else -(d * vec y (c t)), mul_ne hd hq, mul_ne (by omega) ha, fun j hj => ?_⟩
      show _ = _ + (sumN t _ + _)
      simp only [Nat.lt_irrefl, if_false]
      have e3 : sumN t (fun u => (if u < t then vec (row rs t) (c t) * b u else -(d * vec y (c t))) * vec (row rs u) j) = vec (row rs t) (c t) * sumN t (fun u => b u * vec (row rs u) j) := by
        rw [← sumN_mul]
        exact sumN_congr fun u hu => by simp only [hu, if_true]; rw [Int.mul_assoc]
      rw [e3, Int.mul_assoc d, e2 j hj, Int.mul_sub, ← Int.mul_assoc d (vec y j), e j hj, Int.add_mul, Int.neg_mul]
      have r1 : a * vec z j * vec (row rs t) (c t) = vec (row rs t) (c t) * a * vec z j := by rw [Int.mul_comm, Int.mul_assoc]
      have r2 : sumN t (fun u => b u * vec (row rs u) j) * vec (row rs t) (c t) = vec (row rs t) (c t) * sumN t (fun u => b u * vec (row rs u) j) := Int.mul_comm _ _
      have r3 : d * (vec (row rs t) j * vec y (c t)) = d * vec y (c t) * vec (row rs t) j := by rw [Int.mul_comm (vec (row rs t) j), Int.mul_assoc]
      rw [r1, r2, r3]
      omega
    · rcases Nat.lt_or_eq_of_le (Nat.lt_succ_iff.1 hu) with h1 | rfl
      · have := e2 (c u) (h.el.ck u (by omega))
        rw [hr.zero u h1, hoff u h1, Int.zero_mul, Int.zero_mul, Int.sub_zero] at this
        exact (Int.mul_eq_zero.1 this).resolve_left hq
      · have := e2 (c u) hck
        rw [Int.mul_comm (vec y (c u)), Int.sub_self] at this
        exact (Int.mul_eq_zero.1 this).resolve_left hq
    · have := tidyL_tidy (combL y (row rs t) (c t))
      rw [combL_len, hy] at this
      exact this
theorem Reduced.rest {n : Nat} {ms rs : List (List Int)} {s : Nat} {M R : Nat → Nat → Int} {c o : Nat → Nat} (h : Reduced n ms rs s M R c o) {z : List Int} (hz : z.length = n) : ∀ t, t ≤ rs.length → Rest n rs c z (remL z rs t) t
  | 0, _ => h.rest_start z
  | t + 1, ht => h.rest_step (by omega) (by rw [remL_len]; exact hz) (Reduced.rest h hz t (by omega))
theorem Reduced.rem_fit {n : Nat} {ms rs : List (List Int)} {s : Nat} {M R : Nat → Nat → Int} {c o : Nat → Nat} (h : Reduced n ms rs s M R c o) {z : List Int} (hz : z.length = n) (hb : ∀ j, -2 ≤ vec z j ∧ vec z j ≤ 2) {t : Nat} (ht : t ≤ rs.length) : Fit 105413504 (remL z rs t) := by
  intro j
  have hR := h.rest hz t ht
  rcases Nat.lt_or_ge j n with hj | hj
  · rcases hR.tidy with h1 | h1
    · rcases h1 with h1 | ⟨hp, _⟩
      · rw [h1 j hj]; decide
      · obtain ⟨d, a, b, hd, _, e⟩ := hR.comb
        exact h.el.rest (by have := h.el.rk; have := h.n6; omega) h.small (fun j _ => hb j) ht hp hd (fun x hx => by
          rw [e x hx]
          congr 1
          exact sumN_congr fun u hu => by rw [h.rowv u (by omega)]) hR.zero hj
    · rw [h1]
      have := hb j
      omega
  · rw [vec_beyond (by rw [remL_len]; omega)]
    decide
theorem rem_tidy {x : List Int} {rs : List (List Int)} (hl : ∀ t, t < rs.length → leadL (row rs t) < x.length ∧ vec (row rs t) (leadL (row rs t)) ≠ 0) : ∀ t, t ≤ rs.length → tidyL (remP x rs t) = tidyL (remL x rs t)
  | 0, _ => rfl
  | t + 1, ht => by
    obtain ⟨h1, h2⟩ := hl t (by omega)
    have ih := rem_tidy hl t (by omega)
    rw [remP, remL, clrStep, clrRow]
    have hle : (remP x rs t).length = (remL x rs t).length := by rw [remP_len, remL_len]
    split
    · rename_i h0
      rw [clearL_zero (tidy_zero.1 (by rw [ih]; exact tidy_zero.2 h0)) h2, tidyL_idem, ih]
    · rw [clearL_tidy hle ih (by rw [remP_len]; exact h1)]
theorem remP_fit {x : List Int} {rs : List (List Int)} {B : Int} (hl : ∀ t, t < rs.length → leadL (row rs t) < x.length ∧ vec (row rs t) (leadL (row rs t)) ≠ 0) (hf : ∀ t, t ≤ rs.length → Fit B (remL x rs t)) {t : Nat} (ht : t ≤ rs.length) : Fit B (remP x rs t) := by
  cases t with
  | zero => exact hf 0 ht
  | succ t =>
    have e : remP x rs (t + 1) = tidyL (remP x rs (t + 1)) := by rw [remP, clearL, tidyL_idem]
    rw [e, rem_tidy hl _ ht]
    exact (hf _ ht).tidy
end Go.Proofs.Ytbclnklejleobaa
