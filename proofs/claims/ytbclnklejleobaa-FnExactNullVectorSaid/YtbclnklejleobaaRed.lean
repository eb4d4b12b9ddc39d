/- Reduced rows: what they are, and that they are unique for their span. Plain mathematics. -/
import Derived.Test.YtbclnklejleobaaSpan
namespace Go.Proofs.Ytbclnklejleobaa
/-- r rows in reduced form, row i beginning in column l i. -/
structure Red (n r : Nat) (E : Nat → Nat → Int) (l : Nat → Nat) : Prop where
  lt : ∀ i, i < r → l i < n
  mono : ∀ i j, i < j → j < r → l i < l j
  pos : ∀ i, i < r → 0 < E i (l i)
  before : ∀ i, i < r → ∀ j, j < l i → E i j = 0
  off : ∀ i, i < r → ∀ t, t < r → t ≠ i → E t (l i) = 0
  prim : ∀ i, i < r → Prim n (E i)
theorem Red.coef {n r : Nat} {E : Nat → Nat → Int} {l : Nat → Nat} (h : Red n r E l) {c : Nat → Int} {i : Nat} (hi : i < r) : sumN r (fun t => c t * E t (l i)) = c i * E i (l i) :=
  sumN_one hi fun t ht hne => by rw [h.off i hi t ht hne, Int.mul_zero]
/-- A vector of the span begins where a row begins. -/
theorem Red.lead {n r : Nat} {E : Nat → Nat → Int} {l : Nat → Nat} (h : Red n r E l) {v : Nat → Int} (hv : InSpan n r E v) {c : Nat} (hc : c < n) (h0 : ∀ j, j < c → v j = 0) (h1 : v c ≠ 0) : ∃ i, i < r ∧ l i = c := by
  rcases Classical.em (∃ i, i < r ∧ l i = c) with h2 | h2
  · exact h2
  · obtain ⟨d, a, hd, ha⟩ := hv
    have ha0 : ∀ i, i < r → l i < c → a i = 0 := fun i hi hl => by
      have h3 := ha (l i) (h.lt i hi)
      rw [h0 _ hl, Int.mul_zero, h.coef hi] at h3
      exact (Int.mul_eq_zero.1 h3.symm).resolve_right (by have := h.pos i hi; omega)
    have h4 := ha c hc
    rw [sumN_zero (fun i hi => by
      rcases Nat.lt_trichotomy (l i) c with h5 | h5 | h5
      · rw [ha0 i hi h5, Int.zero_mul]
      · exact absurd ⟨i, hi, h5⟩ h2
      · rw [h.before i hi c h5, Int.mul_zero])] at h4
    exact absurd ((Int.mul_eq_zero.1 h4).resolve_left hd) h1
/-- A vector of the span that is 0 wherever a row begins is 0. -/
theorem Red.null {n r : Nat} {E : Nat → Nat → Int} {l : Nat → Nat} (h : Red n r E l) {v : Nat → Int} (hv : InSpan n r E v) (h0 : ∀ i, i < r → v (l i) = 0) : ∀ j, j < n → v j = 0 := by
  obtain ⟨d, a, hd, ha⟩ := hv
  have ha0 : ∀ i, i < r → a i = 0 := fun i hi => by
    have h3 := ha (l i) (h.lt i hi)
    rw [h0 i hi, Int.mul_zero, h.coef hi] at h3
    exact (Int.mul_eq_zero.1 h3.symm).resolve_right (by have := h.pos i hi; omega)
  intro j hj
  have h4 := ha j hj
  rw [sumN_zero (fun i hi => by rw [ha0 i hi, Int.zero_mul])] at h4
  exact (Int.mul_eq_zero.1 h4).resolve_left hd
theorem leads_eq {r r' : Nat} {l l' : Nat → Nat} (hm : ∀ i j, i < j → j < r → l i < l j) (hm' : ∀ i j, i < j → j < r' → l' i < l' j) (h1 : ∀ i, i < r → ∃ t, t < r' ∧ l' t = l i) (h2 : ∀ i, i < r' → ∃ t, t < r ∧ l t = l' i) :
    ∀ i, (i < r → i < r' ∧ l' i = l i) ∧ (i < r' → i < r ∧ l i = l' i) := by
  intro i
  induction i using Nat.strongRecOn with
  | ind i ih =>
    constructor
    · intro hi
      obtain ⟨t, ht, he⟩ := h1 i hi
      rcases Nat.lt_trichotomy t i with h3 | h3 | h3
      · have h4 := (ih t h3).2 ht
        have h5 := hm t i h3 hi
        omega
      · subst h3; exact ⟨ht, he⟩
      · have h4 : l' i < l i := by have := hm' i t h3 ht; omega
        obtain ⟨u, hu, he2⟩ := h2 i (by omega)
        rcases Nat.lt_trichotomy u i with h5 | h5 | h5
        · have h6 := (ih u h5).1 hu
          have h7 := hm' u i h5 (by omega)
          omega
        · subst h5; omega
        · have h6 := hm i u h5 hu; omega
    · intro hi
      obtain ⟨t, ht, he⟩ := h2 i hi
      rcases Nat.lt_trichotomy t i with h3 | h3 | h3
      · have h4 := (ih t h3).1 ht
        have h5 := hm' t i h3 hi
        omega
      · subst h3; exact ⟨ht, he⟩
      · have h4 : l i < l' i := by have := hm i t h3 ht; omega
        obtain ⟨u, hu, he2⟩ := h1 i (by omega)
        rcases Nat.lt_trichotomy u i with h5 | h5 | h5
        · have h6 := (ih u h5).2 hu
          have h7 := hm u i h5 (by omega)
          omega
        · subst h5; omega
        · have h6 := hm' i u h5 hu; omega
/-- Two reduced forms of one span are one. -/
theorem red_unique {n r r' : Nat} {E E' : Nat → Nat → Int} {l l' : Nat → Nat} (h : Red n r E l) (h' : Red n r' E' l') (hs : ∀ i, i < r → InSpan n r' E' (E i)) (hs' : ∀ i, i < r' → InSpan n r E (E' i)) :
    r = r' ∧ ∀ i, i < r → l i = l' i ∧ ∀ j, j < n → E i j = E' i j := by
  have hl := leads_eq h.mono h'.mono (fun i hi => h'.lead (hs i hi) (h.lt i hi) (h.before i hi) (by have := h.pos i hi; omega)) (fun i hi => h.lead (hs' i hi) (h'.lt i hi) (h'.before i hi) (by have := h'.pos i hi; omega))
  have hr : r = r' := by
    rcases Nat.lt_trichotomy r r' with h1 | h1 | h1
    · have := ((hl r).2 h1).1; omega
    · exact h1
    · have := ((hl r').1 h1).1; omega
  subst hr
  refine ⟨rfl, fun i hi => ⟨((hl i).2 hi).2, ?_⟩⟩
  have hli : l' i = l i := ((hl i).1 hi).2
  have hw : ∀ j, j < n → E' i (l i) * E i j + -(E i (l i)) * E' i j = 0 := by
    refine h.null (v := fun j => E' i (l i) * E i j + -(E i (l i)) * E' i j) (span_comb (E' i (l i)) (-(E i (l i))) 1 (by decide) (span_row hi) (hs' i hi) (fun j _ => Int.one_mul _)) (fun t ht => ?_)
    by_cases e : t = i
    · subst e
      simp only [Int.neg_mul]
      rw [Int.mul_comm]
      omega
    · have e1 : E i (l t) = 0 := h.off t ht i hi (fun x => e x.symm)
      have e2 : E' i (l t) = 0 := by
        have := h'.off t ht i hi (fun x => e x.symm)
        rwa [((hl t).1 ht).2] at this
      simp only [e1, e2, Int.mul_zero]
      rfl
  have hp := h.pos i hi
  have hp' := h'.pos i hi
  rw [hli] at hp'
  obtain ⟨q, hq⟩ := (h.prim i hi).mult (a := E' i (l i)) (b := E i (l i)) (w := E' i) (by omega) (fun j hj => by have := hw j hj; rw [Int.neg_mul] at this; omega)
  have hq1 : q ∣ 1 := by
    have := dvd_gcdN (n := n) (v := E' i) (b := q) (fun j hj => ⟨E i j, hq j hj⟩)
    rw [h'.prim i hi] at this
    exact this
  have hqp : 0 < q := by
    have h3 := hq (l i) (h.lt i hi)
    rcases Int.lt_or_le 0 q with h4 | h4
    · exact h4
    · have : q * E i (l i) ≤ 0 * E i (l i) := Int.mul_le_mul_of_nonneg_right h4 (by omega)
      omega
  have hq2 : q = 1 := Int.eq_one_of_dvd_one (by omega) hq1
  intro j hj
  rw [hq j hj, hq2, Int.one_mul]
end Go.Proofs.Ytbclnklejleobaa
