/- Elimination: what stays true from step to step, and how small the numbers stay. Plain mathematics. -/
import Derived.Test.YtbclnklejleobaaTidy
namespace Go.Proofs.Ytbclnklejleobaa
/-- After column k: r pivots, in the columns c; row i stems from row o i. -/
structure Elim (n q s : Nat) (M R : Nat → Nat → Int) (r k : Nat) (c o : Nat → Nat) : Prop where
  rs : r ≤ s
  rk : r ≤ k
  kq : k ≤ q
  qn : q ≤ n
  mono : ∀ i j, i < j → j < r → c i < c j
  ck : ∀ t, t < r → c t < k
  pos : ∀ t, t < r → 0 < R t (c t)
  off : ∀ t, t < r → ∀ i, i < s → i ≠ t → R i (c t) = 0
  before : ∀ t, t < r → ∀ j, j < c t → R t j = 0
  below : ∀ i, r ≤ i → i < s → ∀ j, j < k → R i j = 0
  tidy : ∀ i, i < s → Tidy n (R i)
  olt : ∀ i, i < s → o i < s
  span1 : ∀ t, t < r → InSpan n r (fun u => M (o u)) (R t)
  span2 : ∀ i, r ≤ i → i < s → InSpan n (r + 1) (fun u => if u < r then M (o u) else M (o i)) (R i)
  all : ∀ i, i < s → InSpan n s R (M i)
/-- The rows as they stand, each made tidy. -/
theorem elim_start {n q s : Nat} {M R : Nat → Nat → Int} (hq : q ≤ n) (ht : ∀ i, i < s → Tidy n (R i)) (hs : ∀ i, i < s → ∃ a : Int, a ≠ 0 ∧ ∀ j, j < n → a * R i j = M i j) : Elim n q s M R 0 0 (fun _ => 0) id where
  rs := Nat.zero_le _
  rk := Nat.le_refl _
  kq := Nat.zero_le _
  qn := hq
  mono := fun i j _ h => by omega
  ck := fun t h => by omega
  pos := fun t h => by omega
  off := fun t h => by omega
  before := fun t h => by omega
  below := fun i _ _ j h => by omega
  tidy := ht
  olt := fun i h => h
  span1 := fun t h => by omega
  span2 := fun i _ hi => by
    obtain ⟨a, ha, h⟩ := hs i hi
    refine ⟨a, fun _ => 1, ha, fun j hj => ?_⟩
    rw [h j hj]
    simp [sumN]
  all := fun i hi => by
    obtain ⟨a, ha, h⟩ := hs i hi
    exact span_comb a 0 1 (by decide) (span_row (M := R) hi) (span_zero (v := fun _ => 0) (fun _ _ => rfl)) (fun j hj => by rw [h j hj]; simp)
/-- A column without a pivot. -/
theorem Elim.pass {n q s : Nat} {M R : Nat → Nat → Int} {r k : Nat} {c o : Nat → Nat} (h : Elim n q s M R r k c o) (hk : k < q) (h0 : ∀ i, r ≤ i → i < s → R i k = 0) : Elim n q s M R r (k + 1) c o :=
  { h with
    rk := by have := h.rk; omega
    kq := hk
    ck := fun t ht => by have := h.ck t ht; omega
    below := fun i h1 h2 j hj => by
      rcases Nat.lt_or_eq_of_le (Nat.lt_succ_iff.1 hj) with h3 | rfl
      · exact h.below i h1 h2 j h3
      · exact h0 i h1 h2 }
def swp (r p i : Nat) : Nat := if i = r then p else if i = p then r else i
/-- A step with row p as the pivot. -/
theorem Elim.step {n q s : Nat} {M R R2 : Nat → Nat → Int} {r k p : Nat} {c o : Nat → Nat} (h : Elim n q s M R r k c o) (hk : k < q) (hp : r ≤ p) (hps : p < s) (hne : R p k ≠ 0)
    (hat : ∀ j, j < n → R2 r j = R p j)
    (hoth : ∀ i, i < s → i ≠ r → Tidy n (R2 i) ∧ ∃ a : Int, a ≠ 0 ∧ ∀ j, j < n → a * R2 i j = R (swp r p i) j * R p k - R p j * R (swp r p i) k) :
    Elim n q s M R2 (r + 1) (k + 1) (fun t => if t = r then k else c t) (fun i => o (swp r p i)) := by
  have hkn : k < n := by have := h.qn; omega
  have hrs : r < s := by omega
  have sw_lt : ∀ i, i < s → swp r p i < s := fun i hi => by unfold swp; split <;> (try split) <;> omega
  have sw_lo : ∀ t, t < r → swp r p t = t := fun t ht => by unfold swp; rw [if_neg (by omega), if_neg (by omega)]
  have sw_hi : ∀ i, r < i → i < s → r ≤ swp r p i := fun i hi _ => by unfold swp; split <;> (try split) <;> omega
  have sw_ne : ∀ i, i ≠ r → swp r p i ≠ p := fun i hi => by unfold swp; split <;> (try split) <;> omega
  have sw_r : swp r p r = p := by unfold swp; rw [if_pos rfl]
  have htp : Tidy n (R2 r) := (h.tidy p hps).congr hat
  have hbp := h.below p hp hps
  have hp0 : 0 < R p k := ((h.tidy p hps).first hkn (fun j hj => hbp j hj) hne).1
  have hzero : ∀ i, i < s → i ≠ r → ∀ j, j < n → R (swp r p i) j * R p k = R p j * R (swp r p i) k → R2 i j = 0 := fun i hi hir j hj e => by
    obtain ⟨_, a, ha, h1⟩ := hoth i hi hir
    have := h1 j hj
    rw [e, Int.sub_self] at this
    exact (Int.mul_eq_zero.1 this).resolve_left ha
  have hlow : ∀ i, i < s → i ≠ r → ∀ j, j < n → R p j = 0 → R (swp r p i) j = 0 → R2 i j = 0 := fun i hi hir j hj e1 e2 => hzero i hi hir j hj (by rw [e1, e2, Int.zero_mul, Int.zero_mul])
  have hcn : ∀ t, t < r → c t < n := fun t ht => by have := h.ck t ht; omega
  have hpc : ∀ t, t < r → R p (c t) = 0 := fun t ht => hbp _ (h.ck t ht)
  -- what the new rows' span holds
  have hsp1 : ∀ t, t < r → InSpan n (r + 1) (fun u => M (o (swp r p u))) (R t) := fun t ht => by
    obtain ⟨d, a, hd, e⟩ := h.span1 t ht
    refine ⟨d, fun u => if u < r then a u else 0, hd, fun j hj => ?_⟩
    rw [e j hj, sumN]
    simp only [Nat.lt_irrefl, if_false, Int.zero_mul, Int.add_zero]
    exact sumN_congr fun u hu => by rw [if_pos hu, sw_lo u hu]
  have hspp : InSpan n (r + 1) (fun u => M (o (swp r p u))) (R p) := by
    obtain ⟨d, a, hd, e⟩ := h.span2 p hp hps
    refine ⟨d, a, hd, fun j hj => ?_⟩
    rw [e j hj]
    exact sumN_congr fun u hu => by
      rcases Nat.lt_or_eq_of_le (Nat.lt_succ_iff.1 hu) with h1 | h1
      · simp only [h1, if_true, sw_lo u h1]
      · subst h1; simp only [Nat.lt_irrefl, if_false, sw_r]
  refine ⟨hrs, by have := h.rk; omega, hk, h.qn, ?_, ?_, ?_, ?_, ?_, ?_, ?_, ?_, ?_, ?_, ?_⟩
  · intro i j hij hj
    by_cases h1 : j = r
    · rw [if_neg (by omega), if_pos h1]; exact h.ck i (by omega)
    · rw [if_neg (by omega), if_neg h1]; exact h.mono i j hij (by omega)
  · intro t ht
    by_cases h1 : t = r
    · rw [if_pos h1]; omega
    · rw [if_neg h1]; have := h.ck t (by omega); omega
  · intro t ht
    by_cases h1 : t = r
    · subst h1; rw [if_pos rfl, hat k hkn]; exact hp0
    · have ht' : t < r := by omega
      rw [if_neg h1]
      obtain ⟨h2, a, ha, h3⟩ := hoth t (by omega) h1
      refine (h2.first (hcn t ht') (fun j hj => hlow t (by omega) h1 j (by have := hcn t ht'; omega) (hbp j (by have := h.ck t ht'; omega)) (by rw [sw_lo t ht']; exact h.before t ht' j hj)) (fun e => ?_)).1
      have := h3 (c t) (hcn t ht')
      rw [e, Int.mul_zero, sw_lo t ht', hpc t ht', Int.zero_mul, Int.sub_zero] at this
      exact mul_ne (by have := h.pos t ht'; omega) hne this.symm
  · intro t ht i hi hit
    by_cases h1 : t = r
    · subst h1
      rw [if_pos rfl]
      exact hzero i hi hit k hkn (by rw [Int.mul_comm])
    · have ht' : t < r := by omega
      rw [if_neg h1]
      by_cases h2 : i = r
      · subst h2; rw [hat _ (hcn t ht')]; exact hpc t ht'
      · refine hlow i hi h2 _ (hcn t ht') (hpc t ht') (h.off t ht' _ (sw_lt i hi) ?_)
        unfold swp
        split <;> (try split) <;> omega
  · intro t ht j hj
    by_cases h1 : t = r
    · subst h1
      rw [if_pos rfl] at hj
      rw [hat j (by omega)]
      exact hbp j hj
    · have ht' : t < r := by omega
      rw [if_neg h1] at hj
      have := h.ck t ht'
      exact hlow t (by omega) h1 j (by omega) (hbp j (by omega)) (by rw [sw_lo t ht']; exact h.before t ht' j hj)
  · intro i h1 h2 j hj
    have hir : i ≠ r := by omega
    rcases Nat.lt_or_eq_of_le (Nat.lt_succ_iff.1 hj) with h3 | rfl
    · exact hlow i h2 hir j (by omega) (hbp j h3) (h.below _ (sw_hi i (by omega) h2) (sw_lt i h2) j h3)
    · exact hzero i h2 hir j hkn (by rw [Int.mul_comm])
  · intro i hi
    by_cases h1 : i = r
    · subst h1; exact htp
    · exact (hoth i hi h1).1
  · intro i hi
    exact h.olt _ (sw_lt i hi)
  · intro t ht
    by_cases h1 : t = r
    · subst h1; exact span_congr hspp hat
    · have ht' : t < r := by omega
      obtain ⟨_, a, ha, h3⟩ := hoth t (by omega) h1
      rw [sw_lo t ht'] at h3
      exact span_comb (R p k) (-(R t k)) a ha (hsp1 t ht') hspp (fun j hj => by rw [h3 j hj, Int.neg_mul, Int.mul_comm (R t j), Int.mul_comm (R p j)]; omega)
  · intro i h1 h2
    have hir : i ≠ r := by omega
    obtain ⟨_, a, ha, h3⟩ := hoth i h2 hir
    have up : ∀ v, InSpan n (r + 1) (fun u => M (o (swp r p u))) v → InSpan n (r + 1 + 1) (fun u => if u < r + 1 then M (o (swp r p u)) else M (o (swp r p i))) v := fun v ⟨d, b, hd, e⟩ => by
      refine ⟨d, fun u => if u < r + 1 then b u else 0, hd, fun j hj => ?_⟩
      rw [e j hj]
      show sumN (r + 1) _ = sumN (r + 1) _ + _
      simp only [Nat.lt_irrefl, if_false, Int.zero_mul, Int.add_zero]
      exact sumN_congr fun u hu => by simp only [hu, if_true]
    have hi2 : InSpan n (r + 1 + 1) (fun u => if u < r + 1 then M (o (swp r p u)) else M (o (swp r p i))) (R (swp r p i)) := by
      obtain ⟨d, b, hd, e⟩ := h.span2 _ (sw_hi i (by omega) h2) (sw_lt i h2)
      refine ⟨d, fun u => if u < r then b u else if u = r then 0 else b r, hd, fun j hj => ?_⟩
      have n1 : ¬ r + 1 < r := by omega
      have n2 : ¬ r + 1 = r := by omega
      rw [e j hj]
      show sumN r _ + _ = (sumN r _ + _) + _
      simp only [Nat.lt_irrefl, if_false, if_true, n1, n2, Int.zero_mul, Int.add_zero]
      congr 1
      exact sumN_congr fun u hu => by
        have n3 : u < r + 1 := by omega
        simp only [hu, n3, if_true, sw_lo u hu]
    exact span_comb (R p k) (-(R (swp r p i) k)) a ha hi2 (up _ hspp) (fun j hj => by rw [h3 j hj, Int.neg_mul, Int.mul_comm (R (swp r p i) j), Int.mul_comm (R p j)]; omega)
  · intro i hi
    refine span_trans (h.all i hi) fun t ht => ?_
    have hr2 : InSpan n s R2 (R p) := span_congr (span_row hrs) (fun j hj => (hat j hj).symm)
    -- row t stands at place swp r p t now
    by_cases h1 : t = p
    · subst h1; exact hr2
    · have h2 : swp r p t ≠ r := by unfold swp; split <;> (try split) <;> omega
      have h3 : swp r p (swp r p t) = t := by
        rcases Classical.em (t = r) with rfl | h4
        · rw [sw_r]
          unfold swp
          by_cases h5 : p = t
          · rw [if_pos h5]; exact h5
          · rw [if_neg h5, if_pos rfl]
        · have : swp r p t = t := by unfold swp; rw [if_neg h4, if_neg h1]
          rw [this, this]
      obtain ⟨_, a, ha, h4⟩ := hoth (swp r p t) (sw_lt t ht) h2
      rw [h3] at h4
      refine span_comb a (R t k) (R p k) hne (span_row (M := R2) (sw_lt t ht)) hr2 (fun j hj => ?_)
      have := h4 j hj
      rw [Int.mul_comm (R t k), this, Int.mul_comm (R p k)]
      omega
/-- How great the numbers are with r pivots. -/
def bndN (r N : Nat) : Nat := (r + 1) * ((2 * (r + 1)) ^ r * N)
theorem bndN_le {r N : Nat} (h : r ≤ 5) : bndN r N ≤ 1492992 * N := by
  have : r = 0 ∨ r = 1 ∨ r = 2 ∨ r = 3 ∨ r = 4 ∨ r = 5 := by omega
  rcases this with rfl | rfl | rfl | rfl | rfl | rfl <;> (unfold bndN; rw [← Nat.mul_assoc]; exact Nat.mul_le_mul_right _ (by decide))
theorem Elim.bound1 {n q s N : Nat} {M R : Nat → Nat → Int} {r k : Nat} {c o : Nat → Nat} (h : Elim n q s M R r k c o) (hK : ∀ i, i < s → ∀ j, j < q → -2 ≤ M i j ∧ M i j ≤ 2) {j : Nat} (hj : j < n) (hN : ∀ i, i < s → -(N : Int) ≤ M i j ∧ M i j ≤ N)
    {t : Nat} (ht : t < r) (hr : r ≤ 6) : -((1492992 * N : Nat) : Int) ≤ R t j ∧ R t j ≤ ((1492992 * N : Nat) : Int) := by
  have hrs := h.rs
  have hp : Prim n (R t) := ((h.tidy t (by omega)).first (l := c t) (by have := h.ck t ht; have := h.kq; have := h.qn; omega) (h.before t ht) (by have := h.pos t ht; omega)).2
  obtain ⟨r', rfl⟩ : ∃ r', r = r' + 1 := ⟨r - 1, by omega⟩
  have key := elim_bound (n := n) (k := r') (K := 2) (N := N) (by decide) (M := fun u => M (o u)) (P := skip t R) (c := fun u => if u < t then c u else c (u + 1)) (v := R t)
    (fun u hu => by have h1 := h.kq; have h2 := h.qn; split; exact Nat.lt_of_lt_of_le (h.ck u (by omega)) (by omega); exact Nat.lt_of_lt_of_le (h.ck (u + 1) (by omega)) (by omega))
    (fun i hi u hu => hK _ (h.olt i (by omega)) _ (by have h1 := h.kq; split; exact Nat.lt_of_lt_of_le (h.ck u (by omega)) (by omega); exact Nat.lt_of_lt_of_le (h.ck (u + 1) (by omega)) (by omega)))
    hj (fun i hi => hN _ (h.olt i (by omega)))
    (fun u hu => by unfold skip; split; exact h.span1 u (by omega); exact h.span1 (u + 1) (by omega))
    (fun u hu => by
      unfold skip
      by_cases hut : u < t
      · simp only [hut, if_true]; have := h.pos u (by omega); omega
      · simp only [hut, if_false]; have := h.pos (u + 1) (by omega); omega)
    (fun u hu v hv hvu => by
      unfold skip
      by_cases h1 : u < t <;> by_cases h2 : v < t <;> simp only [h1, h2, if_true, if_false]
      · exact h.off v (by omega) u (by omega) (by omega)
      · exact h.off (v + 1) (by omega) u (by omega) (by omega)
      · exact h.off v (by omega) (u + 1) (by omega) (by omega)
      · exact h.off (v + 1) (by omega) (u + 1) (by omega) (by omega))
    (h.span1 t ht)
    (fun u hu => by
      by_cases h1 : u < t <;> simp only [h1, if_true, if_false]
      · exact h.off u (by omega) t (by omega) (by omega)
      · exact h.off (u + 1) (by omega) t (by omega) (by omega))
    hp
  have h1 := key
  have h2 : bndN r' N ≤ 1492992 * N := bndN_le (by omega)
  unfold bndN at h2
  omega
theorem Elim.bound {n q s N : Nat} {M R : Nat → Nat → Int} {r k : Nat} {c o : Nat → Nat} (h : Elim n q s M R r k c o) (hK : ∀ i, i < s → ∀ j, j < q → -2 ≤ M i j ∧ M i j ≤ 2) {j : Nat} (hj : j < n) (hN : ∀ i, i < s → -(N : Int) ≤ M i j ∧ M i j ≤ N)
    (hr : r ≤ 5) {i : Nat} (hi : i < s) : -((1492992 * N : Nat) : Int) ≤ R i j ∧ R i j ≤ ((1492992 * N : Nat) : Int) := by
  rcases Nat.lt_or_ge i r with h1 | h1
  · exact h.bound1 hK hj hN h1 (by omega)
  · have hrs := h.rs
    rcases h.tidy i hi with h0 | ⟨hp, _⟩
    · rw [h0 j hj]
      omega
    · have key := elim_bound (n := n) (k := r) (K := 2) (N := N) (by decide) (M := fun u => if u < r then M (o u) else M (o i)) (P := R) (c := c) (v := R i)
        (fun u hu => Nat.lt_of_lt_of_le (h.ck u hu) (by have := h.kq; have := h.qn; omega))
        (fun a ha u hu => by
          have hcu : c u < q := Nat.lt_of_lt_of_le (h.ck u hu) h.kq
          split
          · exact hK _ (h.olt a (by omega)) _ hcu
          · exact hK _ (h.olt i hi) _ hcu)
        hj (fun a ha => by
          split
          · exact hN _ (h.olt a (by omega))
          · exact hN _ (h.olt i hi))
        (fun u hu => by
          obtain ⟨d, b, hd, e⟩ := h.span1 u hu
          refine ⟨d, fun x => if x < r then b x else 0, hd, fun j hj => ?_⟩
          rw [e j hj, sumN]
          simp only [Nat.lt_irrefl, if_false, Int.zero_mul, Int.add_zero]
          exact sumN_congr fun x hx => by rw [if_pos hx, if_pos hx])
        (fun u hu => by have := h.pos u hu; omega)
        (fun u hu x hx hne => h.off x hx u (by omega) (by omega))
        (h.span2 i h1 hi)
        (fun u hu => h.off u hu i hi (by omega))
        hp
      have h1 := key
      have h2 : bndN r N ≤ 1492992 * N := bndN_le hr
      unfold bndN at h2
      omega
end Go.Proofs.Ytbclnklejleobaa
