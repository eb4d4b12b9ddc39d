/- Rows without a common divisor: how a row is made tidy, and that this is unique. Plain mathematics. -/
import Derived.Test.YtbclnklejleobaaRed
import Derived.Test.YtbclnklejleobaaSlM
namespace Go.Proofs.Ytbclnklejleobaa
/-- The vector of a list. -/
def vec (z : List Int) : Nat → Int := fun j => z.getD j 0
theorem vec_ext {z y : List Int} (hl : z.length = y.length) (h : ∀ j, j < z.length → vec z j = vec y j) : z = y := by
  apply List.ext_getElem hl
  intro i h1 h2
  have := h i h1
  simpa [vec, List.getD, h1, h2] using this
theorem vec_beyond {z : List Int} {j : Nat} (h : z.length ≤ j) : vec z j = 0 := by simp [vec, List.getD, h]
theorem vec_map {n : Nat} {f : Nat → Int} {j : Nat} (h : j < n) : vec ((List.range n).map f) j = f j := by simp [vec, List.getD, h]
theorem vec_mapL {z : List Int} {f : Int → Int} {j : Nat} (h : j < z.length) : vec (z.map f) j = f (vec z j) := by simp [vec, List.getD, h]
/-- The first place from a on where f is not 0; a + d if there is none. -/
def findA (f : Nat → Int) : Nat → Nat → Nat
  | 0, a => a
  | d + 1, a => if f a = 0 then findA f d (a + 1) else a
theorem findA_eq {f : Nat → Int} : ∀ {d a p : Nat}, a ≤ p → p ≤ a + d → (∀ i, a ≤ i → i < p → f i = 0) → (p = a + d ∨ f p ≠ 0) → findA f d a = p
  | 0, a, p, h1, h2, _, _ => by unfold findA; omega
  | d + 1, a, p, h1, h2, h3, h4 => by
    unfold findA
    by_cases h : f a = 0
    · rw [if_pos h]
      have hne : a ≠ p := by
        rintro rfl
        rcases h4 with h4 | h4
        · omega
        · exact h4 h
      exact findA_eq (by omega) (by omega) (fun i hi => h3 i (by omega)) (h4.imp (fun e => by omega) id)
    · rw [if_neg h]
      rcases Nat.lt_or_ge a p with h5 | h5
      · exact absurd (h3 a (Nat.le_refl _) h5) h
      · omega
theorem findA_spec (f : Nat → Int) : ∀ d a, a ≤ findA f d a ∧ findA f d a ≤ a + d ∧ (∀ i, a ≤ i → i < findA f d a → f i = 0) ∧ (findA f d a = a + d ∨ f (findA f d a) ≠ 0)
  | 0, a => ⟨Nat.le_refl _, Nat.le_refl _, fun i h1 h2 => by unfold findA at h2; omega, .inl rfl⟩
  | d + 1, a => by
    unfold findA
    by_cases h : f a = 0
    · rw [if_pos h]
      obtain ⟨h1, h2, h3, h4⟩ := findA_spec f d (a + 1)
      refine ⟨by omega, by omega, fun i hi hi2 => ?_, h4.imp (fun e => by omega) id⟩
      rcases Nat.lt_or_eq_of_le hi with h5 | rfl
      · exact h3 i h5 hi2
      · exact h
    · rw [if_neg h]
      exact ⟨Nat.le_refl _, by omega, fun i h1 h2 => by omega, .inr h⟩
/-- The place of the first integer that is not 0. -/
def leadL (z : List Int) : Nat := findA (vec z) z.length 0
theorem leadL_le (z : List Int) : leadL z ≤ z.length := by have := (findA_spec (vec z) z.length 0).2.1; unfold leadL; omega
theorem leadL_before {z : List Int} {j : Nat} (h : j < leadL z) : vec z j = 0 := (findA_spec (vec z) z.length 0).2.2.1 j (Nat.zero_le _) h
theorem leadL_at {z : List Int} (h : leadL z < z.length) : vec z (leadL z) ≠ 0 := by
  rcases (findA_spec (vec z) z.length 0).2.2.2 with h1 | h1
  · unfold leadL at h; omega
  · exact h1
theorem leadL_eq {z : List Int} {p : Nat} (h1 : p ≤ z.length) (h2 : ∀ j, j < p → vec z j = 0) (h3 : p = z.length ∨ vec z p ≠ 0) : leadL z = p :=
  findA_eq (Nat.zero_le _) (by omega) (fun i _ hi => h2 i hi) (h3.imp (fun e => by omega) id)
theorem leadL_all {z : List Int} (h : leadL z = z.length) (j : Nat) : vec z j = 0 := by
  rcases Nat.lt_or_ge j z.length with h1 | h1
  · exact leadL_before (by omega)
  · exact vec_beyond h1
theorem leadL_zero {z : List Int} (h : ∀ j, j < z.length → vec z j = 0) : leadL z = z.length := leadL_eq (Nat.le_refl _) h (.inl rfl)
/-- The greatest common divisor of a row, with the sign of its first integer that is not 0. -/
def divL (z : List Int) : Int := if vec z (leadL z) < 0 then -(gcdN z.length (vec z) : Int) else (gcdN z.length (vec z) : Int)
def tidyL (z : List Int) : List Int := if leadL z = z.length then z else z.map fun x => x.tdiv (divL z)
theorem tidyL_len (z : List Int) : (tidyL z).length = z.length := by unfold tidyL; split <;> simp
theorem gcdN_ne {n : Nat} {v : Nat → Int} {j : Nat} (hj : j < n) (h : v j ≠ 0) : gcdN n v ≠ 0 := fun e => by
  have := gcdN_dvd (v := v) j hj
  rw [e] at this
  exact h (Int.zero_dvd.1 this)
theorem divL_ne {z : List Int} (h : leadL z < z.length) : divL z ≠ 0 := by
  have := gcdN_ne h (leadL_at h)
  unfold divL
  split <;> omega
theorem divL_dvd {z : List Int} {j : Nat} (h : j < z.length) : divL z ∣ vec z j := by
  have := gcdN_dvd (v := vec z) j h
  unfold divL
  split
  · exact Int.neg_dvd.2 this
  · exact this
theorem tidyL_mul {z : List Int} (h : leadL z < z.length) {j : Nat} (hj : j < z.length) : divL z * vec (tidyL z) j = vec z j := by
  unfold tidyL
  rw [if_neg (by omega), vec_mapL hj]
  exact Int.mul_tdiv_cancel' (divL_dvd hj)
/-- 0 everywhere, or without a common divisor and beginning with a positive integer. -/
def Tidy (n : Nat) (v : Nat → Int) : Prop := (∀ j, j < n → v j = 0) ∨ (Prim n v ∧ ∃ l, l < n ∧ 0 < v l ∧ ∀ j, j < l → v j = 0)
theorem Tidy.congr {n : Nat} {u v : Nat → Int} (h : Tidy n u) (e : ∀ j, j < n → v j = u j) : Tidy n v := by
  rcases h with h | ⟨h1, l, h2, h3, h4⟩
  · exact .inl fun j hj => by rw [e j hj, h j hj]
  · refine .inr ⟨?_, l, h2, by rw [e l h2]; exact h3, fun j hj => by rw [e j (by omega), h4 j hj]⟩
    have : gcdN n v = gcdN n u := by
      clear h1 h2 h3 h4
      induction n with
      | zero => rfl
      | succ n ih => rw [gcdN, gcdN, ih (fun j hj => e j (by omega)), e n (by omega)]
    unfold Prim
    rw [this]
    exact h1
theorem Tidy.first {n : Nat} {v : Nat → Int} (h : Tidy n v) {l : Nat} (hl : l < n) (h0 : ∀ j, j < l → v j = 0) (h1 : v l ≠ 0) : 0 < v l ∧ Prim n v := by
  rcases h with h | ⟨hp, m, h2, h3, h4⟩
  · exact absurd (h l hl) h1
  · rcases Nat.lt_trichotomy l m with h5 | h5 | h5
    · exact absurd (h4 l h5) h1
    · subst h5; exact ⟨h3, hp⟩
    · have := h0 m h5; omega
theorem tidyL_tidy (z : List Int) : Tidy z.length (vec (tidyL z)) := by
  rcases Nat.lt_or_eq_of_le (leadL_le z) with h | h
  · refine .inr ⟨?_, leadL z, h, ?_, fun j hj => ?_⟩
    · have e : gcdN z.length (vec z) = (divL z).natAbs * gcdN z.length (vec (tidyL z)) := by
        rw [← gcdN_mul]
        have : ∀ n, n ≤ z.length → gcdN n (vec z) = gcdN n (fun j => divL z * vec (tidyL z) j) := by
          intro n
          induction n with
          | zero => intro _; rfl
          | succ n ih => intro hn; rw [gcdN, gcdN, ih (by omega), tidyL_mul h (by omega)]
        exact this _ (Nat.le_refl _)
      have e2 : (divL z).natAbs = gcdN z.length (vec z) := by unfold divL; split <;> omega
      have e3 := gcdN_ne h (leadL_at h)
      rw [e2] at e
      unfold Prim
      have : gcdN z.length (vec z) * 1 = gcdN z.length (vec z) * gcdN z.length (vec (tidyL z)) := by rw [Nat.mul_one]; exact e
      exact (Nat.eq_of_mul_eq_mul_left (by omega) this).symm
    · have e := tidyL_mul h h
      have e1 := leadL_at h
      generalize vec (tidyL z) (leadL z) = t at e ⊢
      have e3 := gcdN_ne h e1
      have e2 : (0 < divL z ∧ 0 < vec z (leadL z)) ∨ (divL z < 0 ∧ vec z (leadL z) < 0) := by
        unfold divL
        split <;> omega
      rcases e2 with ⟨e4, e5⟩ | ⟨e4, e5⟩
      · rw [← e] at e5
        exact Int.pos_of_mul_pos_right e5 (by omega)
      · rw [← e] at e5
        have e6 : 0 < -(divL z) * t := by rw [Int.neg_mul]; omega
        exact Int.pos_of_mul_pos_right e6 (by omega)
    · have e := tidyL_mul h (j := j) (by omega)
      rw [leadL_before hj] at e
      exact (Int.mul_eq_zero.1 e).resolve_left (divL_ne h)
  · refine .inl fun j _ => ?_
    unfold tidyL
    rw [if_pos h]
    exact leadL_all h j
/-- A row is a multiple of its tidy one. -/
theorem tidyL_scale (z : List Int) : ∃ q : Int, q ≠ 0 ∧ ∀ j, j < z.length → q * vec (tidyL z) j = vec z j := by
  rcases Nat.lt_or_eq_of_le (leadL_le z) with h | h
  · exact ⟨divL z, divL_ne h, fun j hj => tidyL_mul h hj⟩
  · refine ⟨1, by decide, fun j _ => ?_⟩
    unfold tidyL
    rw [if_pos h, Int.one_mul]
theorem tidy_uniq {n : Nat} {u v : Nat → Int} (hu : Tidy n u) (hv : Tidy n v) {a b : Int} (ha : a ≠ 0) (hb : b ≠ 0) (h : ∀ j, j < n → a * u j = b * v j) : ∀ j, j < n → u j = v j := by
  intro j hj
  rcases hu with hu | ⟨pu, l, hl, hl1, hl2⟩
  · have := h j hj
    rw [hu j hj, Int.mul_zero] at this
    rw [hu j hj, (Int.mul_eq_zero.1 this.symm).resolve_left hb]
  · rcases hv with hv | ⟨pv, m, hm, hm1, hm2⟩
    · have := h j hj
      rw [hv j hj, Int.mul_zero] at this
      rw [hv j hj, (Int.mul_eq_zero.1 this).resolve_left ha]
    · obtain ⟨q, hq⟩ := pu.mult hb h
      have hlm : l = m := by
        rcases Nat.lt_trichotomy l m with h1 | h1 | h1
        · have e1 := h l hl
          rw [hm2 l h1, Int.mul_zero] at e1
          have := (Int.mul_eq_zero.1 e1).resolve_left ha
          omega
        · exact h1
        · have e1 := h m hm
          rw [hl2 m h1, Int.mul_zero] at e1
          have := (Int.mul_eq_zero.1 e1.symm).resolve_left hb
          omega
      subst hlm
      have hq0 : 0 < q := by
        have := hq l hl
        rw [this] at hm1
        exact Int.pos_of_mul_pos_left hm1 (by omega)
      have hg : gcdN n v = q.natAbs * gcdN n u := by
        rw [← gcdN_mul]
        have : ∀ k, k ≤ n → gcdN k v = gcdN k (fun j => q * u j) := by
          intro k
          induction k with
          | zero => intro _; rfl
          | succ k ih => intro hk; rw [gcdN, gcdN, ih (by omega), hq k (by omega)]
        exact this n (Nat.le_refl _)
      rw [pv, pu, Nat.mul_one] at hg
      rw [hq j hj, show q = 1 by omega, Int.one_mul]
/-- Rows that are multiples of each other become the same tidy row. -/
theorem tidyL_same {z y : List Int} (hl : z.length = y.length) {a b : Int} (ha : a ≠ 0) (hb : b ≠ 0) (h : ∀ j, j < z.length → a * vec z j = b * vec y j) : tidyL z = tidyL y := by
  refine vec_ext (by rw [tidyL_len, tidyL_len, hl]) fun j hj => ?_
  rw [tidyL_len] at hj
  obtain ⟨q, hq, e1⟩ := tidyL_scale z
  obtain ⟨r, hr, e2⟩ := tidyL_scale y
  refine tidy_uniq (n := z.length) (tidyL_tidy z) (by rw [hl]; exact tidyL_tidy y) (a := a * q) (b := b * r) (mul_ne ha hq) (mul_ne hb hr) (fun i hi => ?_) j hj
  rw [Int.mul_assoc, e1 i hi, Int.mul_assoc, e2 i (by omega)]
  exact h i hi
theorem tidyL_id {z : List Int} (h : Tidy z.length (vec z)) : tidyL z = z := by
  refine vec_ext (tidyL_len z) fun j hj => ?_
  rw [tidyL_len] at hj
  obtain ⟨q, hq, e1⟩ := tidyL_scale z
  exact tidy_uniq (n := z.length) (tidyL_tidy z) h hq (b := 1) (by decide) (fun i hi => by rw [Int.one_mul]; exact e1 i hi) j hj
theorem tidyL_idem (z : List Int) : tidyL (tidyL z) = tidyL z := tidyL_id (by rw [tidyL_len]; exact tidyL_tidy z)
/-- The multiple of row a and that of row p that take each other away in column k. -/
def combL (a p : List Int) (k : Nat) : List Int := (List.range a.length).map fun i => vec a i * vec p k - vec p i * vec a k
theorem combL_len (a p : List Int) (k : Nat) : (combL a p k).length = a.length := by simp [combL]
theorem combL_at {a p : List Int} {k j : Nat} (h : j < a.length) : vec (combL a p k) j = vec a j * vec p k - vec p j * vec a k := vec_map h
def clearL (a p : List Int) (k : Nat) : List Int := tidyL (combL a p k)
theorem clearL_len (a p : List Int) (k : Nat) : (clearL a p k).length = a.length := by rw [clearL, tidyL_len, combL_len]
/-- A row is cleared alike whether it was made tidy before or not. -/
theorem clearL_tidy {a b p : List Int} {k : Nat} (hl : a.length = b.length) (h : tidyL a = tidyL b) (hk : k < a.length) : clearL a p k = clearL b p k := by
  obtain ⟨q, hq, e1⟩ := tidyL_scale a
  obtain ⟨r, hr, e2⟩ := tidyL_scale b
  have key : ∀ j, j < a.length → r * vec a j = q * vec b j := fun j hj => by
    rw [← e1 j hj, ← e2 j (by omega), h, Int.mul_left_comm]
  refine tidyL_same (by rw [combL_len, combL_len, hl]) hr hq fun j hj => ?_
  rw [combL_len] at hj
  rw [combL_at hj, combL_at (by omega), Int.mul_sub, Int.mul_sub, ← Int.mul_assoc r, key j hj, Int.mul_assoc q, Int.mul_left_comm r, key k hk, Int.mul_left_comm (vec p j) q]
/-- A row that is 0 in column k stays, made tidy. -/
theorem clearL_zero {a p : List Int} {k : Nat} (h : vec a k = 0) (hp : vec p k ≠ 0) : clearL a p k = tidyL a := by
  refine tidyL_same (combL_len a p k) (a := 1) (by decide) hp fun j hj => ?_
  rw [combL_len] at hj
  rw [combL_at hj, h, Int.mul_zero, Int.sub_zero, Int.one_mul, Int.mul_comm]
end Go.Proofs.Ytbclnklejleobaa
