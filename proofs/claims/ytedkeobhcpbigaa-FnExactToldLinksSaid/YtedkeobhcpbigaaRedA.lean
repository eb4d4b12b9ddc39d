/- Sums, the pigeonhole, and a small integer relation between more vectors than there are equations: plain mathematics. -/
import Derived.WalkKit
import Derived.Test.YtedkeobhcpbigaaSlA
namespace Go.Proofs.Ytedkeobhcpbigaa
/-- The sum of the first k. -/
def sumN : Nat → (Nat → Int) → Int
  | 0, _ => 0
  | k + 1, f => sumN k f + f k
theorem sumN_congr {k : Nat} {f g : Nat → Int} (h : ∀ i, i < k → f i = g i) : sumN k f = sumN k g := by
  induction k with
  | zero => rfl
  | succ k ih => rw [sumN, sumN, ih (fun i hi => h i (by omega)), h k (by omega)]
theorem sumN_zero {k : Nat} {f : Nat → Int} (h : ∀ i, i < k → f i = 0) : sumN k f = 0 := by
  induction k with
  | zero => rfl
  | succ k ih => rw [sumN, ih (fun i hi => h i (by omega)), h k (by omega)]; rfl
theorem sumN_add (k : Nat) (f g : Nat → Int) : sumN k (fun i => f i + g i) = sumN k f + sumN k g := by
  induction k with
  | zero => rfl
  | succ k ih => rw [sumN, sumN, sumN, ih]; omega
theorem sumN_sub (k : Nat) (f g : Nat → Int) : sumN k (fun i => f i - g i) = sumN k f - sumN k g := by
  induction k with
  | zero => rfl
  | succ k ih => rw [sumN, sumN, sumN, ih]; omega
theorem sumN_mul (k : Nat) (c : Int) (f : Nat → Int) : sumN k (fun i => c * f i) = c * sumN k f := by
  induction k with
  | zero => simp [sumN]
  | succ k ih => rw [sumN, sumN, ih, Int.mul_add]
theorem sumN_mulR (k : Nat) (c : Int) (f : Nat → Int) : sumN k (fun i => f i * c) = sumN k f * c := by
  rw [Int.mul_comm, ← sumN_mul]
  exact sumN_congr fun i _ => Int.mul_comm _ _
theorem sumN_swap (k l : Nat) (f : Nat → Nat → Int) : sumN k (fun i => sumN l (f i)) = sumN l (fun j => sumN k (fun i => f i j)) := by
  induction k with
  | zero => rw [sumN]; exact (sumN_zero fun _ _ => rfl).symm
  | succ k ih =>
    rw [sumN, ih, ← sumN_add]
    rfl
theorem sumN_one {k a : Nat} {f : Nat → Int} (ha : a < k) (h : ∀ i, i < k → i ≠ a → f i = 0) : sumN k f = f a := by
  induction k with
  | zero => omega
  | succ k ih =>
    rw [sumN]
    by_cases e : a = k
    · subst e
      rw [sumN_zero (fun i hi => h i (by omega) (by omega))]
      omega
    · rw [ih (by omega) (fun i hi hne => h i (by omega) hne), h k (by omega) (by omega)]
      omega
theorem sumN_bd {k : Nat} {f : Nat → Int} {B : Int} (h : ∀ i, i < k → -B ≤ f i ∧ f i ≤ B) : -((k : Int) * B) ≤ sumN k f ∧ sumN k f ≤ (k : Int) * B := by
  induction k with
  | zero => simp [sumN]
  | succ k ih =>
    have h1 := ih (fun i hi => h i (by omega))
    have h2 := h k (by omega)
    rw [sumN]
    have e : ((k + 1 : Nat) : Int) * B = (k : Int) * B + B := by rw [Int.natCast_add, Int.add_mul]; simp
    rw [e]
    omega
theorem sumN_nn {k : Nat} {f : Nat → Int} {B : Int} (h : ∀ i, i < k → 0 ≤ f i ∧ f i ≤ B) : 0 ≤ sumN k f ∧ sumN k f ≤ (k : Int) * B := by
  induction k with
  | zero => simp [sumN]
  | succ k ih =>
    have h1 := ih (fun i hi => h i (by omega))
    have h2 := h k (by omega)
    rw [sumN]
    have e : ((k + 1 : Nat) : Int) * B = (k : Int) * B + B := by rw [Int.natCast_add, Int.add_mul]; simp
    rw [e]
    omega
/-! ### The pigeonhole -/
theorem pigeon : ∀ (M N : Nat) (f : Nat → Nat), M < N → (∀ i, i < N → f i < M) → ∃ a b, a < b ∧ b < N ∧ f a = f b
  | 0, N, f, h, hf => by have := hf 0 h; omega
  | M + 1, N, f, h, hf => by
    by_cases hx : ∃ a, a < N - 1 ∧ f a = f (N - 1)
    · obtain ⟨a, ha, he⟩ := hx
      exact ⟨a, N - 1, ha, by omega, he⟩
    · have hne : ∀ a, a < N - 1 → f a ≠ f (N - 1) := fun a ha he => hx ⟨a, ha, he⟩
      obtain ⟨a, b, hab, hb, he⟩ := pigeon M (N - 1) (fun i => if f (N - 1) < f i then f i - 1 else f i) (by omega) (fun i hi => by
        have h1 := hne i hi
        have h2 := hf i (by omega)
        have h3 := hf (N - 1) (by omega)
        split <;> omega)
      refine ⟨a, b, hab, by omega, ?_⟩
      have h1 := hne a (by omega)
      have h2 := hne b hb
      split at he <;> split at he <;> omega
/-! ### Codes of tuples -/
def code (B : Nat) : Nat → (Nat → Nat) → Nat
  | 0, _ => 0
  | k + 1, t => code B k t * B + t k
theorem code_lt {B k : Nat} {t : Nat → Nat} (h : ∀ j, j < k → t j < B) : code B k t < B ^ k := by
  induction k with
  | zero => simp [code]
  | succ k ih =>
    have h1 := ih (fun j hj => h j (by omega))
    have h2 := h k (by omega)
    rw [code, Nat.pow_succ]
    have : (code B k t + 1) * B ≤ B ^ k * B := Nat.mul_le_mul_right B h1
    rw [Nat.add_mul] at this
    omega
theorem code_inj {B k : Nat} {t u : Nat → Nat} (ht : ∀ j, j < k → t j < B) (hu : ∀ j, j < k → u j < B) (h : code B k t = code B k u) : ∀ j, j < k → t j = u j := by
  induction k with
  | zero => intro j hj; omega
  | succ k ih =>
    rw [code, code] at h
    have h1 := ht k (by omega)
    have h2 := hu k (by omega)
    have e1 : (code B k t * B + t k) % B = t k := by rw [Nat.add_comm, Nat.add_mul_mod_self_right, Nat.mod_eq_of_lt h1]
    have e2 : (code B k u * B + u k) % B = u k := by rw [Nat.add_comm, Nat.add_mul_mod_self_right, Nat.mod_eq_of_lt h2]
    have e3 : t k = u k := by rw [← e1, ← e2, h]
    have e4 : code B k t = code B k u := by
      have : code B k t * B = code B k u * B := by omega
      exact Nat.eq_of_mul_eq_mul_right (by omega) this
    intro j hj
    rcases Nat.lt_or_eq_of_le (Nat.lt_succ_iff.1 hj) with h5 | rfl
    · exact ih (fun j hj => ht j (by omega)) (fun j hj => hu j (by omega)) e4 j h5
    · exact e3
def dig (B : Nat) : Nat → Nat → Nat → Nat
  | 0, _, _ => 0
  | s + 1, e, i => if i = s then e % B else dig B s (e / B) i
theorem dig_lt {B : Nat} (hB : 0 < B) : ∀ (s e i : Nat), dig B s e i < B
  | 0, _, _ => hB
  | s + 1, e, i => by
    unfold dig
    split
    · exact Nat.mod_lt _ hB
    · exact dig_lt hB s _ i
theorem dig_inj {B : Nat} (hB : 0 < B) : ∀ (s e e' : Nat), e < B ^ s → e' < B ^ s → (∀ i, i < s → dig B s e i = dig B s e' i) → e = e'
  | 0, e, e', h, h', _ => by rw [Nat.pow_zero] at h h'; omega
  | s + 1, e, e', h, h', hd => by
    rw [Nat.pow_succ] at h h'
    have h1 := hd s (by omega)
    simp only [dig, if_true] at h1
    have h2 := dig_inj hB s (e / B) (e' / B) ((Nat.div_lt_iff_lt_mul hB).2 h) ((Nat.div_lt_iff_lt_mul hB).2 h') (fun i hi => by
      have := hd i (by omega)
      simp only [dig] at this
      rw [if_neg (by omega), if_neg (by omega)] at this
      exact this)
    rw [← Nat.div_add_mod e B, ← Nat.div_add_mod e' B, h1, h2]
/-! ### A small relation -/
/-- One term, moved so that it is not negative. -/
def term (v d X : Int) : Int := if 0 ≤ v then v * d else v * (d - X)
theorem term_bd {v d X K : Int} (hv : -K ≤ v ∧ v ≤ K) (hd : 0 ≤ d ∧ d ≤ X) : 0 ≤ term v d X ∧ term v d X ≤ K * X := by
  unfold term
  split
  · refine ⟨Int.mul_nonneg (by omega) hd.1, ?_⟩
    exact Int.mul_le_mul hv.2 hd.2 hd.1 (by omega)
  · have e : v * (d - X) = (-v) * (X - d) := by rw [← Int.neg_mul_neg]; congr 1; omega
    rw [e]
    refine ⟨Int.mul_nonneg (by omega) (by omega), ?_⟩
    exact Int.mul_le_mul (by omega) (by omega) (by omega) (by omega)
theorem term_sub (v d e X : Int) : term v d X - term v e X = (d - e) * v := by
  unfold term
  split
  · rw [← Int.mul_sub, Int.mul_comm]
  · rw [← Int.mul_sub, Int.mul_comm]
    congr 1
    omega
theorem siegel (s k K X : Nat) (V : Nat → Nat → Int) (hV : ∀ i, i < s → ∀ j, j < k → -(K : Int) ≤ V i j ∧ V i j ≤ K) (hX : (s * (K * X) + 1) ^ k < (X + 1) ^ s) :
    ∃ y : Nat → Int, (∃ i, i < s ∧ y i ≠ 0) ∧ (∀ i, i < s → -(X : Int) ≤ y i ∧ y i ≤ X) ∧ ∀ j, j < k → sumN s (fun i => y i * V i j) = 0 := by
  have hB : 0 < X + 1 := by omega
  let T : Nat → Nat → Int := fun e j => sumN s (fun i => term (V i j) (dig (X + 1) s e i : Int) X)
  have hd : ∀ e i, (0 : Int) ≤ (dig (X + 1) s e i : Int) ∧ (dig (X + 1) s e i : Int) ≤ X := fun e i => by have := dig_lt hB s e i; omega
  have hT : ∀ e j, j < k → 0 ≤ T e j ∧ T e j ≤ ((s * (K * X) : Nat) : Int) := fun e j hj => by
    have := sumN_nn (k := s) (f := fun i => term (V i j) (dig (X + 1) s e i : Int) X) (B := (K : Int) * X) (fun i hi => term_bd (hV i hi j hj) (hd e i))
    simpa using this
  obtain ⟨a, b, hab, hbN, he⟩ := pigeon ((s * (K * X) + 1) ^ k) ((X + 1) ^ s) (fun e => code (s * (K * X) + 1) k (fun j => (T e j).toNat)) hX (fun e _ => code_lt (fun j hj => by have := hT e j hj; omega))
  have hj := code_inj (fun j hj => by have := hT a j hj; omega) (fun j hj => by have := hT b j hj; omega) he
  refine ⟨fun i => (dig (X + 1) s a i : Int) - (dig (X + 1) s b i : Int), ?_, fun i _ => ?_, fun j hjk => ?_⟩
  · rcases Classical.em (∃ i, i < s ∧ (dig (X + 1) s a i : Int) - (dig (X + 1) s b i : Int) ≠ 0) with h | h
    · exact h
    · have : a = b := dig_inj hB s a b (by omega) hbN (fun i hi => by
        rcases Classical.em ((dig (X + 1) s a i : Int) - (dig (X + 1) s b i : Int) = 0) with h2 | h2
        · omega
        · exact absurd ⟨i, hi, h2⟩ h)
      omega
  · have h1 := hd a i
    have h2 := hd b i
    simp only
    omega
  · have h1 := hj j hjk
    have h2 := hT a j hjk
    have h3 := hT b j hjk
    have h4 : T a j - T b j = 0 := by omega
    rw [← h4, ← sumN_sub]
    exact sumN_congr fun i _ => (term_sub _ _ _ _).symm
theorem siegel_pow {q P k : Nat} (hq : 1 ≤ q) (hP : P = q ^ k) : (q * P + 1) ^ k < (P + 1) ^ (k + 1) := by
  have h1 : q * P + 1 ≤ q * (P + 1) := by rw [Nat.mul_add]; omega
  have h2 := Nat.pow_le_pow_left h1 k
  rw [Nat.mul_pow, ← hP] at h2
  have h3 : P * (P + 1) ^ k < (P + 1) * (P + 1) ^ k := Nat.mul_lt_mul_of_pos_right (by omega) (Nat.pow_pos (by omega))
  rw [Nat.pow_succ, Nat.mul_comm _ (P + 1)]
  exact Nat.lt_of_le_of_lt h2 h3
theorem siegel_num {s k K : Nat} (hs : s = k + 1) (hK : 1 ≤ K) : (s * (K * (K * s) ^ k) + 1) ^ k < ((K * s) ^ k + 1) ^ s := by
  subst hs
  have hq : 1 * 1 ≤ K * (k + 1) := Nat.mul_le_mul hK (by omega)
  have e : (k + 1) * (K * (K * (k + 1)) ^ k) = (K * (k + 1)) * (K * (k + 1)) ^ k := by rw [← Nat.mul_assoc, Nat.mul_comm (k + 1) K]
  rw [e]
  exact siegel_pow hq rfl
/-- k + 1 vectors with entries up to K meet k equations in a combination with small factors. -/
theorem small_rel (k K : Nat) (hK : 1 ≤ K) (V : Nat → Nat → Int) (hV : ∀ i, i < k + 1 → ∀ j, j < k → -(K : Int) ≤ V i j ∧ V i j ≤ K) :
    ∃ y : Nat → Int, (∃ i, i < k + 1 ∧ y i ≠ 0) ∧ (∀ i, i < k + 1 → -(((K * (k + 1)) ^ k : Nat) : Int) ≤ y i ∧ y i ≤ (((K * (k + 1)) ^ k : Nat) : Int)) ∧ ∀ j, j < k → sumN (k + 1) (fun i => y i * V i j) = 0 :=
  siegel (k + 1) k K _ V hV (siegel_num rfl hK)
/-- A bound on finitely many numbers. -/
theorem bounded (s k : Nat) (V : Nat → Nat → Int) : ∃ K : Nat, 1 ≤ K ∧ ∀ i, i < s → ∀ j, j < k → -(K : Int) ≤ V i j ∧ V i j ≤ K := by
  have one : ∀ (k : Nat) (f : Nat → Int), ∃ K : Nat, 1 ≤ K ∧ ∀ j, j < k → -(K : Int) ≤ f j ∧ f j ≤ K := by
    intro k f
    induction k with
    | zero => exact ⟨1, Nat.le_refl _, fun j hj => by omega⟩
    | succ k ih =>
      obtain ⟨K, h1, h2⟩ := ih
      refine ⟨K + (f k).natAbs, by omega, fun j hj => ?_⟩
      rcases Nat.lt_or_eq_of_le (Nat.lt_succ_iff.1 hj) with h | rfl
      · have := h2 j h; omega
      · omega
  induction s with
  | zero => exact ⟨1, Nat.le_refl _, fun i hi => by omega⟩
  | succ s ih =>
    obtain ⟨K, h1, h2⟩ := ih
    obtain ⟨L, h3, h4⟩ := one k (V s)
    refine ⟨K + L, by omega, fun i hi j hj => ?_⟩
    rcases Nat.lt_or_eq_of_le (Nat.lt_succ_iff.1 hi) with h | rfl
    · have := h2 i h j hj; omega
    · have := h4 j hj; omega
/-- k + 1 vectors of k numbers depend on each other. -/
theorem any_rel (k : Nat) (V : Nat → Nat → Int) : ∃ y : Nat → Int, (∃ i, i < k + 1 ∧ y i ≠ 0) ∧ ∀ j, j < k → sumN (k + 1) (fun i => y i * V i j) = 0 := by
  obtain ⟨K, hK, hV⟩ := bounded (k + 1) k V
  obtain ⟨y, h1, _, h3⟩ := small_rel k K hK V hV
  exact ⟨y, h1, h3⟩
end Go.Proofs.Ytedkeobhcpbigaa
/- Spans over the rational numbers, in integers; primitive vectors; a bound on what elimination makes; reduced rows are unique. -/
namespace Go.Proofs.Ytedkeobhcpbigaa
/-- v is a rational combination of the s rows of M, as far as n columns go. -/
def InSpan (n s : Nat) (M : Nat → Nat → Int) (v : Nat → Int) : Prop := ∃ (d : Int) (c : Nat → Int), d ≠ 0 ∧ ∀ j, j < n → d * v j = sumN s (fun i => c i * M i j)
theorem span_row {n s : Nat} {M : Nat → Nat → Int} {i : Nat} (h : i < s) : InSpan n s M (M i) :=
  ⟨1, fun t => if t = i then 1 else 0, by decide, fun j _ => by
    rw [sumN_one h (fun t _ hne => by simp [hne])]
    simp⟩
theorem span_zero {n s : Nat} {M : Nat → Nat → Int} {v : Nat → Int} (h : ∀ j, j < n → v j = 0) : InSpan n s M v :=
  ⟨1, fun _ => 0, by decide, fun j hj => by rw [h j hj, sumN_zero (fun _ _ => by simp)]; rfl⟩
theorem span_congr {n s : Nat} {M : Nat → Nat → Int} {v w : Nat → Int} (h : InSpan n s M v) (e : ∀ j, j < n → w j = v j) : InSpan n s M w := by
  obtain ⟨d, c, h1, h2⟩ := h
  exact ⟨d, c, h1, fun j hj => by rw [e j hj]; exact h2 j hj⟩
theorem mul_ne {a b : Int} (ha : a ≠ 0) (hb : b ≠ 0) : a * b ≠ 0 := fun h => (Int.mul_eq_zero.1 h).elim ha hb
/-- A combination of two. -/
theorem span_comb {n s : Nat} {M : Nat → Nat → Int} {u v w : Nat → Int} (a b e : Int) (he : e ≠ 0) (hu : InSpan n s M u) (hv : InSpan n s M v) (hw : ∀ j, j < n → e * w j = a * u j + b * v j) : InSpan n s M w := by
  obtain ⟨d1, c1, h1, h2⟩ := hu
  obtain ⟨d2, c2, h3, h4⟩ := hv
  refine ⟨d1 * d2 * e, fun i => a * d2 * c1 i + b * d1 * c2 i, mul_ne (mul_ne h1 h3) he, fun j hj => ?_⟩
  have e1 := h2 j hj
  have e2 := h4 j hj
  have e3 := hw j hj
  have r1 : sumN s (fun i => (a * d2 * c1 i + b * d1 * c2 i) * M i j) = a * d2 * sumN s (fun i => c1 i * M i j) + b * d1 * sumN s (fun i => c2 i * M i j) := by
    rw [← sumN_mul, ← sumN_mul, ← sumN_add]
    exact sumN_congr fun i _ => by rw [Int.add_mul, Int.mul_assoc (a * d2), Int.mul_assoc (b * d1)]
  rw [r1, ← e1, ← e2, Int.mul_assoc (d1 * d2), e3, Int.mul_add]
  congr 1
  · calc d1 * d2 * (a * u j) = a * (d1 * d2 * u j) := by rw [Int.mul_left_comm]
      _ = a * d2 * (d1 * u j) := by rw [Int.mul_comm d1 d2, Int.mul_assoc d2, Int.mul_assoc a]
  · calc d1 * d2 * (b * v j) = b * (d1 * d2 * v j) := by rw [Int.mul_left_comm]
      _ = b * d1 * (d2 * v j) := by rw [Int.mul_assoc d1, Int.mul_assoc b]
/-- The span of vectors that are in the span. -/
theorem span_sum {n s : Nat} {M : Nat → Nat → Int} : ∀ (k : Nat) (P : Nat → Nat → Int) (c : Nat → Int), (∀ t, t < k → InSpan n s M (P t)) → InSpan n s M (fun j => sumN k (fun t => c t * P t j))
  | 0, P, c, _ => span_zero (fun _ _ => rfl)
  | k + 1, P, c, h => span_comb 1 (c k) 1 (by decide) (span_sum k P c (fun t ht => h t (by omega))) (h k (by omega)) (fun j _ => by rw [sumN]; simp)
theorem span_trans {n s k : Nat} {M P : Nat → Nat → Int} {v : Nat → Int} (h : InSpan n k P v) (hP : ∀ t, t < k → InSpan n s M (P t)) : InSpan n s M v := by
  obtain ⟨d, c, h1, h2⟩ := h
  exact span_comb 1 0 d h1 (span_sum k P c hP) (span_zero (v := fun _ => 0) (fun _ _ => rfl)) (fun j hj => by rw [h2 j hj]; simp)
/-- s + 1 vectors in the span of s rows depend on each other. -/
theorem span_rel {n s : Nat} {M : Nat → Nat → Int} (U : Nat → Nat → Int) (h : ∀ i, i < s + 1 → InSpan n s M (U i)) : ∃ z : Nat → Int, (∃ i, i < s + 1 ∧ z i ≠ 0) ∧ ∀ j, j < n → sumN (s + 1) (fun i => z i * U i j) = 0 := by
  have h' : ∀ i, ∃ p : Int × (Nat → Int), i < s + 1 → p.1 ≠ 0 ∧ ∀ j, j < n → p.1 * U i j = sumN s (fun t => p.2 t * M t j) := fun i => by
    by_cases hi : i < s + 1
    · obtain ⟨d, c, h1, h2⟩ := h i hi
      exact ⟨(d, c), fun _ => ⟨h1, h2⟩⟩
    · exact ⟨(0, fun _ => 0), fun h => absurd h hi⟩
  obtain ⟨p, hp⟩ := Classical.axiomOfChoice h'
  obtain ⟨y, ⟨i0, hi0, hy0⟩, hy⟩ := any_rel s (fun i t => (p i).2 t)
  refine ⟨fun i => y i * (p i).1, ⟨i0, hi0, mul_ne hy0 (hp i0 hi0).1⟩, fun j hj => ?_⟩
  have e1 : sumN (s + 1) (fun i => y i * (p i).1 * U i j) = sumN (s + 1) (fun i => sumN s (fun t => y i * (p i).2 t * M t j)) := sumN_congr fun i hi => by
    rw [Int.mul_assoc, (hp i hi).2 j hj, ← sumN_mul]
    exact sumN_congr fun t _ => (Int.mul_assoc _ _ _).symm
  rw [e1, sumN_swap]
  exact sumN_zero fun t ht => by rw [sumN_mulR, hy t ht, Int.zero_mul]
/-- Row a left out. -/
def skip (a : Nat) (M : Nat → Nat → Int) : Nat → Nat → Int := fun i => if i < a then M i else M (i + 1)
theorem sumN_skip (k a : Nat) (ha : a ≤ k) (f : Nat → Int) : sumN (k + 1) f = sumN k (fun i => if i < a then f i else f (i + 1)) + f a := by
  induction k with
  | zero =>
    obtain rfl : a = 0 := by omega
    simp [sumN]
  | succ k ih =>
    by_cases h : a = k + 1
    · subst h
      rw [sumN]
      congr 1
      exact sumN_congr fun i hi => by rw [if_pos hi]
    · rw [sumN, ih (by omega), sumN, if_neg (by omega)]
      omega
/-- If the rows depend on each other, one of them is not needed. -/
theorem span_drop {n k : Nat} {M : Nat → Nat → Int} {y : Nat → Int} {a : Nat} (ha : a < k + 1) (hy : y a ≠ 0) (h0 : ∀ j, j < n → sumN (k + 1) (fun i => y i * M i j) = 0) {v : Nat → Int} (h : InSpan n (k + 1) M v) : InSpan n k (skip a M) v := by
  obtain ⟨d, c, h1, h2⟩ := h
  refine ⟨y a * d, fun i => if i < a then y a * c i - c a * y i else y a * c (i + 1) - c a * y (i + 1), mul_ne hy h1, fun j hj => ?_⟩
  have e1 : sumN (k + 1) (fun i => (y a * c i - c a * y i) * M i j) = y a * (d * v j) := by
    have : sumN (k + 1) (fun i => (y a * c i - c a * y i) * M i j) = y a * sumN (k + 1) (fun i => c i * M i j) - c a * sumN (k + 1) (fun i => y i * M i j) := by
      rw [← sumN_mul, ← sumN_mul, ← sumN_sub]
      exact sumN_congr fun i _ => by rw [Int.sub_mul, Int.mul_assoc, Int.mul_assoc]
    rw [this, h0 j hj, ← h2 j hj]
    omega
  rw [sumN_skip k a (by omega)] at e1
  rw [Int.mul_assoc, ← e1, Int.mul_comm (y a) (c a), Int.sub_self, Int.zero_mul, Int.add_zero]
  exact sumN_congr fun i _ => by
    unfold skip
    by_cases hi : i < a
    · simp only [hi, if_true]
    · simp only [hi, if_false]
/-! ### Primitive vectors -/
/-- The greatest common divisor of the first n. -/
def gcdN : Nat → (Nat → Int) → Nat
  | 0, _ => 0
  | n + 1, v => Int.gcd (gcdN n v) (v n)
theorem gcdN_dvd {n : Nat} {v : Nat → Int} : ∀ j, j < n → (gcdN n v : Int) ∣ v j := by
  induction n with
  | zero => intro j hj; omega
  | succ n ih =>
    intro j hj
    rcases Nat.lt_or_eq_of_le (Nat.lt_succ_iff.1 hj) with h | rfl
    · exact Int.dvd_trans (Int.gcd_dvd_left _ _) (ih j h)
    · exact Int.gcd_dvd_right _ _
theorem dvd_gcdN {n : Nat} {v : Nat → Int} {b : Int} (h : ∀ j, j < n → b ∣ v j) : b ∣ (gcdN n v : Int) := by
  induction n with
  | zero => exact Int.dvd_zero b
  | succ n ih => exact Int.dvd_coe_gcd (ih fun j hj => h j (by omega)) (h n (by omega))
theorem gcdN_mul (n : Nat) (a : Int) (v : Nat → Int) : gcdN n (fun j => a * v j) = a.natAbs * gcdN n v := by
  induction n with
  | zero => simp [gcdN]
  | succ n ih =>
    rw [gcdN, gcdN, ih]
    have : ((a.natAbs * gcdN n v : Nat) : Int) = (a.natAbs : Int) * (gcdN n v : Int) := by simp
    rw [this]
    have e2 : Int.gcd ((a.natAbs : Int) * (gcdN n v : Int)) (a * v n) = Int.gcd (a * (gcdN n v : Int)) (a * v n) := by
      simp [Int.gcd, Int.natAbs_mul]
    rw [e2, Int.gcd_mul_left]
def Prim (n : Nat) (v : Nat → Int) : Prop := gcdN n v = 1
theorem Prim.dvd {n : Nat} {v : Nat → Int} (h : Prim n v) {a b : Int} (hb : ∀ j, j < n → b ∣ a * v j) : b ∣ a := by
  have h1 := dvd_gcdN hb
  rw [gcdN_mul, h, Nat.mul_one] at h1
  exact Int.dvd_natAbs.1 h1
theorem Prim.ne {n : Nat} {v : Nat → Int} (h : Prim n v) : ∃ j, j < n ∧ v j ≠ 0 := by
  rcases Classical.em (∃ j, j < n ∧ v j ≠ 0) with h1 | h1
  · exact h1
  · have h2 := dvd_gcdN (n := n) (v := v) (b := 0) (fun j hj => by
      rcases Classical.em (v j = 0) with h3 | h3
      · rw [h3]; exact Int.dvd_refl 0
      · exact absurd ⟨j, hj, h3⟩ h1)
    rw [h] at h2
    exact absurd (Int.zero_dvd.1 h2) (by decide)
/-- Parallel to a primitive vector: a multiple of it. -/
theorem Prim.mult {n : Nat} {v w : Nat → Int} (h : Prim n v) {a b : Int} (hb : b ≠ 0) (he : ∀ j, j < n → a * v j = b * w j) : ∃ q, ∀ j, j < n → w j = q * v j := by
  obtain ⟨q, hq⟩ := h.dvd (fun j hj => ⟨w j, he j hj⟩)
  refine ⟨q, fun j hj => ?_⟩
  have := he j hj
  rw [hq, Int.mul_assoc] at this
  exact (Int.eq_of_mul_eq_mul_left hb this).symm
/-! ### The bound -/
/-- What elimination makes is small: a primitive vector in the span of k + 1 rows that is 0 in k pivots' columns. -/
theorem elim_bound {n k K N : Nat} (hK : 1 ≤ K) {M : Nat → Nat → Int} {P : Nat → Nat → Int} {c : Nat → Nat} {v : Nat → Int} (hc : ∀ t, t < k → c t < n)
    (hM : ∀ i, i < k + 1 → ∀ t, t < k → -(K : Int) ≤ M i (c t) ∧ M i (c t) ≤ K) {j1 : Nat} (hj1 : j1 < n) (hN : ∀ i, i < k + 1 → -(N : Int) ≤ M i j1 ∧ M i j1 ≤ N)
    (hP : ∀ t, t < k → InSpan n (k + 1) M (P t)) (hd : ∀ t, t < k → P t (c t) ≠ 0) (hz : ∀ t, t < k → ∀ u, u < k → u ≠ t → P t (c u) = 0)
    (hv : InSpan n (k + 1) M v) (hvz : ∀ t, t < k → v (c t) = 0) (hp : Prim n v) :
    -((((k + 1) * ((K * (k + 1)) ^ k * N) : Nat)) : Int) ≤ v j1 ∧ v j1 ≤ (((k + 1) * ((K * (k + 1)) ^ k * N) : Nat) : Int) := by
  obtain ⟨j0, hj0, hv0⟩ := hp.ne
  obtain ⟨y, ⟨a, ha, hya⟩, hyb, hy⟩ := small_rel k K hK (fun i t => M i (c t)) hM
  let w : Nat → Int := fun j => sumN (k + 1) (fun i => y i * M i j)
  have hwb : -((((k + 1) * ((K * (k + 1)) ^ k * N) : Nat)) : Int) ≤ w j1 ∧ w j1 ≤ (((k + 1) * ((K * (k + 1)) ^ k * N) : Nat) : Int) := by
    have := sumN_bd (k := k + 1) (f := fun i => y i * M i j1) (B := (((K * (k + 1)) ^ k : Nat) : Int) * (N : Int)) (fun i hi => by
      have h1 := hyb i hi
      have h2 := hN i hi
      have h3 : (y i * M i j1).natAbs ≤ (K * (k + 1)) ^ k * N := by
        rw [Int.natAbs_mul]
        exact Nat.mul_le_mul (by omega) (by omega)
      have h4 : ((((K * (k + 1)) ^ k * N : Nat)) : Int) = (((K * (k + 1)) ^ k : Nat) : Int) * (N : Int) := Int.natCast_mul _ _
      rw [← h4]
      omega)
    have h5 : (((k + 1) * ((K * (k + 1)) ^ k * N) : Nat) : Int) = ((k + 1 : Nat) : Int) * ((((K * (k + 1)) ^ k : Nat) : Int) * (N : Int)) := by rw [Int.natCast_mul, Int.natCast_mul]
    rw [h5]
    exact this
  -- the pivots alone and v: nothing but 0 is left of a relation
  have key : ∀ (s : Nat) (M' : Nat → Nat → Int), s = k → (∀ t, t < k → InSpan n s M' (P t)) → InSpan n s M' v → False := by
    intro s M' hs hP' hv'
    subst hs
    obtain ⟨z, ⟨i, hi, hzi⟩, hz0⟩ := span_rel (fun i => if i < s then P i else v) (fun i hi => by
      by_cases h : i < s
      · simp only [h, if_true]; exact hP' i h
      · simp only [h, if_false]; exact hv')
    have hzt : ∀ t, t < s → z t = 0 := fun t ht => by
      have h1 := hz0 (c t) (hc t ht)
      rw [sumN, sumN_one ht (fun u hu hne => by rw [if_pos hu, hz u hu t ht (fun e => hne e.symm), Int.mul_zero])] at h1
      simp only [ht, if_true, Nat.lt_irrefl, if_false, hvz t ht, Int.mul_zero, Int.add_zero] at h1
      exact (Int.mul_eq_zero.1 h1).resolve_right (hd t ht)
    have h2 := hz0 j0 hj0
    rw [sumN, sumN_zero (fun t ht => by rw [hzt t ht, Int.zero_mul])] at h2
    simp only [Nat.lt_irrefl, if_false, Int.zero_add] at h2
    have h3 := (Int.mul_eq_zero.1 h2).resolve_right hv0
    rcases Nat.lt_or_eq_of_le (Nat.lt_succ_iff.1 hi) with h4 | h4
    · exact hzi (hzt i h4)
    · subst h4; exact hzi h3
  have hwz : ∃ j, j < n ∧ w j ≠ 0 := by
    rcases Classical.em (∃ j, j < n ∧ w j ≠ 0) with h | h
    · exact h
    · have h0 : ∀ j, j < n → sumN (k + 1) (fun i => y i * M i j) = 0 := fun j hj => by
        rcases Classical.em (w j = 0) with h1 | h1
        · exact h1
        · exact absurd ⟨j, hj, h1⟩ h
      exact absurd (key k (skip a M) rfl (fun t ht => span_drop ha hya h0 (hP t ht)) (span_drop ha hya h0 hv)) id
  have hws : InSpan n (k + 1) M w := ⟨1, y, by decide, fun j _ => by rw [Int.one_mul]⟩
  have hwc : ∀ t, t < k → w (c t) = 0 := fun t ht => hy t ht
  obtain ⟨z, ⟨i, hi, hzi⟩, hz0⟩ := span_rel (n := n) (s := k + 1) (M := M) (fun i => if i < k then P i else if i = k then v else w) (fun i hi => by
    by_cases h : i < k
    · simp only [h, if_true]; exact hP i h
    · by_cases h2 : i = k
      · subst h2; simp only [Nat.lt_irrefl, if_false, if_true]; exact hv
      · simp only [h, h2, if_false]; exact hws)
  have hzt : ∀ t, t < k → z t = 0 := fun t ht => by
    have h1 := hz0 (c t) (hc t ht)
    rw [sumN, sumN, sumN_one ht (fun u hu hne => by rw [if_pos hu, hz u hu t ht (fun e => hne e.symm), Int.mul_zero])] at h1
    have n1 : ¬ k + 1 < k := by omega
    have n2 : ¬ k + 1 = k := by omega
    simp only [ht, if_true, Nat.lt_irrefl, if_false, hvz t ht, hwc t ht, Int.mul_zero, Int.add_zero, n1, n2] at h1
    exact (Int.mul_eq_zero.1 h1).resolve_right (hd t ht)
  have hrel : ∀ j, j < n → z k * v j = -(z (k + 1)) * w j := fun j hj => by
    have h2 := hz0 j hj
    have n1 : ¬ k + 1 < k := by omega
    have n2 : ¬ k + 1 = k := by omega
    rw [sumN, sumN, sumN_zero (fun t ht => by rw [hzt t ht, Int.zero_mul])] at h2
    simp only [Nat.lt_irrefl, if_false, if_true, Int.zero_add, n1, n2] at h2
    rw [Int.neg_mul]
    omega
  have hzw : z (k + 1) ≠ 0 := fun h => by
    have h3 := hrel j0 hj0
    rw [h] at h3
    simp only [Int.neg_zero, Int.zero_mul] at h3
    have h4 := (Int.mul_eq_zero.1 h3).resolve_right hv0
    rcases Nat.lt_or_ge i k with h5 | h5
    · exact hzi (hzt i h5)
    · rcases Nat.lt_or_eq_of_le h5 with h6 | h6
      · exact hzi (by rw [show i = k + 1 by omega]; exact h)
      · subst h6; exact hzi h4
  obtain ⟨q, hq⟩ := hp.mult (b := -(z (k + 1))) (by omega) hrel
  have hq0 : q ≠ 0 := fun h => by
    obtain ⟨j, hj, hwj⟩ := hwz
    exact hwj (by rw [hq j hj, h, Int.zero_mul])
  have h1 := hwb
  rw [hq j1 hj1] at h1
  have h2 : (v j1).natAbs ≤ (q * v j1).natAbs := by
    rw [Int.natAbs_mul]
    exact Nat.le_mul_of_pos_left _ (by omega)
  omega
end Go.Proofs.Ytedkeobhcpbigaa
/- Reduced rows: what they are, and that they are unique for their span. Plain mathematics. -/
namespace Go.Proofs.Ytedkeobhcpbigaa
/-- r rows in reduced form, row i beginning in column l i. -/
structure Red (n r : Nat) (E : Nat → Nat → Int) (l : Nat → Nat) : Prop where
  lt : ∀ i, i < r → l i < n
  mono : ∀ i j, i < j → j < r → l i < l j
  pos : ∀ i, i < r → 0 < E i (l i)
  before : ∀ i, i < r → ∀ j, j < l i → E i j = 0
  off : ∀ i, i < r → ∀ t, t < r → t ≠ i → E t (l i) = 0
  prim : ∀ i, i < r → Prim n (E i)
theorem Red.coef {n r : Nat} {E : Nat → Nat → Int} {l : Nat → Nat} (h : Red n r E l) {c : Nat → Int} {i : Nat} (hi : i < r) : sumN r (fun t => c t * E t (l i)) = c i * E i (l i) :=
  sumN_one hi fun t ht hne => by rw [h.off i hi t ht hne, Int.mul_zero]
/-- A vector of the span begins where a row begins. -/
theorem Red.lead {n r : Nat} {E : Nat → Nat → Int} {l : Nat → Nat} (h : Red n r E l) {v : Nat → Int} (hv : InSpan n r E v) {c : Nat} (hc : c < n) (h0 : ∀ j, j < c → v j = 0) (h1 : v c ≠ 0) : ∃ i, i < r ∧ l i = c := by
  rcases Classical.em (∃ i, i < r ∧ l i = c) with h2 | h2
  · exact h2
  · obtain ⟨d, a, hd, ha⟩ := hv
    have ha0 : ∀ i, i < r → l i < c → a i = 0 := fun i hi hl => by
      have h3 := ha (l i) (h.lt i hi)
      rw [h0 _ hl, Int.mul_zero, h.coef hi] at h3
      exact (Int.mul_eq_zero.1 h3.symm).resolve_right (by have := h.pos i hi; omega)
    have h4 := ha c hc
    rw [sumN_zero (fun i hi => by
      rcases Nat.lt_trichotomy (l i) c with h5 | h5 | h5
      · rw [ha0 i hi h5, Int.zero_mul]
      · exact absurd ⟨i, hi, h5⟩ h2
      · rw [h.before i hi c h5, Int.mul_zero])] at h4
    exact absurd ((Int.mul_eq_zero.1 h4).resolve_left hd) h1
/-- A vector of the span that is 0 wherever a row begins is 0. -/
theorem Red.null {n r : Nat} {E : Nat → Nat → Int} {l : Nat → Nat} (h : Red n r E l) {v : Nat → Int} (hv : InSpan n r E v) (h0 : ∀ i, i < r → v (l i) = 0) : ∀ j, j < n → v j = 0 := by
  obtain ⟨d, a, hd, ha⟩ := hv
  have ha0 : ∀ i, i < r → a i = 0 := fun i hi => by
    have h3 := ha (l i) (h.lt i hi)
    rw [h0 i hi, Int.mul_zero, h.coef hi] at h3
    exact (Int.mul_eq_zero.1 h3.symm).resolve_right (by have := h.pos i hi; omega)
  intro j hj
  have h4 := ha j hj
  rw [sumN_zero (fun i hi => by rw [ha0 i hi, Int.zero_mul])] at h4
  exact (Int.mul_eq_zero.1 h4).resolve_left hd
theorem leads_eq {r r' : Nat} {l l' : Nat → Nat} (hm : ∀ i j, i < j → j < r → l i < l j) (hm' : ∀ i j, i < j → j < r' → l' i < l' j) (h1 : ∀ i, i < r → ∃ t, t < r' ∧ l' t = l i) (h2 : ∀ i, i < r' → ∃ t, t < r ∧ l t = l' i) :
    ∀ i, (i < r → i < r' ∧ l' i = l i) ∧ (i < r' → i < r ∧ l i = l' i) := by
  intro i
  induction i using Nat.strongRecOn with
  | ind i ih =>
    constructor
    · intro hi
      obtain ⟨t, ht, he⟩ := h1 i hi
      rcases Nat.lt_trichotomy t i with h3 | h3 | h3
      · have h4 := (ih t h3).2 ht
        have h5 := hm t i h3 hi
        omega
      · subst h3; exact ⟨ht, he⟩
      · have h4 : l' i < l i := by have := hm' i t h3 ht; omega
        obtain ⟨u, hu, he2⟩ := h2 i (by omega)
        rcases Nat.lt_trichotomy u i with h5 | h5 | h5
        · have h6 := (ih u h5).1 hu
          have h7 := hm' u i h5 (by omega)
          omega
        · subst h5; omega
        · have h6 := hm i u h5 hu; omega
    · intro hi
      obtain ⟨t, ht, he⟩ := h2 i hi
      rcases Nat.lt_trichotomy t i with h3 | h3 | h3
      · have h4 := (ih t h3).1 ht
        have h5 := hm' t i h3 hi
        omega
      · subst h3; exact ⟨ht, he⟩
      · have h4 : l i < l' i := by have := hm i t h3 ht; omega
        obtain ⟨u, hu, he2⟩ := h1 i (by omega)
        rcases Nat.lt_trichotomy u i with h5 | h5 | h5
        · have h6 := (ih u h5).2 hu
          have h7 := hm u i h5 (by omega)
          omega
        · subst h5; omega
        · have h6 := hm' i u h5 hu; omega
/-- Two reduced forms of one span are one. -/
theorem red_unique {n r r' : Nat} {E E' : Nat → Nat → Int} {l l' : Nat → Nat} (h : Red n r E l) (h' : Red n r' E' l') (hs : ∀ i, i < r → InSpan n r' E' (E i)) (hs' : ∀ i, i < r' → InSpan n r E (E' i)) :
    r = r' ∧ ∀ i, i < r → l i = l' i ∧ ∀ j, j < n → E i j = E' i j := by
  have hl := leads_eq h.mono h'.mono (fun i hi => h'.lead (hs i hi) (h.lt i hi) (h.before i hi) (by have := h.pos i hi; omega)) (fun i hi => h.lead (hs' i hi) (h'.lt i hi) (h'.before i hi) (by have := h'.pos i hi; omega))
  have hr : r = r' := by
    rcases Nat.lt_trichotomy r r' with h1 | h1 | h1
    · have := ((hl r).2 h1).1; omega
    · exact h1
    · have := ((hl r').1 h1).1; omega
  subst hr
  refine ⟨rfl, fun i hi => ⟨((hl i).2 hi).2, ?_⟩⟩
  have hli : l' i = l i := ((hl i).1 hi).2
  have hw : ∀ j, j < n → E' i (l i) * E i j + -(E i (l i)) * E' i j = 0 := by
    refine h.null (v := fun j => E' i (l i) * E i j + -(E i (l i)) * E' i j) (span_comb (E' i (l i)) (-(E i (l i))) 1 (by decide) (span_row hi) (hs' i hi) (fun j _ => Int.one_mul _)) (fun t ht => ?_)
    by_cases e : t = i
    · subst e
      simp only [Int.neg_mul]
      rw [Int.mul_comm]
      omega
    · have e1 : E i (l t) = 0 := h.off t ht i hi (fun x => e x.symm)
      have e2 : E' i (l t) = 0 := by
        have := h'.off t ht i hi (fun x => e x.symm)
        rwa [((hl t).1 ht).2] at this
      simp only [e1, e2, Int.mul_zero]
      rfl
  have hp := h.pos i hi
  have hp' := h'.pos i hi
  rw [hli] at hp'
  obtain ⟨q, hq⟩ := (h.prim i hi).mult (a := E' i (l i)) (b := E i (l i)) (w := E' i) (by omega) (fun j hj => by have := hw j hj; rw [Int.neg_mul] at this; omega)
  have hq1 : q ∣ 1 := by
    have := dvd_gcdN (n := n) (v := E' i) (b := q) (fun j hj => ⟨E i j, hq j hj⟩)
    rw [h'.prim i hi] at this
    exact this
  have hqp : 0 < q := by
    have h3 := hq (l i) (h.lt i hi)
    rcases Int.lt_or_le 0 q with h4 | h4
    · exact h4
    · have : q * E i (l i) ≤ 0 * E i (l i) := Int.mul_le_mul_of_nonneg_right h4 (by omega)
      omega
  have hq2 : q = 1 := Int.eq_one_of_dvd_one (by omega) hq1
  intro j hj
  rw [hq j hj, hq2, Int.one_mul]
end Go.Proofs.Ytedkeobhcpbigaa
/- Rows without a common divisor: how a row is made tidy, and that this is unique. Plain mathematics. -/
namespace Go.Proofs.Ytedkeobhcpbigaa
/-- The vector of a list. -/
def vec (z : List Int) : Nat → Int := fun j => z.getD j 0
theorem vec_ext {z y : List Int} (hl : z.length = y.length) (h : ∀ j, j < z.length → vec z j = vec y j) : z = y := by
  apply List.ext_getElem hl
  intro i h1 h2
  have := h i h1
  simpa [vec, List.getD, h1, h2] using this
theorem vec_beyond {z : List Int} {j : Nat} (h : z.length ≤ j) : vec z j = 0 := by simp [vec, List.getD, h]
theorem vec_map {n : Nat} {f : Nat → Int} {j : Nat} (h : j < n) : vec ((List.range n).map f) j = f j := by simp [vec, List.getD, h]
theorem vec_mapL {z : List Int} {f : Int → Int} {j : Nat} (h : j < z.length) : vec (z.map f) j = f (vec z j) := by simp [vec, List.getD, h]
/-- The first place from a on where f is not 0; a + d if there is none. -/
def findA (f : Nat → Int) : Nat → Nat → Nat
  | 0, a => a
  | d + 1, a => if f a = 0 then findA f d (a + 1) else a
theorem findA_eq {f : Nat → Int} : ∀ {d a p : Nat}, a ≤ p → p ≤ a + d → (∀ i, a ≤ i → i < p → f i = 0) → (p = a + d ∨ f p ≠ 0) → findA f d a = p
  | 0, a, p, h1, h2, _, _ => by unfold findA; omega
  | d + 1, a, p, h1, h2, h3, h4 => by
    unfold findA
    by_cases h : f a = 0
    · rw [if_pos h]
      have hne : a ≠ p := by
        rintro rfl
        rcases h4 with h4 | h4
        · omega
        · exact h4 h
      exact findA_eq (by omega) (by omega) (fun i hi => h3 i (by omega)) (h4.imp (fun e => by omega) id)
    · rw [if_neg h]
      rcases Nat.lt_or_ge a p with h5 | h5
      · exact absurd (h3 a (Nat.le_refl _) h5) h
      · omega
theorem findA_spec (f : Nat → Int) : ∀ d a, a ≤ findA f d a ∧ findA f d a ≤ a + d ∧ (∀ i, a ≤ i → i < findA f d a → f i = 0) ∧ (findA f d a = a + d ∨ f (findA f d a) ≠ 0)
  | 0, a => ⟨Nat.le_refl _, Nat.le_refl _, fun i h1 h2 => by unfold findA at h2; omega, .inl rfl⟩
  | d + 1, a => by
    unfold findA
    by_cases h : f a = 0
    · rw [if_pos h]
      obtain ⟨h1, h2, h3, h4⟩ := findA_spec f d (a + 1)
      refine ⟨by omega, by omega, fun i hi hi2 => ?_, h4.imp (fun e => by omega) id⟩
      rcases Nat.lt_or_eq_of_le hi with h5 | rfl
      · exact h3 i h5 hi2
      · exact h
    · rw [if_neg h]
      exact ⟨Nat.le_refl _, by omega, fun i h1 h2 => by omega, .inr h⟩
/-- The place of the first integer that is not 0. -/
def leadL (z : List Int) : Nat := findA (vec z) z.length 0
theorem leadL_le (z : List Int) : leadL z ≤ z.length := by have := (findA_spec (vec z) z.length 0).2.1; unfold leadL; omega
theorem leadL_before {z : List Int} {j : Nat} (h : j < leadL z) : vec z j = 0 := (findA_spec (vec z) z.length 0).2.2.1 j (Nat.zero_le _) h
theorem leadL_at {z : List Int} (h : leadL z < z.length) : vec z (leadL z) ≠ 0 := by
  rcases (findA_spec (vec z) z.length 0).2.2.2 with h1 | h1
  · unfold leadL at h; omega
  · exact h1
theorem leadL_eq {z : List Int} {p : Nat} (h1 : p ≤ z.length) (h2 : ∀ j, j < p → vec z j = 0) (h3 : p = z.length ∨ vec z p ≠ 0) : leadL z = p :=
  findA_eq (Nat.zero_le _) (by omega) (fun i _ hi => h2 i hi) (h3.imp (fun e => by omega) id)
theorem leadL_all {z : List Int} (h : leadL z = z.length) (j : Nat) : vec z j = 0 := by
  rcases Nat.lt_or_ge j z.length with h1 | h1
  · exact leadL_before (by omega)
  · exact vec_beyond h1
theorem leadL_zero {z : List Int} (h : ∀ j, j < z.length → vec z j = 0) : leadL z = z.length := leadL_eq (Nat.le_refl _) h (.inl rfl)
/-- The greatest common divisor of a row, with the sign of its first integer that is not 0. -/
def divL (z : List Int) : Int := if vec z (leadL z) < 0 then -(gcdN z.length (vec z) : Int) else (gcdN z.length (vec z) : Int)
def tidyL (z : List Int) : List Int := if leadL z = z.length then z else z.map fun x => x.tdiv (divL z)
theorem tidyL_len (z : List Int) : (tidyL z).length = z.length := by unfold tidyL; split <;> simp
theorem gcdN_ne {n : Nat} {v : Nat → Int} {j : Nat} (hj : j < n) (h : v j ≠ 0) : gcdN n v ≠ 0 := fun e => by
  have := gcdN_dvd (v := v) j hj
  rw [e] at this
  exact h (Int.zero_dvd.1 this)
theorem divL_ne {z : List Int} (h : leadL z < z.length) : divL z ≠ 0 := by
  have := gcdN_ne h (leadL_at h)
  unfold divL
  split <;> omega
theorem divL_dvd {z : List Int} {j : Nat} (h : j < z.length) : divL z ∣ vec z j := by
  have := gcdN_dvd (v := vec z) j h
  unfold divL
  split
  · exact Int.neg_dvd.2 this
  · exact this
theorem tidyL_mul {z : List Int} (h : leadL z < z.length) {j : Nat} (hj : j < z.length) : divL z * vec (tidyL z) j = vec z j := by
  unfold tidyL
  rw [if_neg (by omega), vec_mapL hj]
  exact Int.mul_tdiv_cancel' (divL_dvd hj)
/-- 0 everywhere, or without a common divisor and beginning with a positive integer. -/
def Tidy (n : Nat) (v : Nat → Int) : Prop := (∀ j, j < n → v j = 0) ∨ (Prim n v ∧ ∃ l, l < n ∧ 0 < v l ∧ ∀ j, j < l → v j = 0)
theorem Tidy.congr {n : Nat} {u v : Nat → Int} (h : Tidy n u) (e : ∀ j, j < n → v j = u j) : Tidy n v := by
  rcases h with h | ⟨h1, l, h2, h3, h4⟩
  · exact .inl fun j hj => by rw [e j hj, h j hj]
  · refine .inr ⟨?_, l, h2, by rw [e l h2]; exact h3, fun j hj => by rw [e j (by omega), h4 j hj]⟩
    have : gcdN n v = gcdN n u := by
      clear h1 h2 h3 h4
      induction n with
      | zero => rfl
      | succ n ih => rw [gcdN, gcdN, ih (fun j hj => e j (by omega)), e n (by omega)]
    unfold Prim
    rw [this]
    exact h1
theorem Tidy.first {n : Nat} {v : Nat → Int} (h : Tidy n v) {l : Nat} (hl : l < n) (h0 : ∀ j, j < l → v j = 0) (h1 : v l ≠ 0) : 0 < v l ∧ Prim n v := by
  rcases h with h | ⟨hp, m, h2, h3, h4⟩
  · exact absurd (h l hl) h1
  · rcases Nat.lt_trichotomy l m with h5 | h5 | h5
    · exact absurd (h4 l h5) h1
    · subst h5; exact ⟨h3, hp⟩
    · have := h0 m h5; omega
theorem tidyL_tidy (z : List Int) : Tidy z.length (vec (tidyL z)) := by
  rcases Nat.lt_or_eq_of_le (leadL_le z) with h | h
  · refine .inr ⟨?_, leadL z, h, ?_, fun j hj => ?_⟩
    · have e : gcdN z.length (vec z) = (divL z).natAbs * gcdN z.length (vec (tidyL z)) := by
        rw [← gcdN_mul]
        have : ∀ n, n ≤ z.length → gcdN n (vec z) = gcdN n (fun j => divL z * vec (tidyL z) j) := by
          intro n
          induction n with
          | zero => intro _; rfl
          | succ n ih => intro hn; rw [gcdN, gcdN, ih (by omega), tidyL_mul h (by omega)]
        exact this _ (Nat.le_refl _)
      have e2 : (divL z).natAbs = gcdN z.length (vec z) := by unfold divL; split <;> omega
      have e3 := gcdN_ne h (leadL_at h)
      rw [e2] at e
      unfold Prim
      have : gcdN z.length (vec z) * 1 = gcdN z.length (vec z) * gcdN z.length (vec (tidyL z)) := by rw [Nat.mul_one]; exact e
      exact (Nat.eq_of_mul_eq_mul_left (by omega) this).symm
    · have e := tidyL_mul h h
      have e1 := leadL_at h
      generalize vec (tidyL z) (leadL z) = t at e ⊢
      have e3 := gcdN_ne h e1
      have e2 : (0 < divL z ∧ 0 < vec z (leadL z)) ∨ (divL z < 0 ∧ vec z (leadL z) < 0) := by
        unfold divL
        split <;> omega
      rcases e2 with ⟨e4, e5⟩ | ⟨e4, e5⟩
      · rw [← e] at e5
        exact Int.pos_of_mul_pos_right e5 (by omega)
      · rw [← e] at e5
        have e6 : 0 < -(divL z) * t := by rw [Int.neg_mul]; omega
        exact Int.pos_of_mul_pos_right e6 (by omega)
    · have e := tidyL_mul h (j := j) (by omega)
      rw [leadL_before hj] at e
      exact (Int.mul_eq_zero.1 e).resolve_left (divL_ne h)
  · refine .inl fun j _ => ?_
    unfold tidyL
    rw [if_pos h]
    exact leadL_all h j
/-- A row is a multiple of its tidy one. -/
theorem tidyL_scale (z : List Int) : ∃ q : Int, q ≠ 0 ∧ ∀ j, j < z.length → q * vec (tidyL z) j = vec z j := by
  rcases Nat.lt_or_eq_of_le (leadL_le z) with h | h
  · exact ⟨divL z, divL_ne h, fun j hj => tidyL_mul h hj⟩
  · refine ⟨1, by decide, fun j _ => ?_⟩
    unfold tidyL
    rw [if_pos h, Int.one_mul]
theorem tidy_uniq {n : Nat} {u v : Nat → Int} (hu : Tidy n u) (hv : Tidy n v) {a b : Int} (ha : a ≠ 0) (hb : b ≠ 0) (h : ∀ j, j < n → a * u j = b * v j) : ∀ j, j < n → u j = v j := by
  intro j hj
  rcases hu with hu | ⟨pu, l, hl, hl1, hl2⟩
  · have := h j hj
    rw [hu j hj, Int.mul_zero] at this
    rw [hu j hj, (Int.mul_eq_zero.1 this.symm).resolve_left hb]
  · rcases hv with hv | ⟨pv, m, hm, hm1, hm2⟩
    · have := h j hj
      rw [hv j hj, Int.mul_zero] at this
      rw [hv j hj, (Int.mul_eq_zero.1 this).resolve_left ha]
    · obtain ⟨q, hq⟩ := pu.mult hb h
      have hlm : l = m := by
        rcases Nat.lt_trichotomy l m with h1 | h1 | h1
        · have e1 := h l hl
          rw [hm2 l h1, Int.mul_zero] at e1
          have := (Int.mul_eq_zero.1 e1).resolve_left ha
          omega
        · exact h1
        · have e1 := h m hm
          rw [hl2 m h1, Int.mul_zero] at e1
          have := (Int.mul_eq_zero.1 e1.symm).resolve_left hb
          omega
      subst hlm
      have hq0 : 0 < q := by
        have := hq l hl
        rw [this] at hm1
        exact Int.pos_of_mul_pos_left hm1 (by omega)
      have hg : gcdN n v = q.natAbs * gcdN n u := by
        rw [← gcdN_mul]
        have : ∀ k, k ≤ n → gcdN k v = gcdN k (fun j => q * u j) := by
          intro k
          induction k with
          | zero => intro _; rfl
          | succ k ih => intro hk; rw [gcdN, gcdN, ih (by omega), hq k (by omega)]
        exact this n (Nat.le_refl _)
      rw [pv, pu, Nat.mul_one] at hg
      rw [hq j hj, show q = 1 by omega, Int.one_mul]
/-- Rows that are multiples of each other become the same tidy row. -/
theorem tidyL_same {z y : List Int} (hl : z.length = y.length) {a b : Int} (ha : a ≠ 0) (hb : b ≠ 0) (h : ∀ j, j < z.length → a * vec z j = b * vec y j) : tidyL z = tidyL y := by
  refine vec_ext (by rw [tidyL_len, tidyL_len, hl]) fun j hj => ?_
  rw [tidyL_len] at hj
  obtain ⟨q, hq, e1⟩ := tidyL_scale z
  obtain ⟨r, hr, e2⟩ := tidyL_scale y
  refine tidy_uniq (n := z.length) (tidyL_tidy z) (by rw [hl]; exact tidyL_tidy y) (a := a * q) (b := b * r) (mul_ne ha hq) (mul_ne hb hr) (fun i hi => ?_) j hj
  rw [Int.mul_assoc, e1 i hi, Int.mul_assoc, e2 i (by omega)]
  exact h i hi
theorem tidyL_id {z : List Int} (h : Tidy z.length (vec z)) : tidyL z = z := by
  refine vec_ext (tidyL_len z) fun j hj => ?_
  rw [tidyL_len] at hj
  obtain ⟨q, hq, e1⟩ := tidyL_scale z
  exact tidy_uniq (n := z.length) (tidyL_tidy z) h hq (b := 1) (by decide) (fun i hi => by rw [Int.one_mul]; exact e1 i hi) j hj
theorem tidyL_idem (z : List Int) : tidyL (tidyL z) = tidyL z := tidyL_id (by rw [tidyL_len]; exact tidyL_tidy z)
/-- The multiple of row a and that of row p that take each other away in column k. -/
def combL (a p : List Int) (k : Nat) : List Int := (List.range a.length).map fun i => vec a i * vec p k - vec p i * vec a k
theorem combL_len (a p : List Int) (k : Nat) : (combL a p k).length = a.length := by simp [combL]
theorem combL_at {a p : List Int} {k j : Nat} (h : j < a.length) : vec (combL a p k) j = vec a j * vec p k - vec p j * vec a k := vec_map h
def clearL (a p : List Int) (k : Nat) : List Int := tidyL (combL a p k)
theorem clearL_len (a p : List Int) (k : Nat) : (clearL a p k).length = a.length := by rw [clearL, tidyL_len, combL_len]
/-- A row is cleared alike whether it was made tidy before or not. -/
theorem clearL_tidy {a b p : List Int} {k : Nat} (hl : a.length = b.length) (h : tidyL a = tidyL b) (hk : k < a.length) : clearL a p k = clearL b p k := by
  obtain ⟨q, hq, e1⟩ := tidyL_scale a
  obtain ⟨r, hr, e2⟩ := tidyL_scale b
  have key : ∀ j, j < a.length → r * vec a j = q * vec b j := fun j hj => by
    rw [← e1 j hj, ← e2 j (by omega), h, Int.mul_left_comm]
  refine tidyL_same (by rw [combL_len, combL_len, hl]) hr hq fun j hj => ?_
  rw [combL_len] at hj
  rw [combL_at hj, combL_at (by omega), Int.mul_sub, Int.mul_sub, ← Int.mul_assoc r, key j hj, Int.mul_assoc q, Int.mul_left_comm r, key k hk, Int.mul_left_comm (vec p j) q]
/-- A row that is 0 in column k stays, made tidy. -/
theorem clearL_zero {a p : List Int} {k : Nat} (h : vec a k = 0) (hp : vec p k ≠ 0) : clearL a p k = tidyL a := by
  refine tidyL_same (combL_len a p k) (a := 1) (by decide) hp fun j hj => ?_
  rw [combL_len] at hj
  rw [combL_at hj, h, Int.mul_zero, Int.sub_zero, Int.one_mul, Int.mul_comm]
end Go.Proofs.Ytedkeobhcpbigaa
/- Elimination: what stays true from step to step, and how small the numbers stay. Plain mathematics. -/
namespace Go.Proofs.Ytedkeobhcpbigaa
/-- After column k: r pivots, in the columns c; row i stems from row o i. -/
structure Elim (n q s : Nat) (M R : Nat → Nat → Int) (r k : Nat) (c o : Nat → Nat) : Prop where
  rs : r ≤ s
  rk : r ≤ k
  kq : k ≤ q
  qn : q ≤ n
  mono : ∀ i j, i < j → j < r → c i < c j
  ck : ∀ t, t < r → c t < k
  pos : ∀ t, t < r → 0 < R t (c t)
  off : ∀ t, t < r → ∀ i, i < s → i ≠ t → R i (c t) = 0
  before : ∀ t, t < r → ∀ j, j < c t → R t j = 0
  below : ∀ i, r ≤ i → i < s → ∀ j, j < k → R i j = 0
  tidy : ∀ i, i < s → Tidy n (R i)
  olt : ∀ i, i < s → o i < s
  span1 : ∀ t, t < r → InSpan n r (fun u => M (o u)) (R t)
  span2 : ∀ i, r ≤ i → i < s → InSpan n (r + 1) (fun u => if u < r then M (o u) else M (o i)) (R i)
  all : ∀ i, i < s → InSpan n s R (M i)
/-- The rows as they stand, each made tidy. -/
theorem elim_start {n q s : Nat} {M R : Nat → Nat → Int} (hq : q ≤ n) (ht : ∀ i, i < s → Tidy n (R i)) (hs : ∀ i, i < s → ∃ a : Int, a ≠ 0 ∧ ∀ j, j < n → a * R i j = M i j) : Elim n q s M R 0 0 (fun _ => 0) id where
  rs := Nat.zero_le _
  rk := Nat.le_refl _
  kq := Nat.zero_le _
  qn := hq
  mono := fun i j _ h => by omega
  ck := fun t h => by omega
  pos := fun t h => by omega
  off := fun t h => by omega
  before := fun t h => by omega
  below := fun i _ _ j h => by omega
  tidy := ht
  olt := fun i h => h
  span1 := fun t h => by omega
  span2 := fun i _ hi => by
    obtain ⟨a, ha, h⟩ := hs i hi
    refine ⟨a, fun _ => 1, ha, fun j hj => ?_⟩
    rw [h j hj]
    simp [sumN]
  all := fun i hi => by
    obtain ⟨a, ha, h⟩ := hs i hi
    exact span_comb a 0 1 (by decide) (span_row (M := R) hi) (span_zero (v := fun _ => 0) (fun _ _ => rfl)) (fun j hj => by rw [h j hj]; simp)
/-- A column without a pivot. -/
theorem Elim.pass {n q s : Nat} {M R : Nat → Nat → Int} {r k : Nat} {c o : Nat → Nat} (h : Elim n q s M R r k c o) (hk : k < q) (h0 : ∀ i, r ≤ i → i < s → R i k = 0) : Elim n q s M R r (k + 1) c o :=
  { h with
    rk := by have := h.rk; omega
    kq := hk
    ck := fun t ht => by have := h.ck t ht; omega
    below := fun i h1 h2 j hj => by
      rcases Nat.lt_or_eq_of_le (Nat.lt_succ_iff.1 hj) with h3 | rfl
      · exact h.below i h1 h2 j h3
      · exact h0 i h1 h2 }
def swp (r p i : Nat) : Nat := if i = r then p else if i = p then r else i
/-- A step with row p as the pivot. -/
theorem Elim.step {n q s : Nat} {M R R2 : Nat → Nat → Int} {r k p : Nat} {c o : Nat → Nat} (h : Elim n q s M R r k c o) (hk : k < q) (hp : r ≤ p) (hps : p < s) (hne : R p k ≠ 0)
    (hat : ∀ j, j < n → R2 r j = R p j)
    (hoth : ∀ i, i < s → i ≠ r → Tidy n (R2 i) ∧ ∃ a : Int, a ≠ 0 ∧ ∀ j, j < n → a * R2 i j = R (swp r p i) j * R p k - R p j * R (swp r p i) k) :
    Elim n q s M R2 (r + 1) (k + 1) (fun t => if t = r then k else c t) (fun i => o (swp r p i)) := by
  have hkn : k < n := by have := h.qn; omega
  have hrs : r < s := by omega
  have sw_lt : ∀ i, i < s → swp r p i < s := fun i hi => by unfold swp; split <;> (try split) <;> omega
  have sw_lo : ∀ t, t < r → swp r p t = t := fun t ht => by unfold swp; rw [if_neg (by omega), if_neg (by omega)]
  have sw_hi : ∀ i, r < i → i < s → r ≤ swp r p i := fun i hi _ => by unfold swp; split <;> (try split) <;> omega
  have sw_ne : ∀ i, i ≠ r → swp r p i ≠ p := fun i hi => by unfold swp; split <;> (try split) <;> omega
  have sw_r : swp r p r = p := by unfold swp; rw [if_pos rfl]
  have htp : Tidy n (R2 r) := (h.tidy p hps).congr hat
  have hbp := h.below p hp hps
  have hp0 : 0 < R p k := ((h.tidy p hps).first hkn (fun j hj => hbp j hj) hne).1
  have hzero : ∀ i, i < s → i ≠ r → ∀ j, j < n → R (swp r p i) j * R p k = R p j * R (swp r p i) k → R2 i j = 0 := fun i hi hir j hj e => by
    obtain ⟨_, a, ha, h1⟩ := hoth i hi hir
    have := h1 j hj
    rw [e, Int.sub_self] at this
    exact (Int.mul_eq_zero.1 this).resolve_left ha
  have hlow : ∀ i, i < s → i ≠ r → ∀ j, j < n → R p j = 0 → R (swp r p i) j = 0 → R2 i j = 0 := fun i hi hir j hj e1 e2 => hzero i hi hir j hj (by rw [e1, e2, Int.zero_mul, Int.zero_mul])
  have hcn : ∀ t, t < r → c t < n := fun t ht => by have := h.ck t ht; omega
  have hpc : ∀ t, t < r → R p (c t) = 0 := fun t ht => hbp _ (h.ck t ht)
  -- what the new rows' span holds
  have hsp1 : ∀ t, t < r → InSpan n (r + 1) (fun u => M (o (swp r p u))) (R t) := fun t ht => by
    obtain ⟨d, a, hd, e⟩ := h.span1 t ht
    refine ⟨d, fun u => if u < r then a u else 0, hd, fun j hj => ?_⟩
    rw [e j hj, sumN]
    simp only [Nat.lt_irrefl, if_false, Int.zero_mul, Int.add_zero]
    exact sumN_congr fun u hu => by rw [if_pos hu, sw_lo u hu]
  have hspp : InSpan n (r + 1) (fun u => M (o (swp r p u))) (R p) := by
    obtain ⟨d, a, hd, e⟩ := h.span2 p hp hps
    refine ⟨d, a, hd, fun j hj => ?_⟩
    rw [e j hj]
    exact sumN_congr fun u hu => by
      rcases Nat.lt_or_eq_of_le (Nat.lt_succ_iff.1 hu) with h1 | h1
      · simp only [h1, if_true, sw_lo u h1]
      · subst h1; simp only [Nat.lt_irrefl, if_false, sw_r]
  refine ⟨hrs, by have := h.rk; omega, hk, h.qn, ?_, ?_, ?_, ?_, ?_, ?_, ?_, ?_, ?_, ?_, ?_⟩
  · intro i j hij hj
    by_cases h1 : j = r
    · rw [if_neg (by omega), if_pos h1]; exact h.ck i (by omega)
    · rw [if_neg (by omega), if_neg h1]; exact h.mono i j hij (by omega)
  · intro t ht
    by_cases h1 : t = r
    · rw [if_pos h1]; omega
    · rw [if_neg h1]; have := h.ck t (by omega); omega
  · intro t ht
    by_cases h1 : t = r
    · subst h1; rw [if_pos rfl, hat k hkn]; exact hp0
    · have ht' : t < r := by omega
      rw [if_neg h1]
      obtain ⟨h2, a, ha, h3⟩ := hoth t (by omega) h1
      refine (h2.first (hcn t ht') (fun j hj => hlow t (by omega) h1 j (by have := hcn t ht'; omega) (hbp j (by have := h.ck t ht'; omega)) (by rw [sw_lo t ht']; exact h.before t ht' j hj)) (fun e => ?_)).1
      have := h3 (c t) (hcn t ht')
      rw [e, Int.mul_zero, sw_lo t ht', hpc t ht', Int.zero_mul, Int.sub_zero] at this
      exact mul_ne (by have := h.pos t ht'; omega) hne this.symm
  · intro t ht i hi hit
    by_cases h1 : t = r
    · subst h1
      rw [if_pos rfl]
      exact hzero i hi hit k hkn (by rw [Int.mul_comm])
    · have ht' : t < r := by omega
      rw [if_neg h1]
      by_cases h2 : i = r
      · subst h2; rw [hat _ (hcn t ht')]; exact hpc t ht'
      · refine hlow i hi h2 _ (hcn t ht') (hpc t ht') (h.off t ht' _ (sw_lt i hi) ?_)
        unfold swp
        split <;> (try split) <;> omega
  · intro t ht j hj
    by_cases h1 : t = r
    · subst h1
      rw [if_pos rfl] at hj
      rw [hat j (by omega)]
      exact hbp j hj
    · have ht' : t < r := by omega
      rw [if_neg h1] at hj
      have := h.ck t ht'
      exact hlow t (by omega) h1 j (by omega) (hbp j (by omega)) (by rw [sw_lo t ht']; exact h.before t ht' j hj)
  · intro i h1 h2 j hj
    have hir : i ≠ r := by omega
    rcases Nat.lt_or_eq_of_le (Nat.lt_succ_iff.1 hj) with h3 | rfl
    · exact hlow i h2 hir j (by omega) (hbp j h3) (h.below _ (sw_hi i (by omega) h2) (sw_lt i h2) j h3)
    · exact hzero i h2 hir j hkn (by rw [Int.mul_comm])
  · intro i hi
    by_cases h1 : i = r
    · subst h1; exact htp
    · exact (hoth i hi h1).1
  · intro i hi
    exact h.olt _ (sw_lt i hi)
  · intro t ht
    by_cases h1 : t = r
    · subst h1; exact span_congr hspp hat
    · have ht' : t < r := by omega
      obtain ⟨_, a, ha, h3⟩ := hoth t (by omega) h1
      rw [sw_lo t ht'] at h3
      exact span_comb (R p k) (-(R t k)) a ha (hsp1 t ht') hspp (fun j hj => by rw [h3 j hj, Int.neg_mul, Int.mul_comm (R t j), Int.mul_comm (R p j)]; omega)
  · intro i h1 h2
    have hir : i ≠ r := by omega
    obtain ⟨_, a, ha, h3⟩ := hoth i h2 hir
    have up : ∀ v, InSpan n (r + 1) (fun u => M (o (swp r p u))) v → InSpan n (r + 1 + 1) (fun u => if u < r + 1 then M (o (swp r p u)) else M (o (swp r p i))) v := fun v ⟨d, b, hd, e⟩ => by
      refine ⟨d, fun u => if u < r + 1 then b u else 0, hd, fun j hj => ?_⟩
      rw [e j hj]
      show sumN (r + 1) _ = sumN (r + 1) _ + _
      simp only [Nat.lt_irrefl, if_false, Int.zero_mul, Int.add_zero]
      exact sumN_congr fun u hu => by simp only [hu, if_true]
    have hi2 : InSpan n (r + 1 + 1) (fun u => if u < r + 1 then M (o (swp r p u)) else M (o (swp r p i))) (R (swp r p i)) := by
      obtain ⟨d, b, hd, e⟩ := h.span2 _ (sw_hi i (by omega) h2) (sw_lt i h2)
      refine ⟨d, fun u => if u < r then b u else if u = r then 0 else b r, hd, fun j hj => ?_⟩
      have n1 : ¬ r + 1 < r := by omega
      have n2 : ¬ r + 1 = r := by omega
      rw [e j hj]
      show sumN r _ + _ = (sumN r _ + _) + _
      simp only [Nat.lt_irrefl, if_false, if_true, n1, n2, Int.zero_mul, Int.add_zero]
      congr 1
      exact sumN_congr fun u hu => by
        have n3 : u < r + 1 := by omega
        simp only [hu, n3, if_true, sw_lo u hu]
    exact span_comb (R p k) (-(R (swp r p i) k)) a ha hi2 (up _ hspp) (fun j hj => by rw [h3 j hj, Int.neg_mul, Int.mul_comm (R (swp r p i) j), Int.mul_comm (R p j)]; omega)
  · intro i hi
    refine span_trans (h.all i hi) fun t ht => ?_
    have hr2 : InSpan n s R2 (R p) := span_congr (span_row hrs) (fun j hj => (hat j hj).symm)
    -- row t stands at place swp r p t now
    by_cases h1 : t = p
    · subst h1; exact hr2
    · have h2 : swp r p t ≠ r := by unfold swp; split <;> (try split) <;> omega
      have h3 : swp r p (swp r p t) = t := by
        rcases Classical.em (t = r) with rfl | h4
        · rw [sw_r]
          unfold swp
          by_cases h5 : p = t
          · rw [if_pos h5]; exact h5
          · rw [if_neg h5, if_pos rfl]
        · have : swp r p t = t := by unfold swp; rw [if_neg h4, if_neg h1]
          rw [this, this]
      obtain ⟨_, a, ha, h4⟩ := hoth (swp r p t) (sw_lt t ht) h2
      rw [h3] at h4
      refine span_comb a (R t k) (R p k) hne (span_row (M := R2) (sw_lt t ht)) hr2 (fun j hj => ?_)
      have := h4 j hj
      rw [Int.mul_comm (R t k), this, Int.mul_comm (R p k)]
      omega
/-- How great the numbers are with r pivots. -/
def bndN (r N : Nat) : Nat := (r + 1) * ((2 * (r + 1)) ^ r * N)
theorem bndN_le {r N : Nat} (h : r ≤ 5) : bndN r N ≤ 1492992 * N := by
  have : r = 0 ∨ r = 1 ∨ r = 2 ∨ r = 3 ∨ r = 4 ∨ r = 5 := by omega
  rcases this with rfl | rfl | rfl | rfl | rfl | rfl <;> (unfold bndN; rw [← Nat.mul_assoc]; exact Nat.mul_le_mul_right _ (by decide))
theorem Elim.bound1 {n q s N : Nat} {M R : Nat → Nat → Int} {r k : Nat} {c o : Nat → Nat} (h : Elim n q s M R r k c o) (hK : ∀ i, i < s → ∀ j, j < q → -2 ≤ M i j ∧ M i j ≤ 2) {j : Nat} (hj : j < n) (hN : ∀ i, i < s → -(N : Int) ≤ M i j ∧ M i j ≤ N)
    {t : Nat} (ht : t < r) (hr : r ≤ 6) : -((1492992 * N : Nat) : Int) ≤ R t j ∧ R t j ≤ ((1492992 * N : Nat) : Int) := by
  have hrs := h.rs
  have hp : Prim n (R t) := ((h.tidy t (by omega)).first (l := c t) (by have := h.ck t ht; have := h.kq; have := h.qn; omega) (h.before t ht) (by have := h.pos t ht; omega)).2
  obtain ⟨r', rfl⟩ : ∃ r', r = r' + 1 := ⟨r - 1, by omega⟩
  have key := elim_bound (n := n) (k := r') (K := 2) (N := N) (by decide) (M := fun u => M (o u)) (P := skip t R) (c := fun u => if u < t then c u else c (u + 1)) (v := R t)
    (fun u hu => by have h1 := h.kq; have h2 := h.qn; split; exact Nat.lt_of_lt_of_le (h.ck u (by omega)) (by omega); exact Nat.lt_of_lt_of_le (h.ck (u + 1) (by omega)) (by omega))
    (fun i hi u hu => hK _ (h.olt i (by omega)) _ (by have h1 := h.kq; split; exact Nat.lt_of_lt_of_le (h.ck u (by omega)) (by omega); exact Nat.lt_of_lt_of_le (h.ck (u + 1) (by omega)) (by omega)))
    hj (fun i hi => hN _ (h.olt i (by omega)))
    (fun u hu => by unfold skip; split; exact h.span1 u (by omega); exact h.span1 (u + 1) (by omega))
    (fun u hu => by
      unfold skip
      by_cases hut : u < t
      · simp only [hut, if_true]; have := h.pos u (by omega); omega
      · simp only [hut, if_false]; have := h.pos (u + 1) (by omega); omega)
    (fun u hu v hv hvu => by
      unfold skip
      by_cases h1 : u < t <;> by_cases h2 : v < t <;> simp only [h1, h2, if_true, if_false]
      · exact h.off v (by omega) u (by omega) (by omega)
      · exact h.off (v + 1) (by omega) u (by omega) (by omega)
      · exact h.off v (by omega) (u + 1) (by omega) (by omega)
      · exact h.off (v + 1) (by omega) (u + 1) (by omega) (by omega))
    (h.span1 t ht)
    (fun u hu => by
      by_cases h1 : u < t <;> simp only [h1, if_true, if_false]
      · exact h.off u (by omega) t (by omega) (by omega)
      · exact h.off (u + 1) (by omega) t (by omega) (by omega))
    hp
  have h1 := key
  have h2 : bndN r' N ≤ 1492992 * N := bndN_le (by omega)
  unfold bndN at h2
  omega
theorem Elim.bound {n q s N : Nat} {M R : Nat → Nat → Int} {r k : Nat} {c o : Nat → Nat} (h : Elim n q s M R r k c o) (hK : ∀ i, i < s → ∀ j, j < q → -2 ≤ M i j ∧ M i j ≤ 2) {j : Nat} (hj : j < n) (hN : ∀ i, i < s → -(N : Int) ≤ M i j ∧ M i j ≤ N)
    (hr : r ≤ 5) {i : Nat} (hi : i < s) : -((1492992 * N : Nat) : Int) ≤ R i j ∧ R i j ≤ ((1492992 * N : Nat) : Int) := by
  rcases Nat.lt_or_ge i r with h1 | h1
  · exact h.bound1 hK hj hN h1 (by omega)
  · have hrs := h.rs
    rcases h.tidy i hi with h0 | ⟨hp, _⟩
    · rw [h0 j hj]
      omega
    · have key := elim_bound (n := n) (k := r) (K := 2) (N := N) (by decide) (M := fun u => if u < r then M (o u) else M (o i)) (P := R) (c := c) (v := R i)
        (fun u hu => Nat.lt_of_lt_of_le (h.ck u hu) (by have := h.kq; have := h.qn; omega))
        (fun a ha u hu => by
          have hcu : c u < q := Nat.lt_of_lt_of_le (h.ck u hu) h.kq
          split
          · exact hK _ (h.olt a (by omega)) _ hcu
          · exact hK _ (h.olt i hi) _ hcu)
        hj (fun a ha => by
          split
          · exact hN _ (h.olt a (by omega))
          · exact hN _ (h.olt i hi))
        (fun u hu => by
          obtain ⟨d, b, hd, e⟩ := h.span1 u hu
          refine ⟨d, fun x => if x < r then b x else 0, hd, fun j hj => ?_⟩
          rw [e j hj, sumN]
          simp only [Nat.lt_irrefl, if_false, Int.zero_mul, Int.add_zero]
          exact sumN_congr fun x hx => by rw [if_pos hx, if_pos hx])
        (fun u hu => by have := h.pos u hu; omega)
        (fun u hu x hx hne => h.off x hx u (by omega) (by omega))
        (h.span2 i h1 hi)
        (fun u hu => h.off u hu i hi (by omega))
        hp
      have h1 := key
      have h2 : bndN r N ≤ 1492992 * N := bndN_le hr
      unfold bndN at h2
      omega
end Go.Proofs.Ytedkeobhcpbigaa
/- Elimination on lists: the model's steps, the program's, and that both come to the same. Plain mathematics. -/
namespace Go.Proofs.Ytedkeobhcpbigaa
theorem row_map {ms : List (List Int)} {f : List Int → List Int} {i : Nat} (h : i < ms.length) : row (ms.map f) i = f (row ms i) := by simp [row, List.getD, h]
theorem row_range {n : Nat} {f : Nat → List Int} {i : Nat} (h : i < n) : row ((List.range n).map f) i = f i := by simp [row, List.getD, h]
theorem rows_ext {a b : List (List Int)} (hl : a.length = b.length) (h : ∀ i, i < a.length → row a i = row b i) : a = b := by
  apply List.ext_getElem hl
  intro i h1 h2
  have := h i h1
  simpa [row, List.getD, h1, h2] using this
theorem row_take {ms : List (List Int)} {r i : Nat} (h : i < r) : row (ms.take r) i = row ms i := by
  unfold row List.getD
  rw [List.getElem?_take, if_pos h]
def findP (rows : List (List Int)) (r k : Nat) : Nat := findA (fun i => vec (row rows i) k) (rows.length - r) r
theorem findP_eq {rows : List (List Int)} {r k p : Nat} (h1 : r ≤ p) (h2 : p ≤ rows.length) (h3 : ∀ i, r ≤ i → i < p → vec (row rows i) k = 0) (h4 : p = rows.length ∨ vec (row rows p) k ≠ 0) : findP rows r k = p :=
  findA_eq h1 (by omega) h3 (h4.imp (fun e => by omega) id)
theorem findP_spec {rows : List (List Int)} {r k : Nat} (hr : r ≤ rows.length) : r ≤ findP rows r k ∧ findP rows r k ≤ rows.length ∧ (∀ i, r ≤ i → i < findP rows r k → vec (row rows i) k = 0) ∧ (findP rows r k = rows.length ∨ vec (row rows (findP rows r k)) k ≠ 0) := by
  obtain ⟨h1, h2, h3, h4⟩ := findA_spec (fun i => vec (row rows i) k) (rows.length - r) r
  exact ⟨h1, by unfold findP; omega, h3, h4.imp (fun e => by unfold findP; omega) id⟩
def swapL (rows : List (List Int)) (r p : Nat) : List (List Int) := (rows.set p (row rows r)).set r (tidyL (row rows p))
theorem swapL_len (rows : List (List Int)) (r p : Nat) : (swapL rows r p).length = rows.length := by simp [swapL]
theorem swapL_at {rows : List (List Int)} {r p : Nat} (hr : r < rows.length) : row (swapL rows r p) r = tidyL (row rows p) := by
  unfold swapL
  rw [row_set_same (by simpa using hr)]
theorem swapL_off {rows : List (List Int)} {r p i : Nat} (hp : p < rows.length) (hi : i ≠ r) : row (swapL rows r p) i = row rows (swp r p i) := by
  unfold swapL swp
  rw [row_set_other hi, if_neg hi]
  by_cases h : i = p
  · subst h; rw [row_set_same hp, if_pos rfl]
  · rw [row_set_other h, if_neg h]
def clrRow (x p : List Int) (k : Nat) : List Int := if vec x k = 0 then x else clearL x p k
theorem clrRow_len (x p : List Int) (k : Nat) : (clrRow x p k).length = x.length := by
  unfold clrRow
  split
  · rfl
  · exact clearL_len _ _ _
/-- The rows up to place u are cleared by f, but for row r. -/
def clrBy (f : List Int → List Int) (R : List (List Int)) (r u : Nat) : List (List Int) := (List.range R.length).map fun i => if i < u ∧ i ≠ r then f (row R i) else row R i
theorem clrBy_len (f : List Int → List Int) (R : List (List Int)) (r u : Nat) : (clrBy f R r u).length = R.length := by simp [clrBy]
theorem clrBy_row {f : List Int → List Int} {R : List (List Int)} {r u i : Nat} (h : i < R.length) : row (clrBy f R r u) i = if i < u ∧ i ≠ r then f (row R i) else row R i := row_range h
theorem clrBy_pivot {f : List Int → List Int} {R : List (List Int)} {r u : Nat} (h : r < R.length) : row (clrBy f R r u) r = row R r := by rw [clrBy_row h, if_neg (fun e => e.2 rfl)]
theorem clrBy_ahead {f : List Int → List Int} {R : List (List Int)} {r u i : Nat} (h : i < R.length) (hu : u ≤ i) : row (clrBy f R r u) i = row R i := by rw [clrBy_row h, if_neg (by omega)]
theorem clrBy_zero (f : List Int → List Int) (R : List (List Int)) (r : Nat) : clrBy f R r 0 = R :=
  rows_ext (clrBy_len _ _ _ _) fun i hi => by rw [clrBy_len] at hi; exact clrBy_ahead hi (Nat.zero_le _)
theorem clrBy_set {f : List Int → List Int} {R : List (List Int)} {r u : Nat} (h : u < R.length) (hr : u ≠ r) : (clrBy f R r u).set u (f (row R u)) = clrBy f R r (u + 1) := by
  refine rows_ext (by simp [clrBy]) fun i hi => ?_
  have hi' : i < R.length := by simpa [clrBy] using hi
  rw [clrBy_row hi']
  by_cases h1 : i = u
  · subst h1
    rw [row_set_same (by rw [clrBy_len]; exact h), if_pos ⟨Nat.lt_succ_self _, hr⟩]
  · rw [row_set_other h1, clrBy_row hi']
    have e : (i < u ∧ i ≠ r) = (i < u + 1 ∧ i ≠ r) := by rw [eq_iff_iff]; omega
    simp only [e]
theorem clrBy_same {f : List Int → List Int} {R : List (List Int)} {r u : Nat} (h : u < R.length) (hr : u = r ∨ f (row R u) = row R u) : clrBy f R r u = clrBy f R r (u + 1) := by
  refine rows_ext (by simp [clrBy]) fun i hi => ?_
  have hi' : i < R.length := by simpa [clrBy] using hi
  rw [clrBy_row hi', clrBy_row hi']
  by_cases h1 : i = u
  · subst h1
    rw [if_neg (by omega)]
    rcases hr with rfl | hr
    · rw [if_neg (fun e => e.2 rfl)]
    · split
      · exact hr.symm
      · rfl
  · have e : (i < u ∧ i ≠ r) = (i < u + 1 ∧ i ≠ r) := by rw [eq_iff_iff]; omega
    simp only [e]
/-- The model's step. -/
def stepL (k : Nat) (s : List (List Int) × Nat) : List (List Int) × Nat :=
  if findP s.1 s.2 k = s.1.length then s
  else (clrBy (fun x => clrRow x (row (swapL s.1 s.2 (findP s.1 s.2 k)) s.2) k) (swapL s.1 s.2 (findP s.1 s.2 k)) s.2 s.1.length, s.2 + 1)
def redL (rows : List (List Int)) : Nat → List (List Int) × Nat
  | 0 => (rows, 0)
  | k + 1 => stepL k (redL rows k)
structure InvL (n q : Nat) (ms : List (List Int)) (s : List (List Int) × Nat) (k : Nat) : Prop where
  len : s.1.length = ms.length
  wid : ∀ i, i < ms.length → (row s.1 i).length = n
  el : ∃ c o, Elim n q ms.length (fun i => vec (row ms i)) (fun i => vec (row s.1 i)) s.2 k c o
theorem InvL.rle {n q : Nat} {ms : List (List Int)} {s : List (List Int) × Nat} {k : Nat} (h : InvL n q ms s k) : s.2 ≤ ms.length := by
  obtain ⟨c, o, he⟩ := h.el
  exact he.rs
theorem inv_start {n q : Nat} {ms : List (List Int)} (hq : q ≤ n) (hw : ∀ i, i < ms.length → (row ms i).length = n) : InvL n q ms (ms.map tidyL, 0) 0 where
  len := by simp
  wid := fun i hi => by rw [row_map hi, tidyL_len]; exact hw i hi
  el := ⟨_, _, elim_start hq (fun i hi => by rw [row_map hi]; have := tidyL_tidy (row ms i); rw [hw i hi] at this; exact this)
    (fun i hi => by rw [row_map hi]; have := tidyL_scale (row ms i); rw [hw i hi] at this; exact this)⟩
theorem inv_step {n q : Nat} {ms : List (List Int)} {s : List (List Int) × Nat} {k : Nat} (hk : k < q) (h : InvL n q ms s k) : InvL n q ms (stepL k s) (k + 1) := by
  obtain ⟨c, o, he⟩ := h.el
  have hl := h.len
  have hrs := he.rs
  have hkn : k < n := by have := he.qn; omega
  obtain ⟨p1, p2, p3, p4⟩ := findP_spec (rows := s.1) (r := s.2) (k := k) (by omega)
  unfold stepL
  generalize findP s.1 s.2 k = p at p1 p2 p3 p4
  by_cases hp : p = s.1.length
  · rw [if_pos hp]
    exact ⟨h.len, h.wid, c, o, he.pass hk (fun i h1 h2 => p3 i h1 (by omega))⟩
  · rw [if_neg hp]
    have hne := p4.resolve_left hp
    have hps : p < s.1.length := by omega
    have sw_lt : ∀ i, i < ms.length → swp s.2 p i < ms.length := fun i hi => by unfold swp; split <;> (try split) <;> omega
    have hrow : ∀ i, i < ms.length → i ≠ s.2 → row (clrBy (fun x => clrRow x (row (swapL s.1 s.2 p) s.2) k) (swapL s.1 s.2 p) s.2 s.1.length) i = clrRow (row s.1 (swp s.2 p i)) (tidyL (row s.1 p)) k := fun i hi hir => by
      rw [clrBy_row (by rw [swapL_len]; omega), if_pos ⟨by omega, hir⟩, swapL_off hps hir, swapL_at (by omega)]
    have hpiv : row (clrBy (fun x => clrRow x (row (swapL s.1 s.2 p) s.2) k) (swapL s.1 s.2 p) s.2 s.1.length) s.2 = row s.1 p := by
      rw [clrBy_pivot (by rw [swapL_len]; omega), swapL_at (by omega)]
      refine tidyL_id ?_
      rw [h.wid p (by omega)]
      exact he.tidy p (by omega)
    have htp : tidyL (row s.1 p) = row s.1 p := tidyL_id (by rw [h.wid p (by omega)]; exact he.tidy p (by omega))
    refine ⟨by rw [clrBy_len, swapL_len]; exact hl, fun i hi => ?_, _, _, he.step hk p1 (by omega) hne (fun j _ => by simp only [hpiv]) (fun i hi hir => ?_)⟩
    · by_cases hir : i = s.2
      · subst hir; rw [hpiv]; exact h.wid p (by omega)
      · rw [hrow i hi hir, clrRow_len]
        exact h.wid _ (sw_lt i hi)
    · simp only
      rw [hrow i hi hir, htp]
      have hw := h.wid _ (sw_lt i hi)
      unfold clrRow
      by_cases h0 : vec (row s.1 (swp s.2 p i)) k = 0
      · rw [if_pos h0]
        exact ⟨he.tidy _ (sw_lt i hi), vec (row s.1 p) k, hne, fun j hj => by rw [h0, Int.mul_zero, Int.sub_zero, Int.mul_comm]⟩
      · rw [if_neg h0]
        have ht := tidyL_tidy (combL (row s.1 (swp s.2 p i)) (row s.1 p) k)
        obtain ⟨a, ha, e⟩ := tidyL_scale (combL (row s.1 (swp s.2 p i)) (row s.1 p) k)
        rw [combL_len, hw] at ht e
        refine ⟨ht, a, ha, fun j hj => ?_⟩
        exact (e j hj).trans (combL_at (by omega))
theorem inv_red {n q : Nat} {ms : List (List Int)} (hq : q ≤ n) (hw : ∀ i, i < ms.length → (row ms i).length = n) : ∀ k, k ≤ q → InvL n q ms (redL (ms.map tidyL) k) k
  | 0, _ => inv_start hq hw
  | k + 1, hk => inv_step (by omega) (inv_red hq hw k (by omega))
/-- Cells of a matrix, and how great what elimination makes of them. -/
theorem inv_bound {n q N : Nat} {ms : List (List Int)} {s : List (List Int) × Nat} {k : Nat} (h : InvL n q ms s k) (hk : k < q) (hq : q ≤ 6) (hK : ∀ i, i < ms.length → ∀ j, j < q → -2 ≤ vec (row ms i) j ∧ vec (row ms i) j ≤ 2) {j : Nat} (hN : ∀ i, i < ms.length → -(N : Int) ≤ vec (row ms i) j ∧ vec (row ms i) j ≤ N)
    {i : Nat} (hi : i < ms.length) : -((1492992 * N : Nat) : Int) ≤ vec (row s.1 i) j ∧ vec (row s.1 i) j ≤ ((1492992 * N : Nat) : Int) := by
  obtain ⟨c, o, he⟩ := h.el
  rcases Nat.lt_or_ge j n with hj | hj
  · exact he.bound hK hj hN (by have := he.rk; omega) hi
  · rw [vec_beyond (by rw [h.wid i hi]; exact hj)]
    omega
/-- Rows that are full of pivots stay as they are. -/
theorem red_full {rows : List (List Int)} {k : Nat} (h : (redL rows k).2 = (redL rows k).1.length) : ∀ d, redL rows (k + d) = redL rows k
  | 0 => rfl
  | d + 1 => by
    show stepL (k + d) (redL rows (k + d)) = _
    rw [red_full h d]
    unfold stepL
    rw [if_pos (findP_eq (by omega) (by omega) (fun i h1 h2 => by omega) (.inl rfl))]
/-! ### The program's steps -/
/-- The program's rows become the model's when made tidy. -/
def Sim (P rows : List (List Int)) : Prop := P.length = rows.length ∧ ∀ i, i < P.length → tidyL (row P i) = row rows i
theorem tidy_zero {z : List Int} {k : Nat} : vec (tidyL z) k = 0 ↔ vec z k = 0 := by
  rcases Nat.lt_or_ge k z.length with h | h
  · obtain ⟨q, hq, e⟩ := tidyL_scale z
    have := e k h
    constructor
    · intro h0; rw [h0, Int.mul_zero] at this; exact this.symm
    · intro h0; rw [h0] at this; exact (Int.mul_eq_zero.1 this).resolve_left hq
  · rw [vec_beyond h, vec_beyond (by rw [tidyL_len]; exact h)]
theorem Sim.find {P rows : List (List Int)} (h : Sim P rows) {r k : Nat} (hr : r ≤ P.length) : findP P r k = findP rows r k := by
  obtain ⟨p1, p2, p3, p4⟩ := findP_spec (rows := rows) (r := r) (k := k) (by rw [← h.1]; exact hr)
  have hz : ∀ i, i < P.length → (vec (row P i) k = 0 ↔ vec (row rows i) k = 0) := fun i hi => by rw [← h.2 i hi]; exact tidy_zero.symm
  refine findP_eq p1 (by rw [h.1]; exact p2) (fun i h1 h2 => (hz i (by rw [h.1]; omega)).2 (p3 i h1 h2)) ?_
  rcases Nat.lt_or_eq_of_le p2 with h1 | h1
  · refine .inr fun e => (p4.resolve_left (by omega)) ((hz _ (by rw [h.1]; exact h1)).1 e)
  · exact .inl (by rw [h.1]; exact h1)
def pswap (P : List (List Int)) (r p : Nat) : List (List Int) := ((P.set r (row P p)).set p (row P r)).set r (tidyL (row P p))
theorem pswap_len (P : List (List Int)) (r p : Nat) : (pswap P r p).length = P.length := by simp [pswap]
theorem pswap_at {P : List (List Int)} {r p : Nat} (hr : r < P.length) : row (pswap P r p) r = tidyL (row P p) := by
  unfold pswap
  rw [row_set_same (by simpa using hr)]
theorem pswap_off {P : List (List Int)} {r p i : Nat} (hp : p < P.length) (hi : i ≠ r) : row (pswap P r p) i = row P (swp r p i) := by
  unfold pswap swp
  rw [row_set_other hi, if_neg hi]
  by_cases h : i = p
  · subst h; rw [row_set_same (by simpa using hp), if_pos rfl]
  · rw [row_set_other h, row_set_other hi, if_neg h]
theorem Sim.step {P : List (List Int)} {s : List (List Int) × Nat} (h : Sim P s.1) {n k : Nat} (hw : ∀ i, i < P.length → (row P i).length = n) (hkn : k < n) (hr : s.2 ≤ P.length) (hp : findP s.1 s.2 k ≠ s.1.length) :
    (clrBy (fun x => clearL x (row (pswap P s.2 (findP s.1 s.2 k)) s.2) k) (pswap P s.2 (findP s.1 s.2 k)) s.2 P.length, s.2 + 1) = stepL k s := by
  have hl := h.1
  obtain ⟨p1, p2, p3, p4⟩ := findP_spec (rows := s.1) (r := s.2) (k := k) (by omega)
  unfold stepL
  rw [if_neg hp]
  generalize findP s.1 s.2 k = p at p1 p2 p3 p4 hp
  have hne := p4.resolve_left hp
  have hps : p < s.1.length := by omega
  congr 1
  have htt : tidyL (row s.1 p) = tidyL (row P p) := by rw [← h.2 p (by omega), tidyL_idem]
  refine rows_ext (by rw [clrBy_len, clrBy_len, pswap_len, swapL_len, hl]) fun i hi => ?_
  rw [clrBy_len, pswap_len] at hi
  by_cases hir : i = s.2
  · subst hir
    rw [clrBy_pivot (by rw [pswap_len]; omega), clrBy_pivot (by rw [swapL_len]; omega), pswap_at (by omega), swapL_at (by omega), htt]
  · rw [clrBy_row (by rw [pswap_len]; omega), clrBy_row (by rw [swapL_len]; omega), if_pos ⟨by omega, hir⟩, if_pos ⟨by omega, hir⟩, pswap_at (by omega), swapL_at (by omega), pswap_off (by omega) hir, swapL_off hps hir, htt]
    have hsl : swp s.2 p i < P.length := by unfold swp; split <;> (try split) <;> omega
    have ht := h.2 _ hsl
    have hpk : vec (tidyL (row P p)) k ≠ 0 := fun e => hne (by rw [← h.2 p (by omega)]; exact e)
    unfold clrRow
    by_cases h0 : vec (row s.1 (swp s.2 p i)) k = 0
    · rw [if_pos h0, clearL_zero (tidy_zero.1 (by rw [ht]; exact h0)) hpk, ht]
    · rw [if_neg h0]
      exact clearL_tidy (by rw [← ht, tidyL_len]) (by rw [← ht, tidyL_idem]) (by rw [hw _ hsl]; exact hkn)
theorem stepL_pass {s : List (List Int) × Nat} {k : Nat} (hp : findP s.1 s.2 k = s.1.length) : stepL k s = s := by
  unfold stepL
  rw [if_pos hp]
theorem sim_start (P : List (List Int)) : Sim P (P.map tidyL) := ⟨by simp, fun i hi => (row_map hi).symm⟩
theorem sim_self {n q : Nat} {ms : List (List Int)} {s : List (List Int) × Nat} {k : Nat} (h : InvL n q ms s k) : Sim s.1 s.1 := by
  obtain ⟨c, o, he⟩ := h.el
  refine ⟨rfl, fun i hi => tidyL_id ?_⟩
  have hi' : i < ms.length := by rw [← h.len]; exact hi
  rw [h.wid i hi']
  exact he.tidy i hi'
/-- The reduced rows. -/
def rrL (ms : List (List Int)) (n : Nat) : List (List Int) := (redL (ms.map tidyL) n).1.take (redL (ms.map tidyL) n).2
end Go.Proofs.Ytedkeobhcpbigaa
