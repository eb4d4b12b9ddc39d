/- Sums, the pigeonhole, and a small integer relation between more vectors than there are equations: plain mathematics. -/
import Derived.WalkKit
namespace Go.Proofs.Ytbclnklejleobaa
/-- The sum of the first k. -/
def sumN : Nat → (Nat → Int) → Int
  | 0, _ => 0
  | k + 1, f => sumN k f + f k
theorem sumN_congr {k : Nat} {f g : Nat → Int} (h : ∀ i, i < k → f i = g i) : sumN k f = sumN k g := by
  induction k with
  | zero => rfl
  | succ k ih => rw [sumN, sumN, ih (fun i hi => h i (by omega)), h k (by omega)]
theorem sumN_zero {k : Nat} {f : Nat → Int} (h : ∀ i, i < k → f i = 0) : sumN k f = 0 := by
  induction k with
  | zero => rfl
  | succ k ih => rw [sumN, ih (fun i hi => h i (by omega)), h k (by omega)]; rfl
theorem sumN_add (k : Nat) (f g : Nat → Int) : sumN k (fun i => f i + g i) = sumN k f + sumN k g := by
  induction k with
  | zero => rfl
  | succ k ih => rw [sumN, sumN, sumN, ih]; omega
theorem sumN_sub (k : Nat) (f g : Nat → Int) : sumN k (fun i => f i - g i) = sumN k f - sumN k g := by
  induction k with
  | zero => rfl
  | succ k ih => rw [sumN, sumN, sumN, ih]; omega
theorem sumN_mul (k : Nat) (c : Int) (f : Nat → Int) : sumN k (fun i => c * f i) = c * sumN k f := by
  induction k with
  | zero => simp [sumN]
  | succ k ih => rw [sumN, sumN, ih, Int.mul_add]
theorem sumN_mulR (k : Nat) (c : Int) (f : Nat → Int) : sumN k (fun i => f i * c) = sumN k f * c := by
  rw [Int.mul_comm, ← sumN_mul]
  exact sumN_congr fun i _ => Int.mul_comm _ _
theorem sumN_swap (k l : Nat) (f : Nat → Nat → Int) : sumN k (fun i => sumN l (f i)) = sumN l (fun j => sumN k (fun i => f i j)) := by
  induction k with
  | zero => rw [sumN]; exact (sumN_zero fun _ _ => rfl).symm
  | succ k ih =>
    rw [sumN, ih, ← sumN_add]
    rfl
theorem sumN_one {k a : Nat} {f : Nat → Int} (ha : a < k) (h : ∀ i, i < k → i ≠ a → f i = 0) : sumN k f = f a := by
  induction k with
  | zero => omega
  | succ k ih =>
    rw [sumN]
    by_cases e : a = k
    · subst e
      rw [sumN_zero (fun i hi => h i (by omega) (by omega))]
      omega
    · rw [ih (by omega) (fun i hi hne => h i (by omega) hne), h k (by omega) (by omega)]
      omega
theorem sumN_bd {k : Nat} {f : Nat → Int} {B : Int} (h : ∀ i, i < k → -B ≤ f i ∧ f i ≤ B) : -((k : Int) * B) ≤ sumN k f ∧ sumN k f ≤ (k : Int) * B := by
  induction k with
  | zero => simp [sumN]
  | succ k ih =>
    have h1 := ih (fun i hi => h i (by omega))
    have h2 := h k (by omega)
    rw [sumN]
    have e : ((k + 1 : Nat) : Int) * B = (k : Int) * B + B := by rw [Int.natCast_add, Int.add_mul]; simp
    rw [e]
    omega
theorem sumN_nn {k : Nat} {f : Nat → Int} {B : Int} (h : ∀ i, i < k → 0 ≤ f i ∧ f i ≤ B) : 0 ≤ sumN k f ∧ sumN k f ≤ (k : Int) * B := by
  induction k with
  | zero => simp [sumN]
  | succ k ih =>
    have h1 := ih (fun i hi => h i (by omega))
    have h2 := h k (by omega)
    rw [sumN]
    have e : ((k + 1 : Nat) : Int) * B = (k : Int) * B + B := by rw [Int.natCast_add, Int.add_mul]; simp
    rw [e]
    omega
/-! ### The pigeonhole -/
theorem pigeon : ∀ (M N : Nat) (f : Nat → Nat), M < N → (∀ i, i < N → f i < M) → ∃ a b, a < b ∧ b < N ∧ f a = f b
  | 0, N, f, h, hf => by have := hf 0 h; omega
  | M + 1, N, f, h, hf => by
    by_cases hx : ∃ a, a < N - 1 ∧ f a = f (N - 1)
    · obtain ⟨a, ha, he⟩ := hx
      exact ⟨a, N - 1, ha, by omega, he⟩
    · have hne : ∀ a, a < N - 1 → f a ≠ f (N - 1) := fun a ha he => hx ⟨a, ha, he⟩
      obtain ⟨a, b, hab, hb, he⟩ := pigeon M (N - 1) (fun i => if f (N - 1) < f i then f i - 1 else f i) (by omega) (fun i hi => by
        have h1 := hne i hi
        have h2 := hf i (by omega)
        have h3 := hf (N - 1) (by omega)
        split <;> omega)
      refine ⟨a, b, hab, by omega, ?_⟩
      have h1 := hne a (by omega)
      have h2 := hne b hb
      split at he <;> split at he <;> omega
/-! ### Codes of tuples -/
def code (B : Nat) : Nat → (Nat → Nat) → Nat
  | 0, _ => 0
  | k + 1, t => code B k t * B + t k
theorem code_lt {B k : Nat} {t : Nat → Nat} (h : ∀ j, j < k → t j < B) : code B k t < B ^ k := by
  induction k with
  | zero => simp [code]
  | succ k ih =>
    have h1 := ih (fun j hj => h j (by omega))
    have h2 := h k (by omega)
    rw [code, Nat.pow_succ]
    have : (code B k t + 1) * B ≤ B ^ k * B := Nat.mul_le_mul_right B h1
    rw [Nat.add_mul] at this
    omega
theorem code_inj {B k : Nat} {t u : Nat → Nat} (ht : ∀ j, j < k → t j < B) (hu : ∀ j, j < k → u j < B) (h : code B k t = code B k u) : ∀ j, j < k → t j = u j := by
  induction k with
  | zero => intro j hj; omega
  | succ k ih =>
    rw [code, code] at h
    have h1 := ht k (by omega)
    have h2 := hu k (by omega)
    have e1 : (code B k t * B + t k) % B = t k := by rw [Nat.add_comm, Nat.add_mul_mod_self_right, Nat.mod_eq_of_lt h1]
    have e2 : (code B k u * B + u k) % B = u k := by rw [Nat.add_comm, Nat.add_mul_mod_self_right, Nat.mod_eq_of_lt h2]
    have e3 : t k = u k := by rw [← e1, ← e2, h]
    have e4 : code B k t = code B k u := by
      have : code B k t * B = code B k u * B := by omega
      exact Nat.eq_of_mul_eq_mul_right (by omega) this
    intro j hj
    rcases Nat.lt_or_eq_of_le (Nat.lt_succ_iff.1 hj) with h5 | rfl
    · exact ih (fun j hj => ht j (by omega)) (fun j hj => hu j (by omega)) e4 j h5
    · exact e3
def dig (B : Nat) : Nat → Nat → Nat → Nat
  | 0, _, _ => 0
  | s + 1, e, i => if i = s then e % B else dig B s (e / B) i
theorem dig_lt {B : Nat} (hB : 0 < B) : ∀ (s e i : Nat), dig B s e i < B
  | 0, _, _ => hB
  | s + 1, e, i => by
    unfold dig
    split
    · exact Nat.mod_lt _ hB
    · exact dig_lt hB s _ i
theorem dig_inj {B : Nat} (hB : 0 < B) : ∀ (s e e' : Nat), e < B ^ s → e' < B ^ s → (∀ i, i < s → dig B s e i = dig B s e' i) → e = e'
  | 0, e, e', h, h', _ => by rw [Nat.pow_zero] at h h'; omega
  | s + 1, e, e', h, h', hd => by
    rw [Nat.pow_succ] at h h'
    have h1 := hd s (by omega)
    simp only [dig, if_true] at h1
    have h2 := dig_inj hB s (e / B) (e' / B) ((Nat.div_lt_iff_lt_mul hB).2 h) ((Nat.div_lt_iff_lt_mul hB).2 h') (fun i hi => by
      have := hd i (by omega)
      simp only [dig] at this
      rw [if_neg (by omega), if_neg (by omega)] at this
      exact this)
    rw [← Nat.div_add_mod e B, ← Nat.div_add_mod e' B, h1, h2]
/-! ### A small relation -/
/-- One term, moved so that it is not negative. -/
def term (v d X : Int) : Int := if 0 ≤ v then v * d else v * (d - X)
theorem term_bd {v d X K : Int} (hv : -K ≤ v ∧ v ≤ K) (hd : 0 ≤ d ∧ d ≤ X) : 0 ≤ term v d X ∧ term v d X ≤ K * X := by
  unfold term
  split
  · refine ⟨Int.mul_nonneg (by omega) hd.1, ?_⟩
    exact Int.mul_le_mul hv.2 hd.2 hd.1 (by omega)
  · have e : v * (d - X) = (-v) * (X - d) := by rw [← Int.neg_mul_neg]; congr 1; omega
    rw [e]
    refine ⟨Int.mul_nonneg (by omega) (by omega), ?_⟩
    exact Int.mul_le_mul (by omega) (by omega) (by omega) (by omega)
theorem term_sub (v d e X : Int) : term v d X - term v e X = (d - e) * v := by
  unfold term
  split
  · rw [← Int.mul_sub, Int.mul_comm]
  · rw [← Int.mul_sub, Int.mul_comm]
    congr 1
    omega
theorem siegel (s k K X : Nat) (V : Nat → Nat → Int) (hV : ∀ i, i < s → ∀ j, j < k → -(K : Int) ≤ V i j ∧ V i j ≤ K) (hX : (s * (K * X) + 1) ^ k < (X + 1) ^ s) :
    ∃ y : Nat → Int, (∃ i, i < s ∧ y i ≠ 0) ∧ (∀ i, i < s → -(X : Int) ≤ y i ∧ y i ≤ X) ∧ ∀ j, j < k → sumN s (fun i => y i * V i j) = 0 := by
  have hB : 0 < X + 1 := by omega
  let T : Nat → Nat → Int := fun e j => sumN s (fun i => term (V i j) (dig (X + 1) s e i : Int) X)
  have hd : ∀ e i, (0 : Int) ≤ (dig (X + 1) s e i : Int) ∧ (dig (X + 1) s e i : Int) ≤ X := fun e i => by have := dig_lt hB s e i; omega
  have hT : ∀ e j, j < k → 0 ≤ T e j ∧ T e j ≤ ((s * (K * X) : Nat) : Int) := fun e j hj => by
    have := sumN_nn (k := s) (f := fun i => term (V i j) (dig (X + 1) s e i : Int) X) (B := (K : Int) * X) (fun i hi => term_bd (hV i hi j hj) (hd e i))
    simpa using this
  obtain ⟨a, b, hab, hbN, he⟩ := pigeon ((s * (K * X) + 1) ^ k) ((X + 1) ^ s) (fun e => code (s * (K * X) + 1) k (fun j => (T e j).toNat)) hX (fun e _ => code_lt (fun j hj => by have := hT e j hj; omega))
  have hj := code_inj (fun j hj => by have := hT a j hj; omega) (fun j hj => by have := hT b j hj; omega) he
  refine ⟨fun i => (dig (X + 1) s a i : Int) - (dig (X + 1) s b i : Int), ?_, fun i _ => ?_, fun j hjk => ?_⟩
  · rcases Classical.em (∃ i, i < s ∧ (dig (X + 1) s a i : Int) - (dig (X + 1) s b i : Int) ≠ 0) with h | h
    · exact h
    · have : a = b := dig_inj hB s a b (by omega) hbN (fun i hi => by
        rcases Classical.em ((dig (X + 1) s a i : Int) - (dig (X + 1) s b i : Int) = 0) with h2 | h2
        · omega
        · exact absurd ⟨i, hi, h2⟩ h)
      omega
  · have h1 := hd a i
    have h2 := hd b i
    simp only
    omega
  · have h1 := hj j hjk
    have h2 := hT a j hjk
    have h3 := hT b j hjk
    have h4 : T a j - T b j = 0 := by omega
    rw [← h4, ← sumN_sub]
    exact sumN_congr fun i _ => (term_sub _ _ _ _).symm
theorem siegel_pow {q P k : Nat} (hq : 1 ≤ q) (hP : P = q ^ k) : (q * P + 1) ^ k < (P + 1) ^ (k + 1) := by
  have h1 : q * P + 1 ≤ q * (P + 1) := by rw [Nat.mul_add]; omega
  have h2 := Nat.pow_le_pow_left h1 k
  rw [Nat.mul_pow, ← hP] at h2
  have h3 : P * (P + 1) ^ k < (P + 1) * (P + 1) ^ k := Nat.mul_lt_mul_of_pos_right (by omega) (Nat.pow_pos (by omega))
  rw [Nat.pow_succ, Nat.mul_comm _ (P + 1)]
  exact Nat.lt_of_le_of_lt h2 h3
theorem siegel_num {s k K : Nat} (hs : s = k + 1) (hK : 1 ≤ K) : (s * (K * (K * s) ^ k) + 1) ^ k < ((K * s) ^ k + 1) ^ s := by
  subst hs
  have hq : 1 * 1 ≤ K * (k + 1) := Nat.mul_le_mul hK (by omega)
  have e : (k + 1) * (K * (K * (k + 1)) ^ k) = (K * (k + 1)) * (K * (k + 1)) ^ k := by rw [← Nat.mul_assoc, Nat.mul_comm (k + 1) K]
  rw [e]
  exact siegel_pow hq rfl
/-- k + 1 vectors with entries up to K meet k equations in a combination with small factors. -/
theorem small_rel (k K : Nat) (hK : 1 ≤ K) (V : Nat → Nat → Int) (hV : ∀ i, i < k + 1 → ∀ j, j < k → -(K : Int) ≤ V i j ∧ V i j ≤ K) :
    ∃ y : Nat → Int, (∃ i, i < k + 1 ∧ y i ≠ 0) ∧ (∀ i, i < k + 1 → -(((K * (k + 1)) ^ k : Nat) : Int) ≤ y i ∧ y i ≤ (((K * (k + 1)) ^ k : Nat) : Int)) ∧ ∀ j, j < k → sumN (k + 1) (fun i => y i * V i j) = 0 :=
  siegel (k + 1) k K _ V hV (siegel_num rfl hK)
/-- A bound on finitely many numbers. -/
theorem bounded (s k : Nat) (V : Nat → Nat → Int) : ∃ K : Nat, 1 ≤ K ∧ ∀ i, i < s → ∀ j, j < k → -(K : Int) ≤ V i j ∧ V i j ≤ K := by
  have one : ∀ (k : Nat) (f : Nat → Int), ∃ K : Nat, 1 ≤ K ∧ ∀ j, j < k → -(K : Int) ≤ f j ∧ f j ≤ K := by
    intro k f
    induction k with
    | zero => exact ⟨1, Nat.le_refl _, fun j hj => by omega⟩
    | succ k ih =>
      obtain ⟨K, h1, h2⟩ := ih
      refine ⟨K + (f k).natAbs, by omega, fun j hj => ?_⟩
      rcases Nat.lt_or_eq_of_le (Nat.lt_succ_iff.1 hj) with h | rfl
      · have := h2 j h; omega
      · omega
  induction s with
  | zero => exact ⟨1, Nat.le_refl _, fun i hi => by omega⟩
  | succ s ih =>
    obtain ⟨K, h1, h2⟩ := ih
    obtain ⟨L, h3, h4⟩ := one k (V s)
    refine ⟨K + L, by omega, fun i hi j hj => ?_⟩
    rcases Nat.lt_or_eq_of_le (Nat.lt_succ_iff.1 hi) with h | rfl
    · have := h2 i h j hj; omega
    · have := h4 j hj; omega
/-- k + 1 vectors of k numbers depend on each other. -/
theorem any_rel (k : Nat) (V : Nat → Nat → Int) : ∃ y : Nat → Int, (∃ i, i < k + 1 ∧ y i ≠ 0) ∧ ∀ j, j < k → sumN (k + 1) (fun i => y i * V i j) = 0 := by
  obtain ⟨K, hK, hV⟩ := bounded (k + 1) k V
  obtain ⟨y, h1, _, h3⟩ := small_rel k K hK V hV
  exact ⟨y, h1, h3⟩
end Go.Proofs.Ytbclnklejleobaa
