/- The varints of numbers, as lists; what is read from them: without a program. -/
import Derived.WalkKit
namespace Go.Proofs.Ytklookaggnohdaa
/-- The varint of n: groups of seven bits, the lowest first, all but the last with 128 added. -/
def enc (n : Nat) : List Int := if n < 128 then [(n : Int)] else ((n % 128 + 128 : Nat) : Int) :: enc (n / 128)
termination_by n
decreasing_by omega
theorem enc_low {n : Nat} (h : n < 128) : enc n = [(n : Int)] := by rw [enc]; simp [h]
theorem enc_high {n : Nat} (h : 128 ≤ n) : enc n = ((n % 128 + 128 : Nat) : Int) :: enc (n / 128) := by rw [enc]; simp [show ¬ n < 128 by omega]
theorem enc_bytes (n : Nat) : ∀ x ∈ enc n, 0 ≤ x ∧ x ≤ 255 := by
  induction n using Nat.strongRecOn with
  | ind n ih =>
    intro x hx
    by_cases h : n < 128
    · rw [enc_low h] at hx; simp at hx; omega
    · rw [enc_high (by omega)] at hx
      rcases List.mem_cons.1 hx with rfl | hx
      · omega
      · exact ih (n / 128) (by omega) x hx
theorem enc_pos (n : Nat) : 0 < (enc n).length := by
  by_cases h : n < 128
  · simp [enc_low h]
  · simp [enc_high (n := n) (by omega)]
theorem enc_len (j : Nat) : ∀ n : Nat, n < 128 ^ (j + 1) → (enc n).length ≤ j + 1 := by
  induction j with
  | zero => intro n h; rw [enc_low (by simpa using h)]; simp
  | succ j ih =>
    intro n h
    by_cases h1 : n < 128
    · simp [enc_low h1]
    · rw [enc_high (by omega)]
      have := ih (n / 128) (by rw [Nat.div_lt_iff_lt_mul (by decide)]; rw [Nat.pow_succ] at h; exact h)
      simp; omega
theorem enc_len6 {n : Nat} (h : n ≤ 1000000000000) : (enc n).length ≤ 6 := enc_len 5 n (by omega)
/-- The greatest number that is encoded. -/
def inU (n : Int) : Prop := 0 ≤ n ∧ n ≤ 1000000000000
instance (n : Int) : Decidable (inU n) := by unfold inU; exact inferInstance
/-- What AppendUvarint gives. -/
def encTo (zs : List Int) (n : Int) : List Int := if inU n then zs ++ enc n.toNat else zs
/-- What is read from group k on, after the number m of the groups before. -/
def dec : List Int → Nat → Int → Option (Int × Nat)
  | [], _, _ => none
  | x :: l, k, m => if k < 6 then
      if x < 128 then (if (x = 0 ∧ 0 < k) ∨ 1000000000000 < m + x % 128 * 128 ^ k then none else some (m + x % 128 * 128 ^ k, k + 1))
      else dec l (k + 1) (m + x % 128 * 128 ^ k)
    else none
/-- What ReadUvarint finds. -/
def rd (zs : List Int) (o : Int) : Option (Int × Int) :=
  if 0 ≤ o ∧ o ≤ zs.length then (dec (zs.drop o.toNat) 0 0).map (fun p => (p.1, o + (p.2 : Int))) else none
theorem dec_far (l : List Int) (k : Nat) (m : Int) (h : 6 ≤ k) : dec l k m = none := by
  cases l <;> simp [dec, show ¬ k < 6 by omega]
theorem pow128 (k : Nat) : (128 : Int) ^ (k + 1) = 128 ^ k * 128 := by rw [Int.pow_succ]
theorem pow128_pos (k : Nat) : (1 : Int) ≤ 128 ^ k := by
  induction k with
  | zero => simp
  | succ k ih => rw [pow128]; omega
theorem dec_enc (rest : List Int) : ∀ (n k : Nat) (m : Int), 0 ≤ m → (0 < k → 0 < n) → m + n * 128 ^ k ≤ 1000000000000 → dec (enc n ++ rest) k m = some (m + n * 128 ^ k, k + (enc n).length) := by
  intro n
  induction n using Nat.strongRecOn with
  | ind n ih =>
    intro k m hm h0 hb
    have hp := pow128_pos k
    have hk : k < 6 := by
      rcases Nat.lt_or_ge k 6 with h | h
      · exact h
      · exfalso
        have hn := h0 (by omega)
        have e : (128 : Int) ^ k = 128 ^ 6 * 128 ^ (k - 6) := by rw [← Int.pow_add]; congr 1; omega
        have := pow128_pos (k - 6)
        have h2 : (128 : Int) ^ 6 * 1 ≤ 128 ^ 6 * 128 ^ (k - 6) := Int.mul_le_mul_of_nonneg_left this (by decide)
        have h3 : (1 : Int) * 128 ^ k ≤ n * 128 ^ k := Int.mul_le_mul_of_nonneg_right (by omega) (by omega)
        have h4 : (128 : Int) ^ 6 = 4398046511104 := by decide
        omega
    by_cases h : n < 128
    · rw [enc_low h]
      have hx : (n : Int) % 128 = n := by omega
      simp only [List.cons_append, List.nil_append, dec, hk, if_true, hx, List.length_cons, List.length_nil, Nat.zero_add]
      rw [if_pos (by omega), if_neg (by omega)]
    · rw [enc_high (by omega)]
      have hx : (((n % 128 + 128 : Nat) : Int)) % 128 = ((n % 128 : Nat) : Int) := by omega
      simp only [List.cons_append, dec, hk, if_true, hx, List.length_cons]
      rw [if_neg (by omega)]
      have hsum : m + ((n % 128 : Nat) : Int) * 128 ^ k + ((n / 128 : Nat) : Int) * 128 ^ (k + 1) = m + n * 128 ^ k := by
        have e : (n : Int) = ((n % 128 : Nat) : Int) + ((n / 128 : Nat) : Int) * 128 := by omega
        rw [pow128]
        conv => rhs; rw [e]
        rw [Int.add_mul, Int.mul_assoc, Int.mul_comm 128 (128 ^ k), Int.add_assoc]
      have hnn : 0 ≤ ((n % 128 : Nat) : Int) * 128 ^ k := Int.mul_nonneg (by omega) (by omega)
      rw [ih (n / 128) (by omega) (k + 1) _ (by omega) (by intro _; omega) (by rw [hsum]; exact hb), hsum]
      congr 2
      omega
theorem dec_min : ∀ (l : List Int) (k : Nat) (m v : Int) (q : Nat), (∀ x ∈ l, 0 ≤ x ∧ x ≤ 255) → dec l k m = some (v, q) →
    ∃ (n : Nat) (rest : List Int), l = enc n ++ rest ∧ v = m + n * 128 ^ k ∧ q = k + (enc n).length ∧ (0 < k → 0 < n) ∧ v ≤ 1000000000000 := by
  intro l
  induction l with
  | nil => intro k m v q _ h; simp [dec] at h
  | cons x l ih =>
    intro k m v q hb h
    have hx := hb x (by simp)
    simp only [dec] at h
    split at h
    · split at h
      · split at h
        · cases h
        · rename_i hlt hne
          simp only [Option.some.injEq, Prod.mk.injEq] at h
          obtain ⟨rfl, rfl⟩ := h
          refine ⟨x.toNat, l, ?_, ?_, ?_, ?_, by omega⟩
          · rw [enc_low (by omega)]; simp; omega
          · have e1 : x % 128 = x := by omega
            have e2 : ((x.toNat : Nat) : Int) = x := by omega
            rw [e1, e2]
          · rw [enc_low (by omega)]; simp
          · intro hk; omega
      · obtain ⟨n, rest, rfl, rfl, rfl, h0, hv⟩ := ih (k + 1) _ v q (fun y hy => hb y (by simp [hy])) h
        have hn := h0 (by omega)
        refine ⟨n * 128 + (x % 128).toNat, rest, ?_, ?_, ?_, by intro; omega, hv⟩
        · rw [enc_high (n := n * 128 + (x % 128).toNat) (by omega)]
          have e1 : (n * 128 + (x % 128).toNat) / 128 = n := by omega
          have e2 : (((n * 128 + (x % 128).toNat) % 128 + 128 : Nat) : Int) = x := by omega
          rw [e1, e2]; rfl
        · have e : ((n * 128 + (x % 128).toNat : Nat) : Int) = n * 128 + x % 128 := by omega
          rw [e, pow128, Int.add_mul, Int.mul_assoc, Int.mul_comm 128 (128 ^ k)]
          omega
        · rw [enc_high (n := n * 128 + (x % 128).toNat) (by omega)]
          have e1 : (n * 128 + (x % 128).toNat) / 128 = n := by omega
          rw [e1]; simp; omega
    · cases h
theorem encTo_in {zs : List Int} {n : Int} (h : inU n) : encTo zs n = zs ++ enc n.toNat := by simp [encTo, h]
theorem encTo_out {zs : List Int} {n : Int} (h : ¬ inU n) : encTo zs n = zs := by simp [encTo, h]
theorem encTo_len (zs : List Int) (n : Int) : (encTo zs n).length ≤ zs.length + 6 := by
  by_cases h : inU n
  · rw [encTo_in h, List.length_append]
    unfold inU at h
    have := enc_len6 (n := n.toNat) (by omega)
    omega
  · rw [encTo_out h]; omega
/-- What was appended is read. -/
theorem rd_encTo (zs rest : List Int) (n : Int) (h : inU n) : rd (zs ++ enc n.toNat ++ rest) zs.length = some (n, ((zs.length + (enc n.toNat).length : Nat) : Int)) := by
  have hu := h
  unfold inU at hu
  unfold rd
  rw [if_pos (by simp; omega)]
  have e : ((zs.length : Int)).toNat = zs.length := by omega
  rw [e, List.append_assoc, List.drop_left]
  rw [dec_enc rest n.toNat 0 0 (by omega) (by omega) (by simp; omega)]
  simp
  omega
/-- What was read is the encoding. -/
theorem rd_some {zs : List Int} {o m q : Int} (hb : ∀ x ∈ zs, 0 ≤ x ∧ x ≤ 255) (h : rd zs o = some (m, q)) :
    0 ≤ o ∧ o < q ∧ q ≤ zs.length ∧ q ≤ o + 6 ∧ inU m ∧ (zs.drop o.toNat).take (q - o).toNat = enc m.toNat := by
  unfold rd at h
  split at h
  · rename_i ho
    obtain ⟨⟨v, c⟩, hd, he⟩ := Option.map_eq_some_iff.1 h
    simp only [Prod.mk.injEq] at he
    obtain ⟨rfl, rfl⟩ := he
    obtain ⟨n, rest, hl, hv, hc, _, hv2⟩ := dec_min _ 0 0 v c (fun x hx => hb x (List.mem_of_mem_drop hx)) hd
    have hvn : v = n := by simpa using hv
    have hcn : c = (enc n).length := by simpa using hc
    subst hvn hcn
    have hlen : (zs.drop o.toNat).length = (enc n).length + rest.length := by rw [hl, List.length_append]
    rw [List.length_drop] at hlen
    have := enc_pos n
    have h6 := enc_len6 (n := n) (by omega)
    refine ⟨ho.1, by omega, by omega, by omega, ⟨by omega, hv2⟩, ?_⟩
    rw [hl]
    have e1 : (o + ((enc n).length : Int) - o).toNat = (enc n).length := by omega
    rw [e1]
    simp
  · cases h
/-! ### The reading, group by group -/
/-- At group k, with the number n read so far. -/
def Reading (zs : List Int) (o : Int) (k : Nat) (n : Int) : Prop := 0 ≤ o ∧ o ≤ zs.length ∧ k ≤ 6 ∧ 0 ≤ n ∧ n < 128 ^ k ∧ dec (zs.drop o.toNat) 0 0 = dec (zs.drop (o.toNat + k)) k n
theorem reading_start {zs : List Int} {o : Int} (h0 : 0 ≤ o) (h1 : o ≤ zs.length) : Reading zs o 0 0 := ⟨h0, h1, by omega, by omega, by decide, rfl⟩
theorem pow128_lt {k : Nat} (h : k ≤ 6) : (128 : Int) ^ k ≤ 4398046511104 := by
  have : k = 0 ∨ k = 1 ∨ k = 2 ∨ k = 3 ∨ k = 4 ∨ k = 5 ∨ k = 6 := by omega
  rcases this with rfl | rfl | rfl | rfl | rfl | rfl | rfl <;> decide
/-- What a group adds. -/
def addG (n x : Int) (k : Nat) : Int := n + x % 128 * 128 ^ k
theorem addG_bd {n x : Int} {k : Nat} (h0 : 0 ≤ n) (h1 : n < 128 ^ k) : 0 ≤ addG n x k ∧ addG n x k < 128 ^ (k + 1) := by
  have hp := pow128_pos k
  have h2 : 0 ≤ x % 128 * 128 ^ k := Int.mul_nonneg (by omega) (by omega)
  have h3 : x % 128 * 128 ^ k ≤ 127 * 128 ^ k := Int.mul_le_mul_of_nonneg_right (by omega) (by omega)
  unfold addG
  rw [pow128]
  omega
theorem drop_cons {zs : List Int} {j : Nat} (h : j < zs.length) : zs.drop j = zs.getD j 0 :: zs.drop (j + 1) := by
  rw [List.drop_eq_getElem_cons h]
  simp [List.getD, h]
theorem reading_more {zs : List Int} {o : Int} {k : Nat} {n : Int} (h : Reading zs o k n) (h6 : k < 6) (hj : o.toNat + k < zs.length) (hx : 128 ≤ zs.getD (o.toNat + k) 0) : Reading zs o (k + 1) (addG n (zs.getD (o.toNat + k) 0) k) := by
  obtain ⟨g0, g1, g2, g3, g4, g5⟩ := h
  have hb := addG_bd (x := zs.getD (o.toNat + k) 0) g3 g4
  refine ⟨g0, g1, by omega, hb.1, hb.2, ?_⟩
  rw [g5, drop_cons hj]
  simp only [dec]
  rw [if_pos h6, if_neg (by omega)]
  rfl
theorem reading_last {zs : List Int} {o : Int} {k : Nat} {n : Int} (h : Reading zs o k n) (h6 : k < 6) (hj : o.toNat + k < zs.length) (hx : zs.getD (o.toNat + k) 0 < 128) :
    rd zs o = if (zs.getD (o.toNat + k) 0 = 0 ∧ 0 < k) ∨ 1000000000000 < addG n (zs.getD (o.toNat + k) 0) k then none else some (addG n (zs.getD (o.toNat + k) 0) k, o + k + 1) := by
  obtain ⟨g0, g1, g2, g3, g4, g5⟩ := h
  unfold rd
  rw [if_pos ⟨g0, g1⟩, g5, drop_cons hj]
  simp only [dec]
  rw [if_pos h6, if_pos hx]
  unfold addG
  split
  · rfl
  · simp [Int.add_assoc]
theorem reading_end {zs : List Int} {o : Int} {k : Nat} {n : Int} (h : Reading zs o k n) (he : 6 ≤ k ∨ zs.length ≤ o.toNat + k) : rd zs o = none := by
  obtain ⟨g0, g1, g2, g3, g4, g5⟩ := h
  unfold rd
  rw [if_pos ⟨g0, g1⟩, g5]
  rcases he with he | he
  · rw [dec_far _ _ _ he]; rfl
  · rw [List.drop_eq_nil_of_le he]; rfl
theorem rd_out {zs : List Int} {o : Int} (h : ¬ (0 ≤ o ∧ o ≤ zs.length)) : rd zs o = none := by
  unfold rd
  rw [if_neg h]
end Go.Proofs.Ytklookaggnohdaa
