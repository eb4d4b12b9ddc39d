/- All columns follow just where there are as many reduced rows as columns; twins of what follows. Plain mathematics for chapter 14. -/
import Derived.Test.YtedkeobhcpbigaaToS
namespace Go.Proofs.Ytedkeobhcpbigaa
open Go.RowKit
theorem unitK_at (k : Int) : ∀ (n j : Nat), j < n → vec (unitK k n) j = if (j : Int) = k then 1 else 0
  | 0, j, h => by omega
  | n + 1, j, h => by
    rw [unitK]
    rcases Nat.lt_or_eq_of_le (Nat.lt_succ_iff.1 h) with h1 | h1
    · have := unitK_at k n j h1
      simp only [vec, List.getD] at this ⊢
      rw [List.getElem?_append_left (by rw [unitK_len]; exact h1)]
      exact this
    · subst h1
      simp [vec, List.getD, unitK_len]
theorem unitV_yes {ms : List (List Int)} {n : Nat} (h : isMat ms (n : Int) = true) {k : Nat} (hk : k < n) : unitV (k : Int) (n : Int) = unitK (k : Int) n := by
  have := (isMat_true h).1
  rw [unitV_is (inR_true.2 ⟨by omega, by omega⟩) (inR_true.2 ⟨by omega, by omega⟩), Int.toNat_natCast]
theorem both_unit {ms : List (List Int)} {n : Nat} (h : isMat ms (n : Int) = true) {k : Nat} : bothV ms (unitK (k : Int) n) = true := by
  have h1 := (isMat_true h).1
  simp only [bothV, Bool.and_eq_true, unitK_len]
  refine ⟨h, ?_⟩
  simp only [isMat, Bool.and_eq_true, decide_eq_true_eq]
  refine ⟨inR_true.2 (by omega), by simp, ?_⟩
  simp only [List.all_cons, List.all_nil, Bool.and_true]
  refine rowOk_yes (by rw [unitK_len]) (fun c hc => ?_)
  rw [unitK_len] at hc
  have h2 := unitK_at (k : Int) n c hc
  unfold vec at h2
  rw [h2]
  split <;> decide
/-- A column follows where its unit row is in the span. -/
theorem unit_iff {ms : List (List Int)} {n : Nat} (h : isMat ms (n : Int) = true) {k : Nat} (hk : k < n) : inSpanV ms (unitV (k : Int) (n : Int)) = true ↔ InSpan n ms.length (fun i => vec (row ms i)) (fun j => if j = k then 1 else 0) := by
  rw [unitV_yes h hk]
  have h1 := inSpan_iff (both_unit h (k := k))
  rw [unitK_len] at h1
  have e : ∀ j, j < n → vec (unitK (k : Int) n) j = if j = k then 1 else 0 := fun j hj => by
    rw [unitK_at _ _ _ hj]
    by_cases h2 : j = k
    · rw [if_pos h2, if_pos (by omega)]
    · rw [if_neg h2, if_neg (by omega)]
  exact h1.trans ⟨fun h => span_congr h (fun j hj => (e j hj).symm), fun h => span_congr h e⟩
/-- No other column is the twin of one that follows. -/
theorem unit_alone {ms : List (List Int)} {n : Nat} (h : isMat ms (n : Int) = true) {k l : Nat} (hk : k < n) (hl : l < n) (hkl : ¬ l = k) (hin : inSpanV ms (unitV (k : Int) (n : Int)) = true) : ¬ ∀ i, i < ms.length → vec (row ms i) l = vec (row ms i) k := fun he => by
  have := span_same ((unit_iff h hk).1 hin) hl hk he
  simp only [if_neg hkl, if_true] at this
  omega
theorem leads_all {r : Nat} {c : Nat → Nat} (hlt : ∀ t, t < r → c t < r) (hm : ∀ i j, i < j → j < r → c i < c j) : ∀ d t, t + d = r → 0 < d → c t = t := by
  have lo : ∀ t, t < r → t ≤ c t := fun t => by
    induction t with
    | zero => exact fun _ => Nat.zero_le _
    | succ t ih => exact fun h => by have := ih (by omega); have := hm t (t + 1) (by omega) h; omega
  have hi : ∀ d t, t + d + 1 = r → c t ≤ t := fun d => by
    induction d with
    | zero => exact fun t h => by have := hlt t (by omega); omega
    | succ d ih => exact fun t h => by have := ih (t + 1) (by omega); have := hm t (t + 1) (by omega) (by omega); omega
  intro d t h hd
  have := lo t (by omega)
  have := hi (d - 1) t (by omega)
  omega
/-- All columns follow just where there are as many reduced rows as columns. -/
theorem units_iff {ms : List (List Int)} {n : Nat} (h : isMat ms (n : Int) = true) : (∀ k, k < n → inSpanV ms (unitV (k : Int) (n : Int)) = true) ↔ (rrL ms n).length = n := by
  have f1 := fine_of h
  rw [Int.toNat_natCast] at f1
  obtain ⟨c, o, hr⟩ := f1.reduced
  have hle := hr.el.rk
  constructor
  · intro ha
    rcases Nat.lt_or_ge (rrL ms n).length n with h1 | h1
    · obtain ⟨z, ⟨i, hi, hz⟩, h0⟩ := span_rel (n := n) (fun k j => if j = k then (1 : Int) else 0) (fun k hk => span_trans ((unit_iff h (by omega : k < n)).1 (ha k (by omega))) (fun t ht => hr.src_span ht))
      have h2 := h0 i (by omega)
      rw [sumN_one hi (fun t _ hne => by simp [Ne.symm hne])] at h2
      simp at h2
      exact absurd h2 hz
    · omega
  · intro he k hk
    rw [unit_iff h hk]
    have hc : ∀ t, t < n → c t = t := fun t ht => leads_all (r := n) (fun t ht => hr.red.lt t (by omega)) (fun i j h1 h2 => hr.red.mono i j h1 (by omega)) (n - t) t (by omega) (by omega)
    have hE : InSpan n (rrL ms n).length (fun i => vec (row (redL (ms.map tidyL) n).1 i)) (fun j => if j = k then 1 else 0) := by
      have hp := hr.red.pos k (by omega)
      rw [hc k hk] at hp
      refine ⟨_, fun t => if t = k then 1 else 0, (by omega : vec (row (redL (ms.map tidyL) n).1 k) k ≠ 0), fun j hj => ?_⟩
      rw [sumN_one (a := k) (by omega) (fun t _ hne => by simp [hne])]
      simp only [if_true, Int.one_mul]
      by_cases hjk : j = k
      · rw [if_pos hjk, hjk, Int.mul_one]
      · have := hr.red.off j (by omega) k (by omega) (Ne.symm hjk)
        rw [hc j hj] at this
        rw [if_neg hjk, Int.mul_zero, this]
    refine span_trans hE (fun t ht => ?_)
    exact span_trans (hr.el.span1 t ht) (fun u hu => span_row (M := fun i => vec (row ms i)) (hr.el.olt u (by have := hr.el.rs; omega)))
theorem toldK_all {ms : List (List Int)} {c : Int} : ∀ k : Nat, ((toldK ms c k).length = k ↔ ∀ j : Nat, j < k → inSpanV ms (unitV (j : Int) c) = true)
  | 0 => ⟨fun _ j h => by omega, fun _ => rfl⟩
  | k + 1 => by
    have ih := toldK_all (ms := ms) (c := c) k
    have hl := toldK_len ms c k
    rw [toldK]
    split
    · rename_i h
      rw [List.length_append, List.length_singleton]
      constructor
      · intro h1 j hj
        rcases Nat.lt_or_eq_of_le (Nat.lt_succ_iff.1 hj) with h2 | h2
        · exact ih.1 (by omega) j h2
        · rw [h2]; exact h
      · intro h1
        rw [ih.2 (fun j hj => h1 j (by omega))]
    · rename_i h
      constructor
      · intro h1; omega
      · intro h1; exact absurd (h1 k (by omega)) h
theorem toldK_mem {ms : List (List Int)} {c : Int} {x : Int} : ∀ k : Nat, (x ∈ toldK ms c k ↔ ∃ j : Nat, j < k ∧ x = (j : Int) ∧ inSpanV ms (unitV (j : Int) c) = true)
  | 0 => ⟨fun h => by simp [toldK] at h, fun ⟨j, h, _⟩ => by omega⟩
  | k + 1 => by
    have ih := toldK_mem (ms := ms) (c := c) (x := x) k
    rw [toldK]
    split
    · rename_i h
      rw [List.mem_append, List.mem_singleton, ih]
      constructor
      · rintro (⟨j, h1, h2⟩ | h1)
        · exact ⟨j, by omega, h2⟩
        · exact ⟨k, by omega, h1, h⟩
      · rintro ⟨j, h1, h2, h3⟩
        rcases Nat.lt_or_eq_of_le (Nat.lt_succ_iff.1 h1) with h4 | h4
        · exact .inl ⟨j, h4, h2, h3⟩
        · exact .inr (by rw [h2, h4])
    · rename_i h
      rw [ih]
      constructor
      · rintro ⟨j, h1, h2⟩
        exact ⟨j, by omega, h2⟩
      · rintro ⟨j, h1, h2, h3⟩
        rcases Nat.lt_or_eq_of_le (Nat.lt_succ_iff.1 h1) with h4 | h4
        · exact ⟨j, h4, h2, h3⟩
        · rw [h4] at h3; exact absurd h3 h
end Go.Proofs.Ytedkeobhcpbigaa
