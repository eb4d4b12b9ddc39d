/- What is true of maps: every link of a map was crossed. -/
import Derived.Test.YtbjjgcfmdlinaaaTrN
namespace Go.Proofs.Ytbjjgcfmdlinaaa
open Go.RowKit
/-- A step from x to y crosses the link p. -/
def stepB (p : Int × Int) (x y : Int) : Bool := (decide (x = p.1) && decide (y = p.2)) || (decide (x = p.2) && decide (y = p.1))
/-- Whether one of the first k places of a trace was come to over the link p. -/
def crR (h : List Int) (p : Int × Int) : Nat → Bool
  | 0 => false
  | k + 1 => if k = 0 then false else crR h p k || stepB p (h.getD (k - 1) 0) (h.getD k 0)
def crK (ms : List (List Int)) (p : Int × Int) : Nat → Bool
  | 0 => false
  | i + 1 => crK ms p i || crR (row ms i) p (row ms i).length
theorem crR_one (h : List Int) (p : Int × Int) : crR h p 1 = false := by simp [crR]
theorem crR_next (h : List Int) (p : Int × Int) (k : Nat) : crR h p (k + 1 + 1) = (crR h p (k + 1) || stepB p (h.getD k 0) (h.getD (k + 1) 0)) := by
  rw [crR, if_neg (by omega)]
  rfl
theorem trAt_diff {h : List Int} (ht : trOk h = true) {k : Nat} (hk : k + 1 < h.length) (h1 : 0 ≤ h.getD (k + 1) 0) : ¬ h.getD k 0 = h.getD (k + 1) 0 := fun e => by
  have := (trOk_true.1 ht).2 (k + 1) hk
  unfold trAt at this
  simp only [Bool.and_eq_true, Bool.or_eq_true, decide_eq_true_eq, Bool.not_eq_true'] at this
  rcases this.2 with h2 | h2
  · omega
  · have hy := hasB_yes (zs := h.take (k + 1)) (x := h.getD (k + 1) 0) (k := k) (by simp; omega) (by rw [← e]; simp [List.getD])
    rw [h2] at hy
    cases hy
theorem step_min {x y : Int} : stepB (minV x y, maxV x y) x y = true := by
  unfold stepB minV maxV
  by_cases h : y < x
  · rw [if_pos h, if_neg (by omega)]; simp
  · by_cases h2 : x < y
    · rw [if_neg h, if_pos h2]; simp
    · rw [if_neg h, if_neg h2]
      have : x = y := by omega
      simp [this]
theorem mapR_has {h : List Int} (ht : trOk h = true) {acc : List (Int × Int)} {p : Int × Int} : ∀ k, k ≤ h.length → p ∈ mapR h acc k → p ∈ acc ∨ (crR h p k = true ∧ p.1 < p.2)
  | 0, _, hp => .inl hp
  | 1, _, hp => .inl (by rw [mapR_one] at hp; exact hp)
  | k + 1 + 1, hk, hp => by
    have ih := mapR_has ht (acc := acc) (p := p) (k + 1) (by omega)
    rw [mapR_next] at hp
    rw [crR_next]
    by_cases h2 : 0 ≤ h.getD k 0 ∧ 0 ≤ h.getD (k + 1) 0
    · rw [if_pos h2, putL_mem] at hp
      rcases hp with rfl | hp
      · right
        refine ⟨by rw [step_min]; simp, ?_⟩
        have hd := trAt_diff ht (k := k) (by omega) h2.2
        simp only [minV, maxV]
        by_cases h3 : h.getD (k + 1) 0 < h.getD k 0
        · rw [if_pos h3, if_neg (by omega)]; exact h3
        · rw [if_neg h3, if_pos (by omega)]; omega
      · rcases ih hp with h3 | ⟨h3, h4⟩
        · exact .inl h3
        · exact .inr ⟨by rw [h3]; simp, h4⟩
    · rw [if_neg h2] at hp
      rcases ih hp with h3 | ⟨h3, h4⟩
      · exact .inl h3
      · exact .inr ⟨by rw [h3]; simp, h4⟩
theorem mapK_has {ms : List (List Int)} (ht : ∀ i, i < ms.length → trOk (row ms i) = true) {p : Int × Int} : ∀ i, i ≤ ms.length → p ∈ mapK ms i → crK ms p i = true ∧ p.1 < p.2
  | 0, _, hp => by cases hp
  | i + 1, hi, hp => by
    rcases mapR_has (ht i (by omega)) _ (Nat.le_refl _) hp with h | ⟨h, h2⟩
    · have := mapK_has ht i (by omega) h
      exact ⟨by rw [crK, this.1]; rfl, this.2⟩
    · exact ⟨by rw [crK, h]; simp, h2⟩
theorem map_has {ms : List (List Int)} (h : areT ms = true) {r : Nat} (hr : r < (mapV ms).length) : crK ms ((mapV ms).getD r (0, 0)) ms.length = true ∧ ((mapV ms).getD r (0, 0)).1 < ((mapV ms).getD r (0, 0)).2 := by
  have e : mapV ms = mapK ms ms.length := by unfold mapV; rw [if_pos h]
  have hm : (mapV ms).getD r (0, 0) ∈ mapV ms := by simp [List.getD, hr]
  rw [e] at hm ⊢
  exact mapK_has (areT_true.1 h).1 _ (Nat.le_refl _) hm
theorem map_none {ms : List (List Int)} (h : areT ms = false) : mapV ms = [] := by unfold mapV; rw [h]; rfl
/-- Whether all of the first i links of a map are links of the network. -/
def fitK (b : Bool) (ls m : List (Int × Int)) : Nat → Bool
  | 0 => b
  | i + 1 => fitK b ls m i && decide (lk ls (m.getD i (0, 0)).1 (m.getD i (0, 0)).2 ≥ 0)
theorem fitK_all (b : Bool) (ls m : List (Int × Int)) : ∀ n, n ≤ m.length → fitK b ls m n = (b && (m.take n).all (fun e => decide (0 ≤ lk ls e.1 e.2)))
  | 0, _ => by simp [fitK]
  | n + 1, hn => by
    rw [fitK, fitK_all b ls m n (by omega), List.take_add_one]
    have e : m[n]?.toList = [m.getD n (0, 0)] := by simp [List.getD, show n < m.length by omega]
    rw [e, List.all_append, Bool.and_assoc]
    simp
theorem fitK_fits {n : Int} {ls : List (Int × Int)} {ms : List (List Int)} (h : areT ms = true) : fitK (netB n ls) ls (mapV ms) (mapV ms).length = fitsB n ls ms := by
  rw [fitK_all _ _ _ _ (Nat.le_refl _), List.take_length]
  unfold fitsB
  rw [h, Bool.true_and]
theorem fits_bad {n : Int} {ls : List (Int × Int)} {ms : List (List Int)} (h : areT ms = false) : fitsB n ls ms = false := fits_tr h
end Go.Proofs.Ytbjjgcfmdlinaaa
