/- A list sorted, each number kept once: plain words. -/
import Derived.Test.YtgninjdnfidpcaaInsF
import Derived.Lib.SlicesCompact
namespace Go.Proofs.Ytgninjdnfidpcaa
open Go.RowKit
theorem keep_mem (d : Array Int) : ∀ j, j < d.size → ∀ m, j < m → d[j]! ∈ Lib.compactUpTo d m
  | 0, _, m, hm => by
    unfold Lib.compactUpTo
    exact List.mem_map.2 ⟨0, List.mem_filter.2 ⟨List.mem_range.2 hm, by simp [Lib.keeps]⟩, rfl⟩
  | j + 1, hj, m, hm => by
    by_cases h : d[j + 1]! = d[j]!
    · rw [h]
      exact keep_mem d j (by omega) m (by omega)
    · unfold Lib.compactUpTo
      exact List.mem_map.2 ⟨j + 1, List.mem_filter.2 ⟨List.mem_range.2 hm, by simp [Lib.keeps, h]⟩, rfl⟩
theorem compact_mem {zs : List Int} {x : Int} : x ∈ Lib.compact zs ↔ x ∈ zs := by
  unfold Lib.compact
  constructor
  · intro h
    unfold Lib.compactUpTo at h
    obtain ⟨j, hj, rfl⟩ := List.mem_map.1 h
    have hj2 : j < zs.length := List.mem_range.1 (List.mem_filter.1 hj).1
    simp [hj2]
  · intro h
    obtain ⟨j, hj, rfl⟩ := List.mem_iff_getElem.1 h
    have := keep_mem zs.toArray j (by simpa using hj) zs.length hj
    simpa [hj] using this
theorem upto_asc (d : Array Int) (hd : ∀ i j, i ≤ j → j < d.size → d[i]! ≤ d[j]!) : ∀ m, m ≤ d.size → Asc (Lib.compactUpTo d m)
  | 0, _ => by simp [Lib.compactUpTo, Asc]
  | m + 1, hm => by
    rw [Lib.compactUpTo_succ]
    have ih := upto_asc d hd m (by omega)
    by_cases hk : Lib.keeps d m = true
    · rw [if_pos hk]
      refine List.pairwise_append.2 ⟨ih, List.pairwise_singleton _ _, fun a ha b hb => ?_⟩
      obtain rfl := List.mem_singleton.1 hb
      unfold Lib.compactUpTo at ha
      obtain ⟨i, hi, rfl⟩ := List.mem_map.1 ha
      have him : i < m := List.mem_range.1 (List.mem_filter.1 hi).1
      have h1 := hd i (m - 1) (by omega) (by omega)
      have h2 := hd (m - 1) m (by omega) (by omega)
      have h3 : m = 0 ∨ d[m]! ≠ d[m - 1]! := by simpa [Lib.keeps] using hk
      rcases h3 with h3 | h3
      · omega
      · omega
    · rw [if_neg hk, List.append_nil]
      exact ih
def sortI (l : List Int) : List Int := l.mergeSort fun x y => decide (x ≤ y)
theorem sortI_mem {l : List Int} {x : Int} : x ∈ sortI l ↔ x ∈ l := (List.mergeSort_perm l _).mem_iff
theorem sortI_len (l : List Int) : (sortI l).length = l.length := (List.mergeSort_perm l _).length_eq
theorem sortI_le (l : List Int) : (sortI l).Pairwise (· ≤ ·) := by
  have h := List.pairwise_mergeSort (le := fun x y : Int => decide (x ≤ y)) (fun a b c h1 h2 => by simp only [decide_eq_true_eq] at *; omega) (fun a b => by simp only [Bool.or_eq_true, decide_eq_true_eq]; omega) l
  exact h.imp (fun h => by simpa using h)
theorem compact_sort_asc (l : List Int) : Asc (Lib.compact (sortI l)) := by
  unfold Lib.compact
  refine upto_asc _ (fun i j hij hj => ?_) _ (by simp)
  have hj2 : j < (sortI l).length := by simpa using hj
  have hi2 : i < (sortI l).length := by omega
  simp only [List.getElem!_toArray]
  rw [getElem!_pos _ i hi2, getElem!_pos _ j hj2]
  rcases Nat.lt_or_ge i j with h | h
  · exact List.pairwise_iff_getElem.1 (sortI_le l) i j hi2 hj2 h
  · obtain rfl : i = j := by omega
    exact Int.le_refl _
theorem compact_len (zs : List Int) : (Lib.compact zs).length ≤ zs.length := by
  unfold Lib.compact Lib.compactUpTo
  rw [List.length_map]
  exact Nat.le_trans (List.length_filter_le _ _) (by simp)
theorem asc_uniq : ∀ {a b : List Int}, Asc a → Asc b → (∀ x, x ∈ a ↔ x ∈ b) → a = b
  | [], [], _, _, _ => rfl
  | [], y :: b, _, _, h => absurd ((h y).2 (List.mem_cons_self ..)) (by simp)
  | x :: a, [], _, _, h => absurd ((h x).1 (List.mem_cons_self ..)) (by simp)
  | x :: a, y :: b, ha, hb, h => by
    have ha1 := List.pairwise_cons.1 ha
    have hb1 := List.pairwise_cons.1 hb
    have exy : x = y := by
      rcases List.mem_cons.1 ((h x).1 (List.mem_cons_self ..)) with e | e
      · exact e
      · rcases List.mem_cons.1 ((h y).2 (List.mem_cons_self ..)) with e2 | e2
        · exact e2.symm
        · have := hb1.1 x e
          have := ha1.1 y e2
          omega
    subst exy
    congr 1
    refine asc_uniq ha1.2 hb1.2 fun z => ?_
    have hz := h z
    simp only [List.mem_cons] at hz
    constructor
    · intro hm
      rcases hz.1 (.inr hm) with rfl | e
      · have := ha1.1 z hm; omega
      · exact e
    · intro hm
      rcases hz.2 (.inr hm) with rfl | e
      · have := hb1.1 z hm; omega
      · exact e
end Go.Proofs.Ytgninjdnfidpcaa
