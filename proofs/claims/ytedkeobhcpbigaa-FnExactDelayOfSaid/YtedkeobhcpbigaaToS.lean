/- Spans, twins and how many rows count. Plain mathematics for chapter 14. -/
import Derived.Test.YtedkeobhcpbigaaToG
import Derived.Test.YtedkeobhcpbigaaSpanF
namespace Go.Proofs.Ytedkeobhcpbigaa
open Go.RowKit
theorem inSpan_iff {ms : List (List Int)} {z : List Int} (hb : bothV ms z = true) : inSpanV ms z = true ↔ InSpan z.length ms.length (fun i => vec (row ms i)) (vec z) := by
  obtain ⟨c, o, hr⟩ := (both_fine hb).reduced
  rw [inSpan_yes hb, decide_eq_true_eq]
  constructor
  · intro h
    refine span_trans (span_of hr rfl h) (fun t ht => ?_)
    refine span_congr (span_trans (hr.el.span1 t ht) (fun u hu => span_row (hr.el.olt u (by have := hr.el.rs; omega)))) (fun j _ => (hr.rowv t ht j).symm)
  · intro h
    exact hr.leaves rfl (span_trans h (fun i hi => hr.src_span hi))
/-- What is the same in two columns of all rows is the same in all of the span. -/
theorem span_same {n s : Nat} {M : Nat → Nat → Int} {v : Nat → Int} (h : InSpan n s M v) {k l : Nat} (hk : k < n) (hl : l < n) (he : ∀ i, i < s → M i k = M i l) : v k = v l := by
  obtain ⟨d, c, hd, e⟩ := h
  have h1 := e k hk
  have h2 := e l hl
  rw [sumN_congr (fun i hi => by rw [he i hi]), ← h2] at h1
  exact Int.eq_of_mul_eq_mul_left hd h1
/-- Reduced rows do not depend on each other. -/
theorem Red.indep {n r : Nat} {E : Nat → Nat → Int} {l : Nat → Nat} (h : Red n r E l) {z : Nat → Int} (h0 : ∀ j, j < n → sumN r (fun t => z t * E t j) = 0) {i : Nat} (hi : i < r) : z i = 0 := by
  have h1 := h0 (l i) (h.lt i hi)
  rw [h.coef hi] at h1
  rcases Int.mul_eq_zero.1 h1 with h2 | h2
  · exact h2
  · have := h.pos i hi
    omega
theorem Red.first {n r k : Nat} {E : Nat → Nat → Int} {l : Nat → Nat} (h : Red n r E l) (hk : k ≤ r) : Red n k E l where
  lt := fun i hi => h.lt i (by omega)
  mono := fun i j hij hj => h.mono i j hij (by omega)
  pos := fun i hi => h.pos i (by omega)
  before := fun i hi => h.before i (by omega)
  off := fun i hi t ht => h.off i (by omega) t (by omega)
  prim := fun i hi => h.prim i (by omega)
theorem Red.few {n r k : Nat} {E P : Nat → Nat → Int} {l : Nat → Nat} (h : Red n r E l) (hs : ∀ i, i < r → InSpan n k P (E i)) : r ≤ k := by
  rcases Nat.lt_or_ge k r with h1 | h1
  · obtain ⟨z, ⟨i, hi, hz⟩, h0⟩ := span_rel E (fun i hi => hs i (by omega : i < r))
    exact absurd ((h.first (k := k + 1) (by omega)).indep h0 hi) hz
  · exact h1
/-- One row more, which does not follow. -/
theorem Red.more {n r r2 : Nat} {E E2 : Nat → Nat → Int} {l : Nat → Nat} {v : Nat → Int} (h : Red n r E l) (hs : ∀ i, i < r → InSpan n r2 E2 (E i)) (hv : InSpan n r2 E2 v) (hn : ¬ InSpan n r E v) : r + 1 ≤ r2 := by
  have hle := h.few hs
  rcases Nat.lt_or_ge r r2 with h1 | h1
  · exact h1
  · obtain rfl : r = r2 := by omega
    obtain ⟨z, ⟨i, hi, hz⟩, h0⟩ := span_rel (fun t => if t < r then E t else v) (fun i hi => by
      by_cases hir : i < r
      · simp only [if_pos hir]; exact hs i hir
      · simp only [if_neg hir]; exact hv)
    have h2 : ∀ j, j < n → sumN r (fun t => z t * E t j) + z r * v j = 0 := fun j hj => by
      have h3 := h0 j hj
      rw [sumN] at h3
      simp only [Nat.lt_irrefl, if_false] at h3
      rw [sumN_congr (g := fun t => z t * (if t < r then E t else v) j) (fun t ht => by rw [if_pos ht])]
      exact h3
    by_cases hzr : z r = 0
    · have h4 : ∀ {i : Nat}, i < r → z i = 0 := fun {i} hir => h.indep (z := z) (i := i) (fun j hj => by have := h2 j hj; rw [hzr, Int.zero_mul, Int.add_zero] at this; exact this) hir
      rcases Nat.lt_or_eq_of_le (Nat.lt_succ_iff.1 hi) with h5 | h5
      · exact absurd (h4 h5) hz
      · rw [h5] at hz
        exact absurd hzr hz
    · refine absurd ⟨z r, fun t => -(z t), hzr, fun j hj => ?_⟩ hn
      have h5 := h2 j hj
      rw [sumN_congr (g := fun t => (-1) * (z t * E t j)) (fun t _ => by rw [Int.neg_mul, Int.neg_mul, Int.one_mul]), sumN_mul]
      omega
theorem take_row {ms : List (List Int)} {i r : Nat} (h : r < i) : row (ms.take i) r = row ms r := row_takeO h
theorem isMat_take {ms : List (List Int)} {c : Int} (h : isMat ms c = true) (i : Nat) : isMat (ms.take i) c = true := by
  simp only [isMat, Bool.and_eq_true, decide_eq_true_eq] at h ⊢
  refine ⟨h.1, by rw [List.length_take]; omega, List.all_eq_true.2 fun x hx => List.all_eq_true.1 h.2.2 x (List.mem_of_mem_take hx)⟩
theorem both_take {ms : List (List Int)} {c : Int} (h : isMat ms c = true) {i : Nat} (hi : i < ms.length) : bothV (ms.take i) (row ms i) = true := by
  have h1 := both_rows h hi
  simp only [bothV, Bool.and_eq_true] at h1 ⊢
  exact ⟨isMat_take h1.1 i, h1.2⟩
/-- The reduced rows of the first rows, with one row more. -/
theorem rank_step {ms : List (List Int)} {n : Nat} (h : isMat ms (n : Int) = true) {i : Nat} (hi : i < ms.length) :
    (rrL (ms.take (i + 1)) n).length = if inSpanV (ms.take i) (row ms i) = true then (rrL (ms.take i) n).length else (rrL (ms.take i) n).length + 1 := by
  have hw : (row ms i).length = n := by have := ((isMat_true h).2.2 i hi).1; omega
  have f1 := fine_of (isMat_take h i)
  have f2 := fine_of (isMat_take h (i + 1))
  rw [Int.toNat_natCast] at f1 f2
  obtain ⟨c, o, hr⟩ := f1.reduced
  obtain ⟨c2, o2, hr2⟩ := f2.reduced
  have l1 : (ms.take i).length = i := by rw [List.length_take]; omega
  have l2 : (ms.take (i + 1)).length = i + 1 := by rw [List.length_take]; omega
  have hb := both_take h hi
  have key := inSpan_iff hb
  rw [hw, l1] at key
  have a1 : ∀ t, t < i → InSpan n (rrL (ms.take (i + 1)) n).length (fun j => vec (row (redL ((ms.take (i + 1)).map tidyL) n).1 j)) (vec (row ms t)) := fun t ht => by
    have := hr2.src_span (i := t) (by omega)
    simp only [take_row (show t < i + 1 by omega)] at this
    exact this
  have a2 : InSpan n (rrL (ms.take (i + 1)) n).length (fun j => vec (row (redL ((ms.take (i + 1)).map tidyL) n).1 j)) (vec (row ms i)) := by
    have := hr2.src_span (i := i) (by omega)
    simp only [take_row (show i < i + 1 by omega)] at this
    exact this
  have a3 : ∀ t, t < i → InSpan n (rrL (ms.take i) n).length (fun j => vec (row (redL ((ms.take i).map tidyL) n).1 j)) (vec (row ms t)) := fun t ht => by
    have := hr.src_span (i := t) (by omega)
    simp only [take_row ht] at this
    exact this
  have s1 : ∀ t, t < (rrL (ms.take i) n).length → InSpan n (rrL (ms.take (i + 1)) n).length (fun j => vec (row (redL ((ms.take (i + 1)).map tidyL) n).1 j)) (vec (row (redL ((ms.take i).map tidyL) n).1 t)) := fun t ht => by
    refine span_trans (hr.el.span1 t ht) (fun u hu => ?_)
    have hou := hr.el.olt u (by have := hr.el.rs; omega)
    rw [l1] at hou
    simp only [take_row hou]
    exact a1 _ hou
  have s2 : ∀ (k : Nat) (P : Nat → Nat → Int), (∀ t, t < i + 1 → InSpan n k P (vec (row ms t))) → ∀ t, t < (rrL (ms.take (i + 1)) n).length → InSpan n k P (vec (row (redL ((ms.take (i + 1)).map tidyL) n).1 t)) := fun k P hP t ht => by
    refine span_trans (hr2.el.span1 t ht) (fun u hu => ?_)
    have hou := hr2.el.olt u (by have := hr2.el.rs; omega)
    rw [l2] at hou
    simp only [take_row hou]
    exact hP _ hou
  have low := hr.red.few s1
  split
  · rename_i hin
    have hv := key.1 hin
    have hv2 : InSpan n (rrL (ms.take i) n).length (fun j => vec (row (redL ((ms.take i).map tidyL) n).1 j)) (vec (row ms i)) := span_trans hv (fun t ht => by simp only [take_row ht]; exact a3 t ht)
    have up := hr2.red.few (s2 _ _ (fun t ht => by
      rcases Nat.lt_or_eq_of_le (Nat.lt_succ_iff.1 ht) with h1 | h1
      · exact a3 t h1
      · rw [h1]; exact hv2))
    omega
  · rename_i hin
    have hv : ¬ InSpan n (rrL (ms.take i) n).length (fun j => vec (row (redL ((ms.take i).map tidyL) n).1 j)) (vec (row ms i)) := fun hc => hin (key.2 (span_trans hc (fun t ht => span_trans (hr.el.span1 t ht) (fun u hu => by
      have hou := hr.el.olt u (by have := hr.el.rs; omega)
      rw [l1] at hou
      exact span_row (M := fun j => vec (row (ms.take i) j)) hou))))
    have lo := hr.red.more s1 a2 hv
    have up := hr2.red.few (s2 ((rrL (ms.take i) n).length + 1) (fun t => if t < (rrL (ms.take i) n).length then vec (row (redL ((ms.take i).map tidyL) n).1 t) else vec (row ms i)) (fun t ht => by
      rcases Nat.lt_or_eq_of_le (Nat.lt_succ_iff.1 ht) with h1 | h1
      · refine span_trans (a3 t h1) (fun u hu => ?_)
        have := span_row (n := n) (M := fun t => if t < (rrL (ms.take i) n).length then vec (row (redL ((ms.take i).map tidyL) n).1 t) else vec (row ms i)) (show u < (rrL (ms.take i) n).length + 1 by omega)
        simp only [if_pos hu] at this
        exact this
      · have := span_row (n := n) (M := fun t => if t < (rrL (ms.take i) n).length then vec (row (redL ((ms.take i).map tidyL) n).1 t) else vec (row ms i)) (Nat.lt_succ_self (rrL (ms.take i) n).length)
        simp only [Nat.lt_irrefl, if_false] at this
        rw [h1]
        exact this))
    omega
theorem usefK_rank {ms : List (List Int)} {n : Nat} (h : isMat ms (n : Int) = true) : ∀ i, i ≤ ms.length → (usefK ms i).length = (rrL (ms.take i) n).length
  | 0, _ => by
    have f1 := fine_of (isMat_take h 0)
    rw [Int.toNat_natCast] at f1
    obtain ⟨c, o, hr⟩ := f1.reduced
    have := hr.el.rs
    simp only [List.take_zero, List.length_nil] at this ⊢
    rw [usefK]
    simp only [List.length_nil]
    omega
  | i + 1, hi => by
    have ih := usefK_rank h i (by omega)
    rw [rank_step h (by omega), usefK]
    split
    · exact ih
    · rw [List.length_append, ih]; rfl
end Go.Proofs.Ytedkeobhcpbigaa
