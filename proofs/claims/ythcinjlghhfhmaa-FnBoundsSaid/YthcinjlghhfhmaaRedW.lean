/- The model's elimination. -/
import Derived.Test.YthcinjlghhfhmaaClr
import Derived.Test.YthcinjlghhfhmaaHold
import Derived.Test.YthcinjlghhfhmaaMat
namespace Go.Proofs.Ythcinjlghhfhmaa
open Go.RowKit
/-- Rows whose elimination stays in range: q columns of small cells, n columns in all. -/
structure Fine (n q : Nat) (ms : List (List Int)) : Prop where
  q6 : q ≤ 6
  qn : q ≤ n
  n7 : n ≤ 7
  len : ms.length ≤ 12
  wid : ∀ i, i < ms.length → (row ms i).length = n
  small : ∀ i, i < ms.length → ∀ j, j < q → -2 ≤ vec (row ms i) j ∧ vec (row ms i) j ≤ 2
  fit : ∀ i, i < ms.length → ∀ j, -1000 ≤ vec (row ms i) j ∧ vec (row ms i) j ≤ 1000
theorem Fine.row_fit {n q : Nat} {ms : List (List Int)} (h : Fine n q ms) {s : List (List Int) × Nat} {k : Nat} (hi : InvL n q ms s k) (hk : k < q) {i : Nat} (hl : i < ms.length) : Fit 2000000000 (row s.1 i) := fun j => by
  have := inv_bound (N := 1000) hi hk h.q6 h.small (j := j) (fun i hi => h.fit i hi j) hl
  omega
theorem Fine.row_small {n q : Nat} {ms : List (List Int)} (h : Fine n q ms) {s : List (List Int) × Nat} {k : Nat} (hi : InvL n q ms s k) (hk : k < q) {i : Nat} (hl : i < ms.length) {j : Nat} (hj : j < q) : -1000000000 ≤ vec (row s.1 i) j ∧ vec (row s.1 i) j ≤ 1000000000 := by
  have := inv_bound (N := 2) hi hk h.q6 h.small (j := j) (fun i hi => h.small i hi j hj) hl
  omega
theorem Fine.inv {n q : Nat} {ms : List (List Int)} (h : Fine n q ms) {k : Nat} (hk : k ≤ q) : InvL n q ms (redL (ms.map tidyL) k) k := inv_red h.qn h.wid k hk
theorem Sees.setCell {k : IntKind} {w : World} {a : Option Addr} {len g j : Nat} {v : Value} {zs : List Int} (h : Sees k w a len zs) (hne : ∀ x, a = some x → x.block ≠ g) : Sees k (w.setCell ⟨g, j, none⟩ v) a len zs :=
  h.moved (lo := g) (hi := g + 1) ⟨rfl, rfl, rfl, by simp [World.setCell], fun k _ hne => Below.heap_setCell w _ v k (by simp; omega)⟩ (fun x hx => by have := hne x hx; omega)
theorem HoldM.outer {w : World} {lo : Nat} {a : Option Addr} {len cap : Nat} {ms : List (List Int)} (h : HoldM w lo a len cap ms) {y : Addr} (hy : a = some y) : y.block < w.heap.size ∧ lo ≤ y.block := by
  obtain ⟨_, A, C, h2, _⟩ := h
  rcases ownsRow_spot h2 with ⟨h0, _⟩ | ⟨g, ha, hlo, hg, _⟩
  · rw [h0] at hy; cases hy
  · rw [ha] at hy; cases hy; exact ⟨hg, hlo⟩
theorem HoldM.cap {w : World} {lo : Nat} {a : Option Addr} {len cap : Nat} {ms : List (List Int)} (h : HoldM w lo a len cap ms) : len ≤ cap := by
  obtain ⟨_, A, C, h2, _⟩ := h
  rcases h2.2 with ⟨hv, hn⟩ | ⟨g, c, cur, hv, _, _, hnc, _⟩
  · omega
  · simp only [Value.slice.injEq, true_and] at hv
    omega
theorem HoldM.capMax {w : World} {lo : Nat} {a : Option Addr} {len cap : Nat} {ms : List (List Int)} (h : HoldM w lo a len cap ms) : cap ≤ maxLen := by
  obtain ⟨_, A, C, h2, _⟩ := h
  rcases h2.2 with ⟨hv, hn⟩ | ⟨g, c, cur, hv, _, _, _, hcm, _⟩
  · simp only [Value.slice.injEq] at hv
    omega
  · simp only [Value.slice.injEq, true_and] at hv
    omega
theorem take_tidy {ms : List (List Int)} {i : Nat} (h : i < ms.length) : (ms.map tidyL).take i ++ [tidyL (row ms i)] = (ms.map tidyL).take (i + 1) := by
  rw [List.take_succ_eq_append_getElem (by simpa using h)]
  simp [row, List.getD, h]
theorem swap_all {Q : List Int → Prop} {R : List (List Int)} {r x k : Nat} (hR : R.length = k) (hr : r < k) (hx : x < k) (ht : tidyL (row R x) = row R x) (h : ∀ i, i < k → Q (row R i)) : ∀ u, u < k → Q (row (swapL R r x) u) := fun u hu => by
  by_cases h1 : u = r
  · subst h1
    rw [swapL_at (by omega), ht]
    exact h x hx
  · rw [swapL_off (by omega) h1]
    refine h _ ?_
    unfold swp
    split <;> (try split) <;> omega
end Go.Proofs.Ythcinjlghhfhmaa
/- The model's ReduceRows and RankOf. -/
namespace Go.Proofs.Ythcinjlghhfhmaa
open Go.RowKit
/-- The reduced rows; none if the rows are no matrix. -/
def rrV (ms : List (List Int)) (cols : Int) : List (List Int) := if isMat ms cols = true then rrL ms cols.toNat else []
theorem fine_of {ms : List (List Int)} {cols : Int} (h : isMat ms cols = true) : Fine cols.toNat cols.toNat ms := by
  obtain ⟨⟨h1, h2⟩, h3, h4⟩ := isMat_true h
  have key : ∀ i, i < ms.length → ∀ j, -2 ≤ vec (row ms i) j ∧ vec (row ms i) j ≤ 2 := fun i hi j => by
    rcases Nat.lt_or_ge j (row ms i).length with hj | hj
    · exact (h4 i hi).2 j hj
    · rw [vec_beyond hj]; decide
  exact ⟨by omega, Nat.le_refl _, by omega, h3, fun i hi => by have := (h4 i hi).1; omega, fun i hi j _ => key i hi j, fun i hi j => by have := key i hi j; omega⟩
theorem Fine.lead_lt {n : Nat} {ms : List (List Int)} (h : Fine n n ms) {i : Nat} (hi : i < (redL (ms.map tidyL) n).2) : leadL (row (redL (ms.map tidyL) n).1 i) < n := by
  have I := h.inv (Nat.le_refl n)
  obtain ⟨c, o, he⟩ := I.el
  have hw := I.wid i (by have := he.rs; omega)
  have hp := he.pos i hi
  have hc := he.ck i hi
  rcases Nat.lt_or_ge (leadL (row (redL (ms.map tidyL) n).1 i)) n with h1 | h1
  · exact h1
  · have := leadL_all (z := row (redL (ms.map tidyL) n).1 i) (by have := leadL_le (row (redL (ms.map tidyL) n).1 i); omega) (c i)
    omega
theorem Fine.lead_ge {n : Nat} {ms : List (List Int)} (h : Fine n n ms) {i : Nat} (hi : (redL (ms.map tidyL) n).2 ≤ i) (hl : i < ms.length) : leadL (row (redL (ms.map tidyL) n).1 i) = n := by
  have I := h.inv (Nat.le_refl n)
  obtain ⟨c, o, he⟩ := I.el
  have hw := I.wid i hl
  refine (leadL_zero fun j hj => he.below i hi hl j ?_).trans hw
  omega
theorem Fine.rle {n : Nat} {ms : List (List Int)} (h : Fine n n ms) : (redL (ms.map tidyL) n).2 ≤ ms.length := (h.inv (Nat.le_refl n)).rle
theorem Fine.rlen {n : Nat} {ms : List (List Int)} (h : Fine n n ms) : (redL (ms.map tidyL) n).1.length = ms.length := (h.inv (Nat.le_refl n)).len
theorem rrL_len {n : Nat} {ms : List (List Int)} (h : Fine n n ms) : (rrL ms n).length = (redL (ms.map tidyL) n).2 := by
  unfold rrL
  rw [List.length_take, h.rlen]
  have := h.rle
  omega
theorem take_next {R : List (List Int)} {u : Nat} (h : u < R.length) : R.take u ++ [row R u] = R.take (u + 1) := by
  rw [List.take_succ_eq_append_getElem h]
  simp [row, List.getD, h]
theorem rrV_len (ms : List (List Int)) (cols : Int) : (rrV ms cols).length ≤ 12 := by
  unfold rrV
  split
  · rename_i h
    have hf := fine_of h
    rw [rrL_len hf]
    have h1 := hf.rle
    have h2 := hf.len
    omega
  · simp
theorem tot_le {ms : List (List Int)} {n : Nat} (h : ∀ i, i < ms.length → (row ms i).length ≤ n) : ∀ k, k ≤ ms.length → tot ms k ≤ k * n
  | 0, _ => by simp [tot]
  | k + 1, hk => by
    have h1 := tot_le h k (by omega)
    have h2 := h k (by omega)
    rw [tot, Nat.succ_mul]
    omega
theorem rrL_row {n : Nat} {ms : List (List Int)} (h : Fine n n ms) {i : Nat} (hi : i < (rrL ms n).length) : row (rrL ms n) i = row (redL (ms.map tidyL) n).1 i := by
  rw [rrL_len h] at hi
  exact row_take hi
theorem rrL_wid {n : Nat} {ms : List (List Int)} (h : Fine n n ms) {i : Nat} (hi : i < (rrL ms n).length) : (row (rrL ms n) i).length = n := by
  rw [rrL_row h hi]
  rw [rrL_len h] at hi
  have := h.rle
  exact (h.inv (Nat.le_refl n)).wid i (by omega)
theorem rrV_small (ms : List (List Int)) (cols : Int) : SmallM (rrV ms cols) := by
  have hl := rrV_len ms cols
  unfold SmallM
  have key : tot (rrV ms cols) (rrV ms cols).length ≤ (rrV ms cols).length * 6 := by
    refine tot_le (fun i hi => ?_) _ (Nat.le_refl _)
    unfold rrV at hi ⊢
    split at hi
    · rename_i h
      rw [if_pos h, rrL_wid (fine_of h) hi]
      exact (fine_of h).q6
    · exact absurd hi (Nat.not_lt_zero _)
  omega
end Go.Proofs.Ythcinjlghhfhmaa
