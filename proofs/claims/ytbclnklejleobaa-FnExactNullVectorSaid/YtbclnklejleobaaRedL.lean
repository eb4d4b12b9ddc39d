/- Elimination on lists: the model's steps, the program's, and that both come to the same. Plain mathematics. -/
import Derived.Test.YtbclnklejleobaaElim
namespace Go.Proofs.Ytbclnklejleobaa
theorem row_map {ms : List (List Int)} {f : List Int → List Int} {i : Nat} (h : i < ms.length) : row (ms.map f) i = f (row ms i) := by simp [row, List.getD, h]
theorem row_range {n : Nat} {f : Nat → List Int} {i : Nat} (h : i < n) : row ((List.range n).map f) i = f i := by simp [row, List.getD, h]
theorem rows_ext {a b : List (List Int)} (hl : a.length = b.length) (h : ∀ i, i < a.length → row a i = row b i) : a = b := by
  apply List.ext_getElem hl
  intro i h1 h2
  have := h i h1
  simpa [row, List.getD, h1, h2] using this
theorem row_take {ms : List (List Int)} {r i : Nat} (h : i < r) : row (ms.take r) i = row ms i := by
  unfold row List.getD
  rw [List.getElem?_take, if_pos h]
def findP (rows : List (List Int)) (r k : Nat) : Nat := findA (fun i => vec (row rows i) k) (rows.length - r) r
theorem findP_eq {rows : List (List Int)} {r k p : Nat} (h1 : r ≤ p) (h2 : p ≤ rows.length) (h3 : ∀ i, r ≤ i → i < p → vec (row rows i) k = 0) (h4 : p = rows.length ∨ vec (row rows p) k ≠ 0) : findP rows r k = p :=
  findA_eq h1 (by omega) h3 (h4.imp (fun e => by omega) id)
theorem findP_spec {rows : List (List Int)} {r k : Nat} (hr : r ≤ rows.length) : r ≤ findP rows r k ∧ findP rows r k ≤ rows.length ∧ (∀ i, r ≤ i → i < findP rows r k → vec (row rows i) k = 0) ∧ (findP rows r k = rows.length ∨ vec (row rows (findP rows r k)) k ≠ 0) := by
  obtain ⟨h1, h2, h3, h4⟩ := findA_spec (fun i => vec (row rows i) k) (rows.length - r) r
  exact ⟨h1, by unfold findP; omega, h3, h4.imp (fun e => by unfold findP; omega) id⟩
def swapL (rows : List (List Int)) (r p : Nat) : List (List Int) := (rows.set p (row rows r)).set r (tidyL (row rows p))
theorem swapL_len (rows : List (List Int)) (r p : Nat) : (swapL rows r p).length = rows.length := by simp [swapL]
theorem swapL_at {rows : List (List Int)} {r p : Nat} (hr : r < rows.length) : row (swapL rows r p) r = tidyL (row rows p) := by
  unfold swapL
  rw [row_set_same (by simpa using hr)]
theorem swapL_off {rows : List (List Int)} {r p i : Nat} (hp : p < rows.length) (hi : i ≠ r) : row (swapL rows r p) i = row rows (swp r p i) := by
  unfold swapL swp
  rw [row_set_other hi, if_neg hi]
  by_cases h : i = p
  · subst h; rw [row_set_same hp, if_pos rfl]
  · rw [row_set_other h, if_neg h]
def clrRow (x p : List Int) (k : Nat) : List Int := if vec x k = 0 then x else clearL x p k
theorem clrRow_len (x p : List Int) (k : Nat) : (clrRow x p k).length = x.length := by
  unfold clrRow
  split
  · rfl
  · exact clearL_len _ _ _
/-- The rows up to place u are cleared by f, but for row r. -/
def clrBy (f : List Int → List Int) (R : List (List Int)) (r u : Nat) : List (List Int) := (List.range R.length).map fun i => if i < u ∧ i ≠ r then f (row R i) else row R i
theorem clrBy_len (f : List Int → List Int) (R : List (List Int)) (r u : Nat) : (clrBy f R r u).length = R.length := by simp [clrBy]
theorem clrBy_row {f : List Int → List Int} {R : List (List Int)} {r u i : Nat} (h : i < R.length) : row (clrBy f R r u) i = if i < u ∧ i ≠ r then f (row R i) else row R i := row_range h
theorem clrBy_pivot {f : List Int → List Int} {R : List (List Int)} {r u : Nat} (h : r < R.length) : row (clrBy f R r u) r = row R r := by rw [clrBy_row h, if_neg (fun e => e.2 rfl)]
theorem clrBy_ahead {f : List Int → List Int} {R : List (List Int)} {r u i : Nat} (h : i < R.length) (hu : u ≤ i) : row (clrBy f R r u) i = row R i := by rw [clrBy_row h, if_neg (by omega)]
theorem clrBy_zero (f : List Int → List Int) (R : List (List Int)) (r : Nat) : clrBy f R r 0 = R :=
  rows_ext (clrBy_len _ _ _ _) fun i hi => by rw [clrBy_len] at hi; exact clrBy_ahead hi (Nat.zero_le _)
theorem clrBy_set {f : List Int → List Int} {R : List (List Int)} {r u : Nat} (h : u < R.length) (hr : u ≠ r) : (clrBy f R r u).set u (f (row R u)) = clrBy f R r (u + 1) := by
  refine rows_ext (by simp [clrBy]) fun i hi => ?_
  have hi' : i < R.length := by simpa [clrBy] using hi
  rw [clrBy_row hi']
  by_cases h1 : i = u
  · subst h1
    rw [row_set_same (by rw [clrBy_len]; exact h), if_pos ⟨Nat.lt_succ_self _, hr⟩]
  · rw [row_set_other h1, clrBy_row hi']
    have e : (i < u ∧ i ≠ r) = (i < u + 1 ∧ i ≠ r) := by rw [eq_iff_iff]; omega
    simp only [e]
theorem clrBy_same {f : List Int → List Int} {R : List (List Int)} {r u : Nat} (h : u < R.length) (hr : u = r ∨ f (row R u) = row R u) : clrBy f R r u = clrBy f R r (u + 1) := by
  refine rows_ext (by simp [clrBy]) fun i hi => ?_
  have hi' : i < R.length := by simpa [clrBy] using hi
  rw [clrBy_row hi', clrBy_row hi']
  by_cases h1 : i = u
  · subst h1
    rw [if_neg (by omega)]
    rcases hr with rfl | hr
    · rw [if_neg (fun e => e.2 rfl)]
    · split
      · exact hr.symm
      · rfl
  · have e : (i < u ∧ i ≠ r) = (i < u + 1 ∧ i ≠ r) := by rw [eq_iff_iff]; omega
    simp only [e]
/-- The model's step. -/
def stepL (k : Nat) (s : List (List Int) × Nat) : List (List Int) × Nat :=
  if findP s.1 s.2 k = s.1.length then s
  else (clrBy (fun x => clrRow x (row (swapL s.1 s.2 (findP s.1 s.2 k)) s.2) k) (swapL s.1 s.2 (findP s.1 s.2 k)) s.2 s.1.length, s.2 + 1)
def redL (rows : List (List Int)) : Nat → List (List Int) × Nat
  | 0 => (rows, 0)
  | k + 1 => stepL k (redL rows k)
structure InvL (n q : Nat) (ms : List (List Int)) (s : List (List Int) × Nat) (k : Nat) : Prop where
  len : s.1.length = ms.length
  wid : ∀ i, i < ms.length → (row s.1 i).length = n
  el : ∃ c o, Elim n q ms.length (fun i => vec (row ms i)) (fun i => vec (row s.1 i)) s.2 k c o
theorem InvL.rle {n q : Nat} {ms : List (List Int)} {s : List (List Int) × Nat} {k : Nat} (h : InvL n q ms s k) : s.2 ≤ ms.length := by
  obtain ⟨c, o, he⟩ := h.el
  exact he.rs
theorem inv_start {n q : Nat} {ms : List (List Int)} (hq : q ≤ n) (hw : ∀ i, i < ms.length → (row ms i).length = n) : InvL n q ms (ms.map tidyL, 0) 0 where
  len := by simp
  wid := fun i hi => by rw [row_map hi, tidyL_len]; exact hw i hi
  el := ⟨_, _, elim_start hq (fun i hi => by rw [row_map hi]; have := tidyL_tidy (row ms i); rw [hw i hi] at this; exact this)
    (fun i hi => by rw [row_map hi]; have := tidyL_scale (row ms i); rw [hw i hi] at this; exact this)⟩
theorem inv_step {n q : Nat} {ms : List (List Int)} {s : List (List Int) × Nat} {k : Nat} (hk : k < q) (h : InvL n q ms s k) : InvL n q ms (stepL k s) (k + 1) := by
  obtain ⟨c, o, he⟩ := h.el
  have hl := h.len
  have hrs := he.rs
  have hkn : k < n := by have := he.qn; omega
  obtain ⟨p1, p2, p3, p4⟩ := findP_spec (rows := s.1) (r := s.2) (k := k) (by omega)
  unfold stepL
  generalize findP s.1 s.2 k = p at p1 p2 p3 p4
  by_cases hp : p = s.1.length
  · rw [if_pos hp]
    exact ⟨h.len, h.wid, c, o, he.pass hk (fun i h1 h2 => p3 i h1 (by omega))⟩
  · rw [if_neg hp]
    have hne := p4.resolve_left hp
    have hps : p < s.1.length := by omega
    have sw_lt : ∀ i, i < ms.length → swp s.2 p i < ms.length := fun i hi => by unfold swp; split <;> (try split) <;> omega
    have hrow : ∀ i, i < ms.length → i ≠ s.2 → row (clrBy (fun x => clrRow x (row (swapL s.1 s.2 p) s.2) k) (swapL s.1 s.2 p) s.2 s.1.length) i = clrRow (row s.1 (swp s.2 p i)) (tidyL (row s.1 p)) k := fun i hi hir => by
      rw [clrBy_row (by rw [swapL_len]; omega), if_pos ⟨by omega, hir⟩, swapL_off hps hir, swapL_at (by omega)]
    have hpiv : row (clrBy (fun x => clrRow x (row (swapL s.1 s.2 p) s.2) k) (swapL s.1 s.2 p) s.2 s.1.length) s.2 = row s.1 p := by
      rw [clrBy_pivot (by rw [swapL_len]; omega), swapL_at (by omega)]
      refine tidyL_id ?_
      rw [h.wid p (by omega)]
      exact he.tidy p (by omega)
    have htp : tidyL (row s.1 p) = row s.1 p := tidyL_id (by rw [h.wid p (by omega)]; exact he.tidy p (by omega))
    refine ⟨by rw [clrBy_len, swapL_len]; exact hl, fun i hi => ?_, _, _, he.step hk p1 (by omega) hne (fun j _ => by simp only [hpiv]) (fun i hi hir => ?_)⟩
    · by_cases hir : i = s.2
      · subst hir; rw [hpiv]; exact h.wid p (by omega)
      · rw [hrow i hi hir, clrRow_len]
        exact h.wid _ (sw_lt i hi)
    · simp only
      rw [hrow i hi hir, htp]
      have hw := h.wid _ (sw_lt i hi)
      unfold clrRow
      by_cases h0 : vec (row s.1 (swp s.2 p i)) k = 0
      · rw [if_pos h0]
        exact ⟨he.tidy _ (sw_lt i hi), vec (row s.1 p) k, hne, fun j hj => by rw [h0, Int.mul_zero, Int.sub_zero, Int.mul_comm]⟩
      · rw [if_neg h0]
        have ht := tidyL_tidy (combL (row s.1 (swp s.2 p i)) (row s.1 p) k)
        obtain ⟨a, ha, e⟩ := tidyL_scale (combL (row s.1 (swp s.2 p i)) (row s.1 p) k)
        rw [combL_len, hw] at ht e
        refine ⟨ht, a, ha, fun j hj => ?_⟩
        exact (e j hj).trans (combL_at (by omega))
theorem inv_red {n q : Nat} {ms : List (List Int)} (hq : q ≤ n) (hw : ∀ i, i < ms.length → (row ms i).length = n) : ∀ k, k ≤ q → InvL n q ms (redL (ms.map tidyL) k) k
  | 0, _ => inv_start hq hw
  | k + 1, hk => inv_step (by omega) (inv_red hq hw k (by omega))
/-- Cells of a matrix, and how great what elimination makes of them. -/
theorem inv_bound {n q N : Nat} {ms : List (List Int)} {s : List (List Int) × Nat} {k : Nat} (h : InvL n q ms s k) (hk : k < q) (hq : q ≤ 6) (hK : ∀ i, i < ms.length → ∀ j, j < q → -2 ≤ vec (row ms i) j ∧ vec (row ms i) j ≤ 2) {j : Nat} (hN : ∀ i, i < ms.length → -(N : Int) ≤ vec (row ms i) j ∧ vec (row ms i) j ≤ N)
    {i : Nat} (hi : i < ms.length) : -((1492992 * N : Nat) : Int) ≤ vec (row s.1 i) j ∧ vec (row s.1 i) j ≤ ((1492992 * N : Nat) : Int) := by
  obtain ⟨c, o, he⟩ := h.el
  rcases Nat.lt_or_ge j n with hj | hj
  · exact he.bound hK hj hN (by have := he.rk; omega) hi
  · rw [vec_beyond (by rw [h.wid i hi]; exact hj)]
    omega
/-- Rows that are full of pivots stay as they are. -/
theorem red_full {rows : List (List Int)} {k : Nat} (h : (redL rows k).2 = (redL rows k).1.length) : ∀ d, redL rows (k + d) = redL rows k
  | 0 => rfl
  | d + 1 => by
    show stepL (k + d) (redL rows (k + d)) = _
    rw [red_full h d]
    unfold stepL
    rw [if_pos (findP_eq (by omega) (by omega) (fun i h1 h2 => by omega) (.inl rfl))]
/-! ### The program's steps -/
/-- The program's rows become the model's when made tidy. -/
def Sim (P rows : List (List Int)) : Prop := P.length = rows.length ∧ ∀ i, i < P.length → tidyL (row P i) = row rows i
theorem tidy_zero {z : List Int} {k : Nat} : vec (tidyL z) k = 0 ↔ vec z k = 0 := by
  rcases Nat.lt_or_ge k z.length with h | h
  · obtain ⟨q, hq, e⟩ := tidyL_scale z
    have := e k h
    constructor
    · intro h0; rw [h0, Int.mul_zero] at this; exact this.symm
    · intro h0; rw [h0] at this; exact (Int.mul_eq_zero.1 this).resolve_left hq
  · rw [vec_beyond h, vec_beyond (by rw [tidyL_len]; exact h)]
theorem Sim.find {P rows : List (List Int)} (h : Sim P rows) {r k : Nat} (hr : r ≤ P.length) : findP P r k = findP rows r k := by
  obtain ⟨p1, p2, p3, p4⟩ := findP_spec (rows := rows) (r := r) (k := k) (by rw [← h.1]; exact hr)
  have hz : ∀ i, i < P.length → (vec (row P i) k = 0 ↔ vec (row rows i) k = 0) := fun i hi => by rw [← h.2 i hi]; exact tidy_zero.symm
  refine findP_eq p1 (by rw [h.1]; exact p2) (fun i h1 h2 => (hz i (by rw [h.1]; omega)).2 (p3 i h1 h2)) ?_
  rcases Nat.lt_or_eq_of_le p2 with h1 | h1
  · refine .inr fun e => (p4.resolve_left (by omega)) ((hz _ (by rw [h.1]; exact h1)).1 e)
  · exact .inl (by rw [h.1]; exact h1)
def pswap (P : List (List Int)) (r p : Nat) : List (List Int) := ((P.set r (row P p)).set p (row P r)).set r (tidyL (row P p))
theorem pswap_len (P : List (List Int)) (r p : Nat) : (pswap P r p).length = P.length := by simp [pswap]
theorem pswap_at {P : List (List Int)} {r p : Nat} (hr : r < P.length) : row (pswap P r p) r = tidyL (row P p) := by
  unfold pswap
  rw [row_set_same (by simpa using hr)]
theorem pswap_off {P : List (List Int)} {r p i : Nat} (hp : p < P.length) (hi : i ≠ r) : row (pswap P r p) i = row P (swp r p i) := by
  unfold pswap swp
  rw [row_set_other hi, if_neg hi]
  by_cases h : i = p
  · subst h; rw [row_set_same (by simpa using hp), if_pos rfl]
  · rw [row_set_other h, row_set_other hi, if_neg h]
theorem Sim.step {P : List (List Int)} {s : List (List Int) × Nat} (h : Sim P s.1) {n k : Nat} (hw : ∀ i, i < P.length → (row P i).length = n) (hkn : k < n) (hr : s.2 ≤ P.length) (hp : findP s.1 s.2 k ≠ s.1.length) :
    (clrBy (fun x => clearL x (row (pswap P s.2 (findP s.1 s.2 k)) s.2) k) (pswap P s.2 (findP s.1 s.2 k)) s.2 P.length, s.2 + 1) = stepL k s := by
  have hl := h.1
  obtain ⟨p1, p2, p3, p4⟩ := findP_spec (rows := s.1) (r := s.2) (k := k) (by omega)
  unfold stepL
  rw [if_neg hp]
  generalize findP s.1 s.2 k = p at p1 p2 p3 p4 hp
  have hne := p4.resolve_left hp
  have hps : p < s.1.length := by omega
  congr 1
  have htt : tidyL (row s.1 p) = tidyL (row P p) := by rw [← h.2 p (by omega), tidyL_idem]
  refine rows_ext (by rw [clrBy_len, clrBy_len, pswap_len, swapL_len, hl]) fun i hi => ?_
  rw [clrBy_len, pswap_len] at hi
  by_cases hir : i = s.2
  · subst hir
    rw [clrBy_pivot (by rw [pswap_len]; omega), clrBy_pivot (by rw [swapL_len]; omega), pswap_at (by omega), swapL_at (by omega), htt]
  · rw [clrBy_row (by rw [pswap_len]; omega), clrBy_row (by rw [swapL_len]; omega), if_pos ⟨by omega, hir⟩, if_pos ⟨by omega, hir⟩, pswap_at (by omega), swapL_at (by omega), pswap_off (by omega) hir, swapL_off hps hir, htt]
    have hsl : swp s.2 p i < P.length := by unfold swp; split <;> (try split) <;> omega
    have ht := h.2 _ hsl
    have hpk : vec (tidyL (row P p)) k ≠ 0 := fun e => hne (by rw [← h.2 p (by omega)]; exact e)
    unfold clrRow
    by_cases h0 : vec (row s.1 (swp s.2 p i)) k = 0
    · rw [if_pos h0, clearL_zero (tidy_zero.1 (by rw [ht]; exact h0)) hpk, ht]
    · rw [if_neg h0]
      exact clearL_tidy (by rw [← ht, tidyL_len]) (by rw [← ht, tidyL_idem]) (by rw [hw _ hsl]; exact hkn)
theorem stepL_pass {s : List (List Int) × Nat} {k : Nat} (hp : findP s.1 s.2 k = s.1.length) : stepL k s = s := by
  unfold stepL
  rw [if_pos hp]
theorem sim_start (P : List (List Int)) : Sim P (P.map tidyL) := ⟨by simp, fun i hi => (row_map hi).symm⟩
theorem sim_self {n q : Nat} {ms : List (List Int)} {s : List (List Int) × Nat} {k : Nat} (h : InvL n q ms s k) : Sim s.1 s.1 := by
  obtain ⟨c, o, he⟩ := h.el
  refine ⟨rfl, fun i hi => tidyL_id ?_⟩
  have hi' : i < ms.length := by rw [← h.len]; exact hi
  rw [h.wid i hi']
  exact he.tidy i hi'
/-- The reduced rows. -/
def rrL (ms : List (List Int)) (n : Nat) : List (List Int) := (redL (ms.map tidyL) n).1.take (redL (ms.map tidyL) n).2
end Go.Proofs.Ytbclnklejleobaa
