/- What the laws on rows and spans say of the reduced rows. Plain mathematics. -/
import Derived.Test.YtbclnklejleobaaNullA
namespace Go.Proofs.Ytbclnklejleobaa
open Go.RowKit
theorem Reduced.red {n : Nat} {ms rs : List (List Int)} {s : Nat} {M R : Nat → Nat → Int} {c o : Nat → Nat} (h : Reduced n ms rs s M R c o) : Red n rs.length R c where
  lt := h.el.ck
  mono := h.el.mono
  pos := h.el.pos
  before := h.el.before
  off := fun i hi t ht hne => h.el.off i hi t (by have := h.el.rs; omega) hne
  prim := fun i hi => ((h.el.tidy i (by have := h.el.rs; omega)).first (h.el.ck i hi) (h.el.before i hi) (by have := h.el.pos i hi; omega)).2
/-- A row of the matrix is a sum of the reduced rows. -/
theorem Reduced.src_span {n : Nat} {ms rs : List (List Int)} {s : Nat} {M R : Nat → Nat → Int} {c o : Nat → Nat} (h : Reduced n ms rs s M R c o) {i : Nat} (hi : i < s) : InSpan n rs.length R (M i) := by
  refine span_trans (h.el.all i hi) fun t ht => ?_
  rcases Nat.lt_or_ge t rs.length with h1 | h1
  · exact span_row h1
  · exact span_zero (fun j hj => h.el.below t h1 ht j hj)
/-- What is a sum of the reduced rows leaves nothing. -/
theorem Reduced.leaves {n : Nat} {ms rs : List (List Int)} {s : Nat} {M R : Nat → Nat → Int} {c o : Nat → Nat} (h : Reduced n ms rs s M R c o) {z : List Int} (hz : z.length = n) (hs : InSpan n rs.length R (vec z)) : leadL (remL z rs rs.length) = n := by
  have hr := h.rest hz rs.length (Nat.le_refl _)
  obtain ⟨d, a, b, hd, _, e⟩ := hr.comb
  have hy : InSpan n rs.length R (vec (remL z rs rs.length)) := by
    refine span_comb a 1 d hd hs (span_sum rs.length R b (fun t ht => span_row ht)) (fun j hj => ?_)
    rw [e j hj, Int.one_mul]
    congr 1
    exact sumN_congr fun u hu => by rw [h.rowv u hu]
  have h0 := h.red.null hy (fun i hi => hr.zero i hi)
  have hl : (remL z rs rs.length).length = n := by rw [remL_len, hz]
  exact (leadL_zero (fun j hj => h0 j (by omega))).trans hl
theorem both_rows {ms : List (List Int)} {cols : Int} (h : isMat ms cols = true) {i : Nat} (hi : i < ms.length) : bothV ms (row ms i) = true := by
  obtain ⟨hc, _, h4⟩ := isMat_true h
  obtain ⟨h5, h6⟩ := h4 i hi
  unfold bothV
  rw [h5, h, Bool.true_and]
  refine isMat_yes (inR_true.2 hc) (by simp) (fun r hr => ?_)
  obtain rfl : r = 0 := by simp at hr; omega
  exact rowOk_yes h5 (fun k hk => inR_true.2 (h6 k hk))
theorem in_rows {ms : List (List Int)} {cols : Int} (h : isMat ms cols = true) {i : Nat} (hi : i < ms.length) : inSpanV ms (row ms i) = true := by
  have hb := both_rows h hi
  obtain ⟨c, o, hr⟩ := (both_fine hb).reduced
  rw [inSpan_yes hb, decide_eq_true_eq]
  exact hr.leaves rfl (hr.src_span (i := i) hi)
theorem null_rows {ms : List (List Int)} {cols : Int} (h : isMat ms cols = true) {i : Nat} (hi : i < ms.length) : nullV ms (row ms i) = [] := null_in (both_rows h hi) (in_rows h hi)
/-- What the law on rows asks of the reduced rows. -/
structure RowsOk (n : Nat) (ms rs : List (List Int)) (c : Nat → Nat) : Prop where
  n6 : n ≤ 6
  s12 : ms.length ≤ 12
  rs_le : rs.length ≤ ms.length
  rn_le : rs.length ≤ n
  wid : ∀ t, t < rs.length → (row rs t).length = n
  lt : ∀ t, t < rs.length → c t < n
  before : ∀ t, t < rs.length → ∀ j, j < c t → vec (row rs t) j = 0
  pos : ∀ t, t < rs.length → 0 < vec (row rs t) (c t)
  off : ∀ t, t < rs.length → ∀ j, j < rs.length → j ≠ t → vec (row rs j) (c t) = 0
  mono : ∀ t, t + 1 < rs.length → c t < c (t + 1)
theorem rows_ok {ms : List (List Int)} {n : Nat} (h : isMat ms (n : Int) = true) : ∃ c, RowsOk n ms (rrL ms n) c := by
  have hf : Fine n n ms := by have := fine_of h; simpa using this
  obtain ⟨c, o, hr⟩ := hf.reduced
  have hs := hr.el.rs
  exact ⟨c, hr.n6, hf.len, hs, hr.el.rk, hr.wid, hr.el.ck, fun t ht j hj => by rw [← hr.rowv t ht]; exact hr.el.before t ht j hj, fun t ht => by rw [← hr.rowv t ht]; exact hr.el.pos t ht,
    fun t ht j hj hne => by rw [← hr.rowv j hj]; exact hr.el.off t ht j (by omega) hne, fun t ht => hr.el.mono t (t + 1) (Nat.lt_succ_self t) ht⟩
end Go.Proofs.Ytbclnklejleobaa
