/- What the laws on rows and spans say of the reduced rows. Plain mathematics. -/
import Derived.Test.YtedkeobhcpbigaaNullA
namespace Go.Proofs.Ytedkeobhcpbigaa
open Go.RowKit
theorem Reduced.red {n : Nat} {ms rs : List (List Int)} {s : Nat} {M R : Nat → Nat → Int} {c o : Nat → Nat} (h : Reduced n ms rs s M R c o) : Red n rs.length R c where
  lt := h.el.ck
  mono := h.el.mono
  pos := h.el.pos
  before := h.el.before
  off := fun i hi t ht hne => h.el.off i hi t (by have := h.el.rs; omega) hne
  prim := fun i hi => ((h.el.tidy i (by have := h.el.rs; omega)).first (h.el.ck i hi) (h.el.before i hi) (by have := h.el.pos i hi; omega)).2
/-- A row of the matrix is a sum of the reduced rows. -/
theorem Reduced.src_span {n : Nat} {ms rs : List (List Int)} {s : Nat} {M R : Nat → Nat → Int} {c o : Nat → Nat} (h : Reduced n ms rs s M R c o) {i : Nat} (hi : i < s) : InSpan n rs.length R (M i) := by
  refine span_trans (h.el.all i hi) fun t ht => ?_
  rcases Nat.lt_or_ge t rs.length with h1 | h1
  · exact span_row h1
  · exact span_zero (fun j hj => h.el.below t h1 ht j hj)
/-- What is a sum of the reduced rows leaves nothing. -/
theorem Reduced.leaves {n : Nat} {ms rs : List (List Int)} {s : Nat} {M R : Nat → Nat → Int} {c o : Nat → Nat} (h : Reduced n ms rs s M R c o) {z : List Int} (hz : z.length = n) (hs : InSpan n rs.length R (vec z)) : leadL (remL z rs rs.length) = n := by
  have hr := h.rest hz rs.length (Nat.le_refl _)
  obtain ⟨d, a, b, hd, _, e⟩ := hr.comb
  have hy : InSpan n rs.length R (vec (remL z rs rs.length)) := by
    refine span_comb a 1 d hd hs (span_sum rs.length R b (fun t ht => span_row ht)) (fun j hj => ?_)
    rw [e j hj, Int.one_mul]
    congr 1
    exact sumN_congr fun u hu => by rw [h.rowv u hu]
  have h0 := h.red.null hy (fun i hi => hr.zero i hi)
  have hl : (remL z rs rs.length).length = n := by rw [remL_len, hz]
  exact (leadL_zero (fun j hj => h0 j (by omega))).trans hl
theorem both_rows {ms : List (List Int)} {cols : Int} (h : isMat ms cols = true) {i : Nat} (hi : i < ms.length) : bothV ms (row ms i) = true := by
  obtain ⟨hc, _, h4⟩ := isMat_true h
  obtain ⟨h5, h6⟩ := h4 i hi
  unfold bothV
  rw [h5, h, Bool.true_and]
  refine isMat_yes (inR_true.2 hc) (by simp) (fun r hr => ?_)
  obtain rfl : r = 0 := by simp at hr; omega
  exact rowOk_yes h5 (fun k hk => inR_true.2 (h6 k hk))
theorem in_rows {ms : List (List Int)} {cols : Int} (h : isMat ms cols = true) {i : Nat} (hi : i < ms.length) : inSpanV ms (row ms i) = true := by
  have hb := both_rows h hi
  obtain ⟨c, o, hr⟩ := (both_fine hb).reduced
  rw [inSpan_yes hb, decide_eq_true_eq]
  exact hr.leaves rfl (hr.src_span (i := i) hi)
theorem null_rows {ms : List (List Int)} {cols : Int} (h : isMat ms cols = true) {i : Nat} (hi : i < ms.length) : nullV ms (row ms i) = [] := null_in (both_rows h hi) (in_rows h hi)
/-- What the law on rows asks of the reduced rows. -/
structure RowsOk (n : Nat) (ms rs : List (List Int)) (c : Nat → Nat) : Prop where
  n6 : n ≤ 6
  s12 : ms.length ≤ 12
  rs_le : rs.length ≤ ms.length
  rn_le : rs.length ≤ n
  wid : ∀ t, t < rs.length → (row rs t).length = n
  lt : ∀ t, t < rs.length → c t < n
  before : ∀ t, t < rs.length → ∀ j, j < c t → vec (row rs t) j = 0
  pos : ∀ t, t < rs.length → 0 < vec (row rs t) (c t)
  off : ∀ t, t < rs.length → ∀ j, j < rs.length → j ≠ t → vec (row rs j) (c t) = 0
  mono : ∀ t, t + 1 < rs.length → c t < c (t + 1)
theorem rows_ok {ms : List (List Int)} {n : Nat} (h : isMat ms (n : Int) = true) : ∃ c, RowsOk n ms (rrL ms n) c := by
  have hf : Fine n n ms := by have := fine_of h; simpa using this
  obtain ⟨c, o, hr⟩ := hf.reduced
  have hs := hr.el.rs
  exact ⟨c, hr.n6, hf.len, hs, hr.el.rk, hr.wid, hr.el.ck, fun t ht j hj => by rw [← hr.rowv t ht]; exact hr.el.before t ht j hj, fun t ht => by rw [← hr.rowv t ht]; exact hr.el.pos t ht,
    fun t ht j hj hne => by rw [← hr.rowv j hj]; exact hr.el.off t ht j (by omega) hne, fun t ht => hr.el.mono t (t + 1) (Nat.lt_succ_self t) ht⟩
end Go.Proofs.Ytedkeobhcpbigaa
/- What the law on spans says: what is no sum has a vector that tells it from the rows. Plain mathematics. -/
namespace Go.Proofs.Ytedkeobhcpbigaa
open Go.RowKit
theorem dot_swap (xs ys : List Int) (n : Nat) : sumN n (fun j => vec xs j * vec ys j) = sumN n (fun j => vec ys j * vec xs j) := sumN_congr fun _ _ => Int.mul_comm _ _
/-- If no null vector tells z from the rows, z is a sum of them. -/
theorem span_of_dots {n : Nat} {ms rs : List (List Int)} {s : Nat} {M R : Nat → Nat → Int} {c o : Nat → Nat} (h : Reduced n ms rs s M R c o) {x : Nat → Int} (h0 : ∀ f, f < n → leadIn rs f rs.length = false → sumN n (fun j => vec (nullAt rs n f rs.length) j * x j) = 0) : InSpan n rs.length R x := by
  have hl := (h.lcm_le (Nat.le_refl rs.length)).1
  refine ⟨lcmN rs rs.length, fun u => (lcmN rs rs.length).tdiv (leadV rs u) * x (c u), by omega, fun f hf => ?_⟩
  have hdv : ∀ t, t < rs.length → leadV rs t * (lcmN rs rs.length).tdiv (leadV rs t) = lcmN rs rs.length := fun t ht => Int.mul_tdiv_cancel' (dvd_lcmN h.lpos _ (Nat.le_refl _) t ht)
  cases hlk : leadIn rs f rs.length
  · have h1 := h0 f hf hlk
    rw [nullAt_dot h hf hlk x rs.length (Nat.le_refl _)] at h1
    have h2 : sumN rs.length (fun u => -((lcmN rs rs.length).tdiv (leadV rs u)) * vec (row rs u) f * x (c u)) = -1 * sumN rs.length (fun u => (lcmN rs rs.length).tdiv (leadV rs u) * x (c u) * R u f) := by
      rw [← sumN_mul]
      exact sumN_congr fun u hu => by rw [h.rowv u hu, Int.neg_mul, Int.neg_mul, Int.mul_right_comm]; omega
    rw [h2] at h1
    show _ = sumN rs.length (fun u => (lcmN rs rs.length).tdiv (leadV rs u) * x (c u) * R u f)
    omega
  · obtain ⟨t, ht, he⟩ := leadIn_true.1 hlk
    rw [h.lead t ht] at he
    subst he
    rw [sumN_one ht (fun u hu hne => by rw [h.el.off t ht u (by have := h.el.rs; omega) hne, Int.mul_zero]), ← h.leadV ht, Int.mul_right_comm, Int.mul_comm _ (leadV rs t), hdv t ht]
theorem NullAt.dot_bd {n : Nat} {rs : List (List Int)} (h : NullAt n rs) (f : Nat) {z : List Int} (hz : ∀ j, -2 ≤ vec z j ∧ vec z j ≤ 2) : IntKind.i64.wrap (sumN n (fun j => vec (nullAt rs n f rs.length) j * vec z j)) = sumN n (fun j => vec (nullAt rs n f rs.length) j * vec z j) := by
  have hb := sumN_bd (k := n) (f := fun j => vec (nullAt rs n f rs.length) j * vec z j) (B := 2000000000000000) (fun j _ => mul_fit (A := 1000000000000000) (B := 2) (h.bound f _ (Nat.le_refl _) j) (hz j) (by decide) (by decide) (by decide))
  have hn := h.n6
  have h6 : (n : Int) * 2000000000000000 ≤ 12000000000000000 := by omega
  exact IntWalk.i64_in _ (by omega)
/-- What the law on spans asks. -/
structure SpanOk (ms : List (List Int)) (z nv : List Int) : Prop where
  len : nv.length = z.length
  rows : ∀ i, i < ms.length → dotV (row ms i) nv = 0
  tells : dotV z nv ≠ 0
theorem span_ok {ms : List (List Int)} {z : List Int} (hb : bothV ms z = true) (hin : inSpanV ms z = false) : SpanOk ms z (nullV ms z) := by
  have hf := both_fine hb
  have hA := null_at hb
  obtain ⟨c, o, hr⟩ := hf.reduced
  have hh := null_hit (rrL ms z.length) z z.length
  have hlt : nullIdx (rrL ms z.length) z z.length < z.length := by
    rcases Nat.lt_or_ge (nullIdx (rrL ms z.length) z z.length) z.length with h | h
    · exact h
    · exfalso
      have hs := span_of_dots hr (x := vec z) (fun f hf hlk => by
        have h1 := (hh.miss f (by omega)).resolve_left (by rw [hlk]; decide)
        rw [dotV_sum (nullAt_len _ _ _ _) rfl, hA.dot_bd f (both_row hb)] at h1
        exact h1)
      have := hr.leaves rfl hs
      rw [inSpan_yes hb, decide_eq_false_iff_not] at hin
      exact hin this
  obtain ⟨hfree, hdot⟩ := hh.hit hlt
  have hnv : nullV ms z = nullAt (rrL ms z.length) z.length (nullIdx (rrL ms z.length) z z.length) (rrL ms z.length).length := by rw [null_yes hb, if_neg (by omega)]
  rw [hnv]
  refine ⟨nullAt_len _ _ _ _, fun i hi => ?_, ?_⟩
  · have hw := hf.wid i hi
    rw [dotV_sum hw (nullAt_len _ _ _ _), dot_swap]
    have hsp : InSpan z.length (rrL ms z.length).length (fun u => vec (row (rrL ms z.length) u)) (vec (row ms i)) := by
      obtain ⟨d, b, hd, e⟩ := hr.src_span (i := i) hi
      exact ⟨d, b, hd, fun j hj => by rw [e j hj]; exact sumN_congr fun u hu => congrArg (b u * ·) (hr.rowv u hu j)⟩
    rw [null_span hr hlt hfree hsp]
    decide
  · rw [dotV_sum rfl (nullAt_len _ _ _ _), dot_swap, ← dotV_sum (nullAt_len _ _ _ _) rfl]
    exact hdot
end Go.Proofs.Ytedkeobhcpbigaa
