/- What the law on spans says: what is no sum has a vector that tells it from the rows. Plain mathematics. -/
import Derived.Test.YtbclnklejleobaaRowsF
namespace Go.Proofs.Ytbclnklejleobaa
open Go.RowKit
theorem dot_swap (xs ys : List Int) (n : Nat) : sumN n (fun j => vec xs j * vec ys j) = sumN n (fun j => vec ys j * vec xs j) := sumN_congr fun _ _ => Int.mul_comm _ _
/-- If no null vector tells z from the rows, z is a sum of them. -/
theorem span_of_dots {n : Nat} {ms rs : List (List Int)} {s : Nat} {M R : Nat → Nat → Int} {c o : Nat → Nat} (h : Reduced n ms rs s M R c o) {x : Nat → Int} (h0 : ∀ f, f < n → leadIn rs f rs.length = false → sumN n (fun j => vec (nullAt rs n f rs.length) j * x j) = 0) : InSpan n rs.length R x := by
  have hl := (h.lcm_le (Nat.le_refl rs.length)).1
  refine ⟨lcmN rs rs.length, fun u => (lcmN rs rs.length).tdiv (leadV rs u) * x (c u), by omega, fun f hf => ?_⟩
  have hdv : ∀ t, t < rs.length → leadV rs t * (lcmN rs rs.length).tdiv (leadV rs t) = lcmN rs rs.length := fun t ht => Int.mul_tdiv_cancel' (dvd_lcmN h.lpos _ (Nat.le_refl _) t ht)
  cases hlk : leadIn rs f rs.length
  · have h1 := h0 f hf hlk
    rw [nullAt_dot h hf hlk x rs.length (Nat.le_refl _)] at h1
    have h2 : sumN rs.length (fun u => -((lcmN rs rs.length).tdiv (leadV rs u)) * vec (row rs u) f * x (c u)) = -1 * sumN rs.length (fun u => (lcmN rs rs.length).tdiv (leadV rs u) * x (c u) * R u f) := by
      rw [← sumN_mul]
      exact sumN_congr fun u hu => by rw [h.rowv u hu, Int.neg_mul, Int.neg_mul, Int.mul_right_comm]; omega
    rw [h2] at h1
    show _ = sumN rs.length (fun u => (lcmN rs rs.length).tdiv (leadV rs u) * x (c u) * R u f)
    omega
  · obtain ⟨t, ht, he⟩ := leadIn_true.1 hlk
    rw [h.lead t ht] at he
    subst he
    rw [sumN_one ht (fun u hu hne => by rw [h.el.off t ht u (by have := h.el.rs; omega) hne, Int.mul_zero]), ← h.leadV ht, Int.mul_right_comm, Int.mul_comm _ (leadV rs t), hdv t ht]
theorem NullAt.dot_bd {n : Nat} {rs : List (List Int)} (h : NullAt n rs) (f : Nat) {z : List Int} (hz : ∀ j, -2 ≤ vec z j ∧ vec z j ≤ 2) : IntKind.i64.wrap (sumN n (fun j => vec (nullAt rs n f rs.length) j * vec z j)) = sumN n (fun j => vec (nullAt rs n f rs.length) j * vec z j) := by
  have hb := sumN_bd (k := n) (f := fun j => vec (nullAt rs n f rs.length) j * vec z j) (B := 2000000000000000) (fun j _ => mul_fit (A := 1000000000000000) (B := 2) (h.bound f _ (Nat.le_refl _) j) (hz j) (by decide) (by decide) (by decide))
  have hn := h.n6
  have h6 : (n : Int) * 2000000000000000 ≤ 12000000000000000 := by omega
  exact IntWalk.i64_in _ (by omega)
/-- What the law on spans asks. -/
structure SpanOk (ms : List (List Int)) (z nv : List Int) : Prop where
  len : nv.length = z.length
  rows : ∀ i, i < ms.length → dotV (row ms i) nv = 0
  tells : dotV z nv ≠ 0
theorem span_ok {ms : List (List Int)} {z : List Int} (hb : bothV ms z = true) (hin : inSpanV ms z = false) : SpanOk ms z (nullV ms z) := by
  have hf := both_fine hb
  have hA := null_at hb
  obtain ⟨c, o, hr⟩ := hf.reduced
  have hh := null_hit (rrL ms z.length) z z.length
  have hlt : nullIdx (rrL ms z.length) z z.length < z.length := by
    rcases Nat.lt_or_ge (nullIdx (rrL ms z.length) z z.length) z.length with h | h
    · exact h
    · exfalso
      have hs := span_of_dots hr (x := vec z) (fun f hf hlk => by
        have h1 := (hh.miss f (by omega)).resolve_left (by rw [hlk]; decide)
        rw [dotV_sum (nullAt_len _ _ _ _) rfl, hA.dot_bd f (both_row hb)] at h1
        exact h1)
      have := hr.leaves rfl hs
      rw [inSpan_yes hb, decide_eq_false_iff_not] at hin
      exact hin this
  obtain ⟨hfree, hdot⟩ := hh.hit hlt
  have hnv : nullV ms z = nullAt (rrL ms z.length) z.length (nullIdx (rrL ms z.length) z z.length) (rrL ms z.length).length := by rw [null_yes hb, if_neg (by omega)]
  rw [hnv]
  refine ⟨nullAt_len _ _ _ _, fun i hi => ?_, ?_⟩
  · have hw := hf.wid i hi
    rw [dotV_sum hw (nullAt_len _ _ _ _), dot_swap]
    have hsp : InSpan z.length (rrL ms z.length).length (fun u => vec (row (rrL ms z.length) u)) (vec (row ms i)) := by
      obtain ⟨d, b, hd, e⟩ := hr.src_span (i := i) hi
      exact ⟨d, b, hd, fun j hj => by rw [e j hj]; exact sumN_congr fun u hu => congrArg (b u * ·) (hr.rowv u hu j)⟩
    rw [null_span hr hlt hfree hsp]
    decide
  · rw [dotV_sum rfl (nullAt_len _ _ _ _), dot_swap, ← dotV_sum (nullAt_len _ _ _ _) rfl]
    exact hdot
end Go.Proofs.Ytbclnklejleobaa
