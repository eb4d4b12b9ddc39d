/- What is left of a row when reduced rows are taken from it. Plain mathematics. -/
import Derived.Test.YtedkeobhcpbigaaRedW
import Derived.Test.YtedkeobhcpbigaaElimP
namespace Go.Proofs.Ytedkeobhcpbigaa
/-- Further columns behind the first n. -/
def ext (n : Nat) (v w : Nat → Int) : Nat → Int := fun j => if j < n then v j else w (j - n)
theorem ext_lo {n : Nat} {v w : Nat → Int} {j : Nat} (h : j < n) : ext n v w j = v j := if_pos h
theorem ext_hi {n : Nat} {v w : Nat → Int} {j : Nat} : ext n v w (n + j) = w j := by
  unfold ext
  rw [if_neg (by omega)]
  congr 1
  omega
theorem ext_gcd (n : Nat) (v : Nat → Int) : ∀ m, gcdN (n + m) (ext n v (fun _ => 0)) = gcdN n v
  | 0 => by
    have : ∀ k, k ≤ n → gcdN k (ext n v (fun _ => 0)) = gcdN k v := by
      intro k
      induction k with
      | zero => intro _; rfl
      | succ k ih => intro hk; rw [gcdN, gcdN, ih (by omega), ext_lo (by omega)]
    exact this n (Nat.le_refl _)
  | m + 1 => by
    show Int.gcd (gcdN (n + m) (ext n v (fun _ => 0))) (ext n v (fun _ => 0) (n + m)) = _
    rw [ext_gcd n v m, ext_hi, Int.gcd_zero_right]
    omega
theorem bndN_le6 {r N : Nat} (h : r ≤ 6) : bndN r N ≤ 52706752 * N := by
  have : r = 0 ∨ r = 1 ∨ r = 2 ∨ r = 3 ∨ r = 4 ∨ r = 5 ∨ r = 6 := by omega
  rcases this with rfl | rfl | rfl | rfl | rfl | rfl | rfl <;> (unfold bndN; rw [← Nat.mul_assoc]; exact Nat.mul_le_mul_right _ (by decide))
/-- What is left of a row is small, after each of the rows. -/
theorem Elim.rest {n s : Nat} {M R : Nat → Nat → Int} {r : Nat} {c o : Nat → Nat} (h : Elim n n s M R r n c o) (hr : r ≤ 6) (hK : ∀ i, i < s → ∀ j, j < n → -2 ≤ M i j ∧ M i j ≤ 2) {z : Nat → Int} (hz : ∀ j, j < n → -2 ≤ z j ∧ z j ≤ 2)
    {t : Nat} (ht : t ≤ r) {y : Nat → Int} (hp : Prim n y) {d a : Int} {b : Nat → Int} (hd : d ≠ 0) (hy : ∀ j, j < n → d * y j = a * z j + sumN t (fun u => b u * R u j)) (h0 : ∀ u, u < t → y (c u) = 0) {j : Nat} (hj : j < n) :
    -105413504 ≤ y j ∧ y j ≤ 105413504 := by
  have hcn : ∀ u, u < r → c u < n := h.ck
  have hPs : ∀ u, u < r → InSpan (n + r) (r + 1) (fun i => if i < r then ext n (M (o i)) (fun w => M (o i) (c w)) else ext n z (fun w => if w < t then z (c w) else 0)) (ext n (R u) (fun w => R u (c w))) := fun u hu => by
    obtain ⟨e, b', he, h1⟩ := h.span1 u hu
    refine ⟨e, fun i => if i < r then b' i else 0, he, fun x hx => ?_⟩
    show _ = sumN r _ + _
    simp only [Nat.lt_irrefl, if_false, Int.zero_mul, Int.add_zero]
    rcases Nat.lt_or_ge x n with hxn | hxn
    · rw [ext_lo hxn, h1 x hxn]
      exact sumN_congr fun i hi => by simp only [hi, if_true]; rw [ext_lo hxn]
    · obtain ⟨w, rfl⟩ : ∃ w, x = n + w := ⟨x - n, by omega⟩
      rw [ext_hi, h1 (c w) (hcn w (by omega))]
      exact sumN_congr fun i hi => by simp only [hi, if_true]; rw [ext_hi]
  have key := elim_bound (n := n + r) (k := r) (K := 2) (N := 2) (by decide) (M := fun i => if i < r then ext n (M (o i)) (fun w => M (o i) (c w)) else ext n z (fun w => if w < t then z (c w) else 0))
    (P := fun u => ext n (R u) (fun w => R u (c w))) (c := fun u => n + u) (v := ext n y (fun _ => 0))
    (fun u hu => by omega)
    (fun i hi u hu => by
      by_cases hir : i < r
      · simp only [hir, if_true]
        rw [ext_hi]
        exact hK _ (h.olt i (by have := h.rs; omega)) _ (hcn u hu)
      · simp only [hir, if_false]
        rw [ext_hi]
        split
        · exact hz _ (hcn u hu)
        · decide)
    (j1 := j) (by omega)
    (fun i hi => by
      by_cases hir : i < r
      · simp only [hir, if_true]
        rw [ext_lo hj]
        exact hK _ (h.olt i (by have := h.rs; omega)) _ hj
      · simp only [hir, if_false]
        rw [ext_lo hj]
        exact hz _ hj)
    hPs
    (fun u hu => by rw [ext_hi]; have := h.pos u hu; omega)
    (fun u hu w hw hwu => by rw [ext_hi]; exact h.off w hw u (by have := h.rs; omega) (fun e => hwu e.symm))
    (by
      refine span_trans (k := t + 1) (P := fun u => if u < t then ext n (R u) (fun w => R u (c w)) else ext n z (fun w => if w < t then z (c w) else 0)) ⟨d, fun u => if u < t then b u else a, hd, fun x hx => ?_⟩ (fun u hu => ?_)
      · show _ = sumN t _ + _
        simp only [Nat.lt_irrefl, if_false]
        rcases Nat.lt_or_ge x n with hxn | hxn
        · rw [ext_lo hxn, ext_lo hxn, hy x hxn, Int.add_comm]
          congr 1
          exact sumN_congr fun i hi => by simp only [hi, if_true]; rw [ext_lo hxn]
        · obtain ⟨w, rfl⟩ : ∃ w, x = n + w := ⟨x - n, by omega⟩
          have hw : w < r := by omega
          rw [ext_hi, ext_hi, Int.mul_zero]
          have e1 : sumN t (fun i => (if i < t then b i else a) * (if i < t then ext n (R i) (fun w => R i (c w)) else ext n z (fun w => if w < t then z (c w) else 0)) (n + w)) = sumN t (fun u => b u * R u (c w)) := sumN_congr fun i hi => by simp only [hi, if_true]; rw [ext_hi]
          rw [e1]
          by_cases hwt : w < t
          · rw [if_pos hwt]
            have := hy (c w) (hcn w hw)
            rw [h0 w hwt, Int.mul_zero] at this
            omega
          · rw [if_neg hwt, Int.mul_zero, sumN_zero (fun u hu => by rw [h.off w hw u (by have := h.rs; omega) (by omega), Int.mul_zero])]
            rfl
      · by_cases hut : u < t
        · simp only [hut, if_true]
          exact hPs u (by omega)
        · simp only [hut, if_false]
          refine span_congr (span_row (show r < r + 1 by omega)) fun x hx => ?_
          simp only [Nat.lt_irrefl, if_false])
    (fun u hu => by rw [ext_hi])
    (by unfold Prim; rw [ext_gcd]; exact hp)
  rw [ext_lo hj] at key
  have h2 : bndN r 2 ≤ 52706752 * 2 := bndN_le6 hr
  unfold bndN at h2
  omega
/-- A row is taken where it is not 0. -/
def clrStep (x p : List Int) : List Int := clrRow x p (leadL p)
def remL (x : List Int) (rs : List (List Int)) : Nat → List Int
  | 0 => x
  | t + 1 => clrStep (remL x rs t) (row rs t)
/-- What the program leaves: it takes every row. -/
def remP (x : List Int) (rs : List (List Int)) : Nat → List Int
  | 0 => x
  | t + 1 => clearL (remP x rs t) (row rs t) (leadL (row rs t))
theorem remL_len (x : List Int) (rs : List (List Int)) : ∀ t, (remL x rs t).length = x.length
  | 0 => rfl
  | t + 1 => by rw [remL, clrStep, clrRow_len, remL_len x rs t]
theorem remP_len (x : List Int) (rs : List (List Int)) : ∀ t, (remP x rs t).length = x.length
  | 0 => rfl
  | t + 1 => by rw [remP, clearL_len, remP_len x rs t]
/-- The reduced rows of a matrix, with what they are. -/
structure Reduced (n : Nat) (ms rs : List (List Int)) (s : Nat) (M R : Nat → Nat → Int) (c o : Nat → Nat) : Prop where
  el : Elim n n s M R rs.length n c o
  n6 : n ≤ 6
  rowv : ∀ t, t < rs.length → ∀ j, R t j = vec (row rs t) j
  lead : ∀ t, t < rs.length → leadL (row rs t) = c t
  wid : ∀ t, t < rs.length → (row rs t).length = n
  src : s = ms.length ∧ ∀ i, M i = vec (row ms i)
  small : ∀ i, i < s → ∀ j, j < n → -2 ≤ M i j ∧ M i j ≤ 2
theorem Fine.reduced {n : Nat} {ms : List (List Int)} (h : Fine n n ms) : ∃ c o, Reduced n ms (rrL ms n) ms.length (fun i => vec (row ms i)) (fun i => vec (row (redL (ms.map tidyL) n).1 i)) c o := by
  obtain ⟨c, o, he⟩ := (h.inv (Nat.le_refl n)).el
  have hrow : ∀ t, t < (rrL ms n).length → row (rrL ms n) t = row (redL (ms.map tidyL) n).1 t := fun t ht => rrL_row h ht
  have hlen := rrL_len h
  refine ⟨c, o, by rw [hlen]; exact he, h.q6, fun t ht j => by rw [hrow t ht], fun t ht => ?_, fun t ht => rrL_wid h ht, ⟨rfl, fun _ => rfl⟩, h.small⟩
  rw [hrow t ht]
  rw [hlen] at ht
  have h1 := he.ck t ht
  have hw : (row (redL (ms.map tidyL) n).1 t).length = n := (h.inv (Nat.le_refl n)).wid t (by have := h.rle; omega)
  exact leadL_eq (by omega) (fun j hj => he.before t ht j hj) (.inr (by have := he.pos t ht; omega))
/-- What is true of what is left of z after t rows. -/
structure Rest (n : Nat) (rs : List (List Int)) (c : Nat → Nat) (z y : List Int) (t : Nat) : Prop where
  comb : ∃ (d a : Int) (b : Nat → Int), d ≠ 0 ∧ a ≠ 0 ∧ ∀ j, j < n → d * vec y j = a * vec z j + sumN t (fun u => b u * vec (row rs u) j)
  zero : ∀ u, u < t → vec y (c u) = 0
  tidy : Tidy n (vec y) ∨ y = z
theorem Reduced.rest_start {n : Nat} {ms rs : List (List Int)} {s : Nat} {M R : Nat → Nat → Int} {c o : Nat → Nat} (_h : Reduced n ms rs s M R c o) (z : List Int) : Rest n rs c z z 0 :=
  ⟨⟨1, 1, fun _ => 0, by decide, by decide, fun j _ => by simp [sumN]⟩, fun u hu => absurd hu (Nat.not_lt_zero _), .inr rfl⟩
theorem Reduced.rest_step {n : Nat} {ms rs : List (List Int)} {s : Nat} {M R : Nat → Nat → Int} {c o : Nat → Nat} (h : Reduced n ms rs s M R c o) {z y : List Int} {t : Nat} (ht : t < rs.length) (hy : y.length = n) (hr : Rest n rs c z y t) : Rest n rs c z (clrStep y (row rs t)) (t + 1) := by
  have hl := h.lead t ht
  have hpos := h.el.pos t ht
  have hck := h.el.ck t ht
  have hoff : ∀ u, u < t → vec (row rs t) (c u) = 0 := fun u hu => by rw [← h.rowv t ht]; exact h.el.off u (by omega) t (by have := h.el.rs; omega) (by omega)
  rw [h.rowv t ht] at hpos
  unfold clrStep clrRow
  rw [hl]
  by_cases h0 : vec y (c t) = 0
  · rw [if_pos h0]
    obtain ⟨d, a, b, hd, ha, e⟩ := hr.comb
    refine ⟨⟨d, a, fun u => if u < t then b u else 0, hd, ha, fun j hj => ?_⟩, fun u hu => ?_, hr.tidy⟩
    · rw [e j hj]
      congr 1
      show _ = sumN t _ + _
      simp only [Nat.lt_irrefl, if_false, Int.zero_mul, Int.add_zero]
      exact sumN_congr fun u hu => by simp only [hu, if_true]
    · rcases Nat.lt_or_eq_of_le (Nat.lt_succ_iff.1 hu) with h1 | rfl
      · exact hr.zero u h1
      · exact h0
  · rw [if_neg h0]
    have hcl : ∀ j, j < n → vec (combL y (row rs t) (c t)) j = vec y j * vec (row rs t) (c t) - vec (row rs t) j * vec y (c t) := fun j hj => combL_at (by omega)
    obtain ⟨q, hq, e1⟩ := tidyL_scale (combL y (row rs t) (c t))
    rw [combL_len, hy] at e1
    have e2 : ∀ j, j < n → q * vec (clearL y (row rs t) (c t)) j = vec y j * vec (row rs t) (c t) - vec (row rs t) j * vec y (c t) := fun j hj => (e1 j hj).trans (hcl j hj)
    refine ⟨?_, fun u hu => ?_, .inl ?_⟩
    · obtain ⟨d, a, b, hd, ha, e⟩ := hr.comb
      refine ⟨d * q, vec (row rs t) (c t) * a, fun u => if u < t then vec (row rs t) (c t) * b u else -(d * vec y (c t)), mul_ne hd hq, mul_ne (by omega) ha, fun j hj => ?_⟩
      show _ = _ + (sumN t _ + _)
      simp only [Nat.lt_irrefl, if_false]
      have e3 : sumN t (fun u => (if u < t then vec (row rs t) (c t) * b u else -(d * vec y (c t))) * vec (row rs u) j) = vec (row rs t) (c t) * sumN t (fun u => b u * vec (row rs u) j) := by
        rw [← sumN_mul]
        exact sumN_congr fun u hu => by simp only [hu, if_true]; rw [Int.mul_assoc]
      rw [e3, Int.mul_assoc d, e2 j hj, Int.mul_sub, ← Int.mul_assoc d (vec y j), e j hj, Int.add_mul, Int.neg_mul]
      have r1 : a * vec z j * vec (row rs t) (c t) = vec (row rs t) (c t) * a * vec z j := by rw [Int.mul_comm, Int.mul_assoc]
      have r2 : sumN t (fun u => b u * vec (row rs u) j) * vec (row rs t) (c t) = vec (row rs t) (c t) * sumN t (fun u => b u * vec (row rs u) j) := Int.mul_comm _ _
      have r3 : d * (vec (row rs t) j * vec y (c t)) = d * vec y (c t) * vec (row rs t) j := by rw [Int.mul_comm (vec (row rs t) j), Int.mul_assoc]
      rw [r1, r2, r3]
      omega
    · rcases Nat.lt_or_eq_of_le (Nat.lt_succ_iff.1 hu) with h1 | rfl
      · have := e2 (c u) (h.el.ck u (by omega))
        rw [hr.zero u h1, hoff u h1, Int.zero_mul, Int.zero_mul, Int.sub_zero] at this
        exact (Int.mul_eq_zero.1 this).resolve_left hq
      · have := e2 (c u) hck
        rw [Int.mul_comm (vec y (c u)), Int.sub_self] at this
        exact (Int.mul_eq_zero.1 this).resolve_left hq
    · have := tidyL_tidy (combL y (row rs t) (c t))
      rw [combL_len, hy] at this
      exact this
theorem Reduced.rest {n : Nat} {ms rs : List (List Int)} {s : Nat} {M R : Nat → Nat → Int} {c o : Nat → Nat} (h : Reduced n ms rs s M R c o) {z : List Int} (hz : z.length = n) : ∀ t, t ≤ rs.length → Rest n rs c z (remL z rs t) t
  | 0, _ => h.rest_start z
  | t + 1, ht => h.rest_step (by omega) (by rw [remL_len]; exact hz) (Reduced.rest h hz t (by omega))
theorem Reduced.rem_fit {n : Nat} {ms rs : List (List Int)} {s : Nat} {M R : Nat → Nat → Int} {c o : Nat → Nat} (h : Reduced n ms rs s M R c o) {z : List Int} (hz : z.length = n) (hb : ∀ j, -2 ≤ vec z j ∧ vec z j ≤ 2) {t : Nat} (ht : t ≤ rs.length) : Fit 105413504 (remL z rs t) := by
  intro j
  have hR := h.rest hz t ht
  rcases Nat.lt_or_ge j n with hj | hj
  · rcases hR.tidy with h1 | h1
    · rcases h1 with h1 | ⟨hp, _⟩
      · rw [h1 j hj]; decide
      · obtain ⟨d, a, b, hd, _, e⟩ := hR.comb
        exact h.el.rest (by have := h.el.rk; have := h.n6; omega) h.small (fun j _ => hb j) ht hp hd (fun x hx => by
          rw [e x hx]
          congr 1
          exact sumN_congr fun u hu => by rw [h.rowv u (by omega)]) hR.zero hj
    · rw [h1]
      have := hb j
      omega
  · rw [vec_beyond (by rw [remL_len]; omega)]
    decide
theorem rem_tidy {x : List Int} {rs : List (List Int)} (hl : ∀ t, t < rs.length → leadL (row rs t) < x.length ∧ vec (row rs t) (leadL (row rs t)) ≠ 0) : ∀ t, t ≤ rs.length → tidyL (remP x rs t) = tidyL (remL x rs t)
  | 0, _ => rfl
  | t + 1, ht => by
    obtain ⟨h1, h2⟩ := hl t (by omega)
    have ih := rem_tidy hl t (by omega)
    rw [remP, remL, clrStep, clrRow]
    have hle : (remP x rs t).length = (remL x rs t).length := by rw [remP_len, remL_len]
    split
    · rename_i h0
      rw [clearL_zero (tidy_zero.1 (by rw [ih]; exact tidy_zero.2 h0)) h2, tidyL_idem, ih]
    · rw [clearL_tidy hle ih (by rw [remP_len]; exact h1)]
theorem remP_fit {x : List Int} {rs : List (List Int)} {B : Int} (hl : ∀ t, t < rs.length → leadL (row rs t) < x.length ∧ vec (row rs t) (leadL (row rs t)) ≠ 0) (hf : ∀ t, t ≤ rs.length → Fit B (remL x rs t)) {t : Nat} (ht : t ≤ rs.length) : Fit B (remP x rs t) := by
  cases t with
  | zero => exact hf 0 ht
  | succ t =>
    have e : remP x rs (t + 1) = tidyL (remP x rs (t + 1)) := by rw [remP, clearL, tidyL_idem]
    rw [e, rem_tidy hl _ ht]
    exact (hf _ ht).tidy
end Go.Proofs.Ytedkeobhcpbigaa
/- IsInSpan: the model's and the program's. -/
namespace Go.Proofs.Ytedkeobhcpbigaa
open Go.RowKit
/-- Rows and a row that are matrices with as many columns. -/
def bothV (ms : List (List Int)) (z : List Int) : Bool := isMat ms (z.length : Int) && isMat [z] (z.length : Int)
def inSpanV (ms : List (List Int)) (z : List Int) : Bool := bothV ms z && decide (leadL (remL z (rrL ms z.length) (rrL ms z.length).length) = z.length)
theorem seesM_one {w : World} {b : Option Addr} {lb cb : Nat} {z : List Int} (h : Sees .i64 w b lb z) (h1 : lb ≤ cb) (h2 : cb ≤ maxLen) (t : TypeId) : SeesM (w.alloc (.cells #[.slice b lb cb] t)) (some ⟨w.heap.size, 0, none⟩) 1 [z] := by
  refine ⟨rfl, fun r hr => ?_⟩
  obtain rfl : r = 0 := by omega
  have hz : row [z] 0 = z := rfl
  rw [hz, h.1]
  exact ⟨w.heap.size, 0, b, cb, rfl, by simp, by simp, h1, h2, h.alloc _⟩
theorem small_one {z : List Int} (h : z.length ≤ 6) : SmallM [z] := by
  unfold SmallM
  show 1 + (0 + (row [z] 0).length) ≤ _
  have : row [z] 0 = z := rfl
  rw [this]
  omega
theorem isMat_len {ms : List (List Int)} {n : Nat} (h : isMat ms (n : Int) = true) : 1 ≤ n ∧ n ≤ 6 := by have := (isMat_true h).1; omega
theorem both_row {ms : List (List Int)} {z : List Int} (h : bothV ms z = true) : ∀ j, -2 ≤ vec z j ∧ vec z j ≤ 2 := fun j => by
  simp only [bothV, Bool.and_eq_true] at h
  rcases Nat.lt_or_ge j z.length with hj | hj
  · exact ((isMat_true h.2).2.2 0 (Nat.lt_succ_self 0)).2 j hj
  · rw [vec_beyond hj]; decide
theorem both_fine {ms : List (List Int)} {z : List Int} (h : bothV ms z = true) : Fine z.length z.length ms := by
  simp only [bothV, Bool.and_eq_true] at h
  have := fine_of h.1
  simpa using this
theorem both_len {ms : List (List Int)} {z : List Int} (h : bothV ms z = true) : 1 ≤ z.length ∧ z.length ≤ 6 := by
  simp only [bothV, Bool.and_eq_true] at h
  exact isMat_len h.1
set_option maxHeartbeats 800000 in
theorem specBoth_any (W : World) (a : Option Addr) (len cap : Nat) (ms : List (List Int)) (b : Option Addr) (lb cb : Nat) (z : List Int) (hsm : SmallM ms) (hs : SeesM W a len ms) (hl : lb ≤ 1073741824) (hc : lb ≤ cb) (hcm : cb ≤ maxLen) (hs2 : Sees .i64 W b lb z) :
    Calls Try.prog 76 #[.slice a len cap, .slice b lb cb] W fun e w' => e = .returned (.bool (bothV ms z)) ∧ Below W.heap.size W w' := by
  obtain rfl : z.length = lb := hs2.1
  have HS := Lib.hid hs
  have HSM := Lib.hid hsm
  have HS2 := Lib.hid hs2
  clear hs hsm hs2
  cases h1 : isMat ms (z.length : Int)
  · have HE : Hid (bothV ms z = false) := Lib.hid (by unfold bothV; rw [h1]; rfl)
    have H1 := Lib.hid h1
    clear h1
    go_enter Try.func76, Try.ntmps76
    go_wp2_with (go_at_call 54; refine (specIsM_any _ a len cap ms (z.length : Int) HSM.out (by omega) (by omega) HS.out).mono ?_; rw [H1.out]; rintro e w1 ⟨rfl, hb1⟩; have HB1 := Lib.hid hb1; clear hb1)
    go_ret
    exact ⟨ret_bool HE.out.symm, HB1.out⟩
  · have hz6 := (isMat_len h1).2
    have HE : Hid (bothV ms z = isMat [z] (z.length : Int)) := Lib.hid (by unfold bothV; rw [h1]; rfl)
    have HSO := Lib.hid (small_one hz6)
    have H1 := Lib.hid h1
    clear h1
    go_enter Try.func76, Try.ntmps76
    go_wp2_with (first
      | (go_at_call 54; refine (specIsM_any _ (some ⟨w1.heap.size, 0, none⟩) 1 1 [z] (z.length : Int) HSO.out (by omega) (by omega) (seesM_one (HS2.out.below HB1.out) hc hcm _)).mono ?_; rintro e w2 ⟨rfl, hb2⟩; have HB2 := Lib.hid (below_up (HB1.out.alloc HB1.out.size _) hb2 (Nat.le_refl _)); clear hb2)
      | (go_at_call 54; refine (specIsM_any _ a len cap ms (z.length : Int) HSM.out (by omega) (by omega) HS.out).mono ?_; rw [H1.out]; rintro e w1 ⟨rfl, hb1⟩; have HB1 := Lib.hid hb1; clear hb1))
    go_ret
    exact ⟨ret_bool HE.out.symm, HB2.out⟩
set_option maxHeartbeats 800000 in
theorem both_any (W : World) (a : Option Addr) (len cap : Nat) (ms : List (List Int)) (b : Option Addr) (lb cb : Nat) (z : List Int) (hsm : SmallM ms) (hs : SeesM W a len ms) (hl : lb ≤ 1073741824) (hc : lb ≤ cb) (hcm : cb ≤ maxLen) (hs2 : Sees .i64 W b lb z) :
    Calls Try.prog 71 #[.slice a len cap, .slice b lb cb] W fun e w' => e = .returned (.bool (bothV ms z)) ∧ Below W.heap.size W w' := by
  obtain rfl : z.length = lb := hs2.1
  have HS := Lib.hid hs
  have HSM := Lib.hid hsm
  have HS2 := Lib.hid hs2
  clear hs hsm hs2
  cases h1 : isMat ms (z.length : Int)
  · have HE : Hid (bothV ms z = false) := Lib.hid (by unfold bothV; rw [h1]; rfl)
    have H1 := Lib.hid h1
    clear h1
    go_enter Try.func71, Try.ntmps71
    go_wp2_with (go_at_call 19; refine (isM_any _ a len cap ms (z.length : Int) HSM.out (by omega) (by omega) HS.out).mono ?_; rw [H1.out]; rintro e w1 ⟨rfl, hb1⟩; have HB1 := Lib.hid hb1; clear hb1)
    go_ret
    exact ⟨ret_bool HE.out.symm, HB1.out⟩
  · have hz6 := (isMat_len h1).2
    have HE : Hid (bothV ms z = isMat [z] (z.length : Int)) := Lib.hid (by unfold bothV; rw [h1]; rfl)
    have HSO := Lib.hid (small_one hz6)
    have H1 := Lib.hid h1
    clear h1
    go_enter Try.func71, Try.ntmps71
    go_wp2_with (first
      | (go_at_call 19; refine (isM_any _ (some ⟨w1.heap.size, 0, none⟩) 1 1 [z] (z.length : Int) HSO.out (by omega) (by omega) (seesM_one (HS2.out.below HB1.out) hc hcm _)).mono ?_; rintro e w2 ⟨rfl, hb2⟩; have HB2 := Lib.hid (below_up (HB1.out.alloc HB1.out.size _) hb2 (Nat.le_refl _)); clear hb2)
      | (go_at_call 19; refine (isM_any _ a len cap ms (z.length : Int) HSM.out (by omega) (by omega) HS.out).mono ?_; rw [H1.out]; rintro e w1 ⟨rfl, hb1⟩; have HB1 := Lib.hid hb1; clear hb1))
    go_ret
    exact ⟨ret_bool HE.out.symm, HB2.out⟩
end Go.Proofs.Ytedkeobhcpbigaa
/- IsInSpan: the model's and the program's, whole. -/
namespace Go.Proofs.Ytedkeobhcpbigaa
open Go.RowKit
theorem OwnM.seesF {w : World} {lo hi : Nat} {a : Option Addr} {len cap : Nat} {ms : List (List Int)} (h : OwnM w lo hi a len cap ms) : SeesF w lo hi a len ms := by
  obtain ⟨h1, h2, h3, A, C, h4, h5⟩ := h
  refine ⟨h1, fun r hr => ?_⟩
  rcases ownsRow_spot h4 with ⟨_, h0⟩ | ⟨g, rfl, _, hg, _, _, hc, _⟩
  · omega
  · have ho := (h5 r (by omega)).1
    have hb := h3 _ rfl
    exact ⟨g, 0, A r, C r, rfl, hb, h2, by rw [Nat.zero_add, hc r hr, heads_at (by omega)], ho.cap, ho.capMax, ho.sees, ho.2.2.2.2⟩
theorem inSpan_no {ms : List (List Int)} {z : List Int} (h : bothV ms z = false) : inSpanV ms z = false := by unfold inSpanV; rw [h]; rfl
theorem inSpan_yes {ms : List (List Int)} {z : List Int} (h : bothV ms z = true) : inSpanV ms z = decide (leadL (remL z (rrL ms z.length) (rrL ms z.length).length) = z.length) := by unfold inSpanV; rw [h]; rfl
/-- What the walks need of the reduced rows. -/
structure SpanAt (n : Nat) (rs : List (List Int)) (z : List Int) : Prop where
  many : rs.length ≤ 12
  wid : ∀ t, t < rs.length → (row rs t).length = n
  lead : ∀ t, t < rs.length → leadL (row rs t) < n ∧ vec (row rs t) (leadL (row rs t)) ≠ 0
  fit : ∀ t, t < rs.length → Fit 2985984 (row rs t)
  rem : ∀ t, t ≤ rs.length → Fit 105413504 (remL z rs t)
theorem rr_fit {n : Nat} {ms : List (List Int)} (h : Fine n n ms) {t : Nat} (ht : t < (rrL ms n).length) : Fit 2985984 (row (rrL ms n) t) := fun j => by
  rcases Nat.lt_or_ge j n with hj | hj
  · rw [rrL_row h ht]
    rw [rrL_len h] at ht
    obtain ⟨c, o, he⟩ := (h.inv (Nat.le_refl n)).el
    have := he.bound1 (N := 2) h.small hj (fun i hi => h.small i hi j hj) ht (by have := he.rk; have := h.q6; omega)
    omega
  · rw [vec_beyond (by rw [rrL_wid h ht]; exact hj)]
    decide
theorem span_at {ms : List (List Int)} {z : List Int} (h : bothV ms z = true) : SpanAt z.length (rrL ms z.length) z := by
  have hf := both_fine h
  obtain ⟨c, o, hr⟩ := hf.reduced
  refine ⟨?_, hr.wid, fun t ht => ?_, fun t ht => rr_fit hf ht, fun t ht => hr.rem_fit rfl (both_row h) ht⟩
  · rw [rrL_len hf]
    have h1 := hf.rle
    have h2 := hf.len
    omega
  · rw [hr.lead t ht]
    refine ⟨hr.el.ck t ht, ?_⟩
    have := hr.el.pos t ht
    rw [hr.rowv t ht] at this
    omega
set_option maxRecDepth 20000 in
set_option maxHeartbeats 1600000 in
theorem specSpan_any (W : World) (a : Option Addr) (len cap : Nat) (ms : List (List Int)) (b : Option Addr) (lb cb : Nat) (z : List Int) (hsm : SmallM ms) (hs : SeesM W a len ms) (hl : lb ≤ 1073741824) (hc : lb ≤ cb) (hcm : cb ≤ maxLen) (hs2 : Sees .i64 W b lb z) :
    Calls Try.prog 55 #[.slice a len cap, .slice b lb cb] W fun e w' => e = .returned (.bool (inSpanV ms z)) ∧ Below W.heap.size W w' := by
  have HS := Lib.hid hs
  have HSM := Lib.hid hsm
  have HS2 := Lib.hid hs2
  have HLB := Lib.hid hs2.1
  obtain ⟨i0, hi, hz0, hz1, hz2⟩ := info_parts info_i64
  cases hv : bothV ms z
  · have HE := Lib.hid (inSpan_no hv)
    have HV := Lib.hid hv
    clear hv hs hsm hs2
    go_enter Try.func55, Try.ntmps55
    go_wp2_with (go_at_call 76; refine (specBoth_any _ a len cap ms b lb cb z HSM.out HS.out hl hc hcm HS2.out).mono ?_; rw [HV.out]; rintro e w1 ⟨rfl, hb1⟩; have HB1 := Lib.hid hb1; clear hb1)
    go_ret
    exact ⟨ret_bool HE.out.symm, HB1.out⟩
  · have HA := Lib.hid (span_at hv)
    have HRV : Hid (rrV ms (lb : Int) = rrL ms z.length) := Lib.hid (by
      have h1 : isMat ms (z.length : Int) = true := by simp only [bothV, Bool.and_eq_true] at hv; exact hv.1
      unfold rrV
      rw [← hs2.1, if_pos h1]
      simp)
    have hb6 := both_len hv
    rw [hs2.1] at hb6 HA
    obtain ⟨v, hve⟩ : ∃ v, v = inSpanV ms z := ⟨_, rfl⟩
    rw [← hve]
    have HE := Lib.hid (hve.trans (inSpan_yes hv))
    obtain ⟨rs, hrs⟩ : ∃ rs, rs = rrL ms z.length := ⟨_, rfl⟩
    rw [← hrs] at HE HRV
    rw [show rrL ms lb = rs by rw [hrs, hs2.1]] at HA
    have hr12 : rs.length ≤ 12 := HA.out.many
    have HV := Lib.hid hv
    obtain ⟨hb1', hb6'⟩ := hb6
    clear hv hve hs hsm hs2 hrs
    go_enter Try.func55, Try.ntmps55
    go_wp2_with (first
      | (go_at_call 76; refine (specBoth_any _ a len cap ms b lb cb z HSM.out HS.out hl hc hcm HS2.out).mono ?_; rw [HV.out]; rintro e w1 ⟨rfl, hb1⟩; have HB1 := Lib.hid hb1; clear hb1)
      | (at_builtin; refine wp_append_sees rfl _ _ 25 rfl 3 i0 .i64 8 Try.underlying25 hi hz0 hz1 hz2 _ _ _ _ rfl _ _ (own_nil _ _ _) _ _ _ _ rfl ((HS2.out.below HB1.out).alloc _) (by unfold maxLen; omega) (by omega) (by simp) ?_; intro a3 len3 cap3 w3 hlen3 ho3 hm3; rw [Nat.zero_add] at hlen3; replace hlen3 := hlen3.symm; subst hlen3; rw [List.nil_append] at ho3; have HX3 := Lib.hid ho3.sees; have HB3 := Lib.hid (below_moved (HB1.out.alloc HB1.out.size _) hm3 (Nat.le_refl _) HB1.out.size); clear ho3 hm3)
      | (go_at_call 77; refine (specRR_any _ a len cap ms (lb : Int) HSM.out (by omega) (by omega) (HS.out.below HB3.out)).mono ?_; rw [HRV.out]; rintro e w4 ⟨a4, l4, c4, rfl, hs4, _, _, hb4⟩; have hl4 := hs4.1; subst hl4; have HS4 := Lib.hid hs4.sees; have HX4 := Lib.hid (HX3.out.below hb4); have HB4 := Lib.hid (below_up HB3.out hb4 (Nat.le_refl _)); clear hs4 hb4))
    go_loopw [5, 7, 8] (fun v i _ wr => ∃ (u : Nat) (ax : Option Addr) (cx : Nat), u ≤ rs.length ∧ i = .int .i64 u ∧ v = .slice ax lb cx ∧ Sees .i64 wr ax lb (remL z rs u) ∧ Below W.heap.size W wr ∧ Below w4.heap.size w4 wr) (fun _ i _ _ => rs.length - (intOf i).toNat)
    case atStart => exact ⟨0, _, _, Nat.zero_le _, rfl, rfl, HX4.out, HB4.out, Below.refl _ _⟩
    case round =>
      obtain ⟨u, ax, cx, hu, rfl, rfl, hx, hb, hb4⟩ := hrel
      have HX := Lib.hid hx
      have HB := Lib.hid hb
      have HB5 := Lib.hid hb4
      have hlb : lb ≤ 1073741824 := hl
      by_cases hul : u < rs.length
      · obtain ⟨b5, off5, ar, cr, rfl, hbl, hcr, _, _, hsr⟩ := HS4.out.2 u hul
        have hcw := (hb4.cell (p := ⟨b5, off5 + u, none⟩) hbl).trans hcr
        rw [HA.out.wid u hul] at hcw hsr
        have HSR := Lib.hid (hsr.below hb4)
        obtain ⟨d, hd⟩ : ∃ d, d = leadL (row rs u) := ⟨_, rfl⟩
        have hdl : d < lb := by rw [hd]; exact (HA.out.lead u hul).1
        have HD := Lib.hid hd
        rcases hx.2.2 with h0 | ⟨b6, o6, rfl, hb6, hc6⟩
        · omega
        · have hcc := hc6 d hdl
          obtain ⟨y, hy⟩ : ∃ y, y = vec (remL z rs u) d := ⟨_, rfl⟩
          rw [show (remL z rs u).getD d 0 = y from hy.symm] at hcc
          have HY := Lib.hid hy
          clear hcr hsr hx hb hb4 hd hc6 hy
          by_cases hy0 : y = 0
          · have HN : Hid (remL z rs (u + 1) = remL z rs u) := Lib.hid (by rw [remL, clrStep, clrRow, ← HD.out, ← HY.out, if_pos hy0])
            subst hy0
            go_wp2_with (go_at_call 78; refine (specLead_any _ ar lb cr (row rs u) hlb HSR.out).mono ?_; rw [← HD.out]; rintro e w' ⟨rfl, rfl⟩)
            go_roundw
            case rel => exact ⟨u + 1, _, _, by omega, by go_num, rfl, by rw [HN.out]; exact HX.out, HB.out, HB5.out⟩
            case measure => simp [intOf]; omega
          · have HN : Hid (remL z rs (u + 1) = clearL (remL z rs u) (row rs u) d) := Lib.hid (by rw [remL, clrStep, clrRow, ← HD.out, ← HY.out, if_neg hy0])
            have hy0b : (y != 0) = true := by simp [hy0]
            go_wp2_with (first
              | (go_at_call 78; refine (specLead_any _ ar lb cr (row rs u) hlb HSR.out).mono ?_; rw [← HD.out]; rintro e w' ⟨rfl, rfl⟩)
              | (go_at_call 79; refine (specClear_any _ _ lb cx ar cr (remL z rs u) (row rs u) d hlb hdl HX.out HSR.out ((HA.out.rem u hu).up (by decide)) ((HA.out.fit u hul).up (by decide)) ((HA.out.rem u hu).up (by decide) d) ((HA.out.fit u hul).up (by decide) d)).mono ?_; rintro e w7 ⟨a7, l7, c7, rfl, ho7, hb7⟩; have hl7 : lb = l7 := (by have h1 := ho7.1; rw [clearL_len, remL_len, HLB.out] at h1; exact h1); subst hl7; have HX7 := Lib.hid ho7.sees; have HB7 := Lib.hid hb7; clear ho7 hb7))
            go_roundw
            case rel => exact ⟨u + 1, _, _, by omega, by go_num, rfl, by rw [HN.out]; exact HX7.out, below_up HB.out HB7.out (Nat.le_refl _), below_up HB5.out HB7.out (Nat.le_refl _)⟩
            case measure => simp [intOf]; omega
      · obtain rfl : u = rs.length := by omega
        obtain ⟨d, hd⟩ : ∃ d, d = leadL (remL z rs rs.length) := ⟨_, rfl⟩
        have HD := Lib.hid hd
        have HEV : Hid (v = decide (d = lb)) := Lib.hid (by rw [HE.out, HD.out, HLB.out])
        clear hx hb hb4 hd
        go_wp2_with (go_at_call 78; refine (specLead_any _ ax lb cx (remL z rs rs.length) hlb HX.out).mono ?_; rw [← HD.out]; rintro e w' ⟨rfl, rfl⟩)
        go_ret
        exact ⟨ret_bool (by rw [HEV.out]; by_cases h : d = lb; simp [h]; simp [h]; omega), HB.out⟩
end Go.Proofs.Ytedkeobhcpbigaa
/- IsInSpan: the program's. -/
namespace Go.Proofs.Ytedkeobhcpbigaa
open Go.RowKit
theorem startV_neg {zs : List Int} : decide (startV zs < 0) = decide (leadL zs = zs.length) := by
  unfold startV
  by_cases h : leadL zs = zs.length
  · rw [if_pos h]; simp [h]
  · rw [if_neg h]
    have : ¬ ((leadL zs : Int) < 0) := by omega
    simp [h, this]
theorem lead_tidy (z : List Int) : leadL (tidyL z) = leadL z := by
  refine leadL_eq (by rw [tidyL_len]; exact leadL_le z) (fun j hj => tidy_zero.2 (leadL_before hj)) ?_
  rcases Nat.lt_or_eq_of_le (leadL_le z) with h | h
  · exact .inr fun e => leadL_at h (tidy_zero.1 e)
  · exact .inl (by rw [tidyL_len]; exact h)
theorem SpanAt.same {n : Nat} {rs : List (List Int)} {z : List Int} (h : SpanAt n rs z) (hz : z.length = n) {t : Nat} (ht : t ≤ rs.length) : leadL (remP z rs t) = leadL (remL z rs t) := by
  rw [← lead_tidy (remP z rs t), ← lead_tidy (remL z rs t), rem_tidy (fun u hu => by rw [hz]; exact h.lead u hu) t ht]
theorem SpanAt.remP {n : Nat} {rs : List (List Int)} {z : List Int} (h : SpanAt n rs z) (hz : z.length = n) {t : Nat} (ht : t ≤ rs.length) : Fit 105413504 (remP z rs t) :=
  remP_fit (fun u hu => by rw [hz]; exact h.lead u hu) h.rem ht
set_option maxRecDepth 20000 in
set_option maxHeartbeats 1600000 in
theorem span_any (W : World) (a : Option Addr) (len cap : Nat) (ms : List (List Int)) (b : Option Addr) (lb cb : Nat) (z : List Int) (hsm : SmallM ms) (hs : SeesM W a len ms) (hl : lb ≤ 1073741824) (hc : lb ≤ cb) (hcm : cb ≤ maxLen) (hs2 : Sees .i64 W b lb z) :
    Calls Try.prog 48 #[.slice a len cap, .slice b lb cb] W fun e w' => e = .returned (.bool (inSpanV ms z)) ∧ Below W.heap.size W w' := by
  have HS := Lib.hid hs
  have HSM := Lib.hid hsm
  have HS2 := Lib.hid hs2
  have HLB := Lib.hid hs2.1
  cases hv : bothV ms z
  · have HE := Lib.hid (inSpan_no hv)
    have HV := Lib.hid hv
    clear hv hs hsm hs2
    go_enter Try.func48, Try.ntmps48
    go_wp2_with (go_at_call 71; refine (both_any _ a len cap ms b lb cb z HSM.out HS.out hl hc hcm HS2.out).mono ?_; rw [HV.out]; rintro e w1 ⟨rfl, hb1⟩; have HB1 := Lib.hid hb1; clear hb1)
    go_ret
    exact ⟨ret_bool HE.out.symm, HB1.out⟩
  · have HA := Lib.hid (span_at hv)
    have HRV : Hid (rrV ms (lb : Int) = rrL ms z.length) := Lib.hid (by
      have h1 : isMat ms (z.length : Int) = true := by simp only [bothV, Bool.and_eq_true] at hv; exact hv.1
      unfold rrV
      rw [← hs2.1, if_pos h1]
      simp)
    have hb6 := both_len hv
    rw [hs2.1] at hb6 HA
    obtain ⟨v, hve⟩ : ∃ v, v = inSpanV ms z := ⟨_, rfl⟩
    rw [← hve]
    have HE := Lib.hid (hve.trans (inSpan_yes hv))
    obtain ⟨rs, hrs⟩ : ∃ rs, rs = rrL ms z.length := ⟨_, rfl⟩
    rw [← hrs] at HE HRV
    rw [show rrL ms lb = rs by rw [hrs, hs2.1]] at HA
    have hr12 : rs.length ≤ 12 := HA.out.many
    have HV := Lib.hid hv
    obtain ⟨hb1', hb6'⟩ := hb6
    clear hv hve hs hsm hs2 hrs
    go_enter Try.func48, Try.ntmps48
    go_wp2_with (first
      | (go_at_call 71; refine (both_any _ a len cap ms b lb cb z HSM.out HS.out hl hc hcm HS2.out).mono ?_; rw [HV.out]; rintro e w1 ⟨rfl, hb1⟩; have HB1 := Lib.hid hb1; clear hb1)
      | (go_at_call 72; refine (clone_any _ b lb cb z hl (by omega) (HS2.out.below HB1.out)).mono ?_; rintro e w3 ⟨a3, l3, c3, rfl, ho3, hb3⟩; have hl3 : lb = l3 := (by have h1 := ho3.1; rw [HLB.out] at h1; exact h1); subst hl3; have HO3 := Lib.hid ho3; have HB3 := Lib.hid (below_up HB1.out hb3 (Nat.le_refl _)); clear ho3 hb3)
      | (go_at_call 51; refine (rrP_any _ a len cap ms (lb : Int) HSM.out (by omega) (by omega) (HS.out.below HB3.out)).mono ?_; rw [HRV.out]; rintro e w4 ⟨a4, l4, c4, rfl, hs4, hb4⟩; have hl4 := hs4.1; subst hl4; have HS4 := Lib.hid hs4.seesF; have HO4 := Lib.hid (HO3.out.below hb4); have HB4 := Lib.hid (below_up HB3.out hb4 (Nat.le_refl _)); clear hs4 hb4))
    go_loopw [19, 7] (fun i _ wr => ∃ u : Nat, u ≤ rs.length ∧ i = .int .i64 u ∧ Own .i64 3 wr w1.heap.size w3.heap.size a3 lb c3 (remP z rs u) ∧ Moved w1.heap.size w3.heap.size w4 wr) (fun i _ _ => rs.length - (intOf i).toNat)
    case atStart => exact ⟨0, Nat.zero_le _, rfl, HO4.out, Moved.refl _ _ _⟩
    case round =>
      obtain ⟨u, hu, rfl, ho, hm⟩ := hrel
      have HO := Lib.hid ho
      have HM := Lib.hid hm
      by_cases hul : u < rs.length
      · have hsf := HS4.out.moved hm (.inr (Nat.le_refl _))
        obtain ⟨b5, off5, ar, cr, rfl, hbl, _, hcw, _, _, hsr, hnr⟩ := hsf.2 u hul
        rw [HA.out.wid u hul] at hcw hsr
        have HSR := Lib.hid hsr
        have HNR : Hid (∀ x, ar = some x → ¬ (w1.heap.size ≤ x.block ∧ x.block < w3.heap.size)) := Lib.hid (fun x hx => by have := hnr x hx; omega)
        obtain ⟨d, hd⟩ : ∃ d, d = leadL (row rs u) := ⟨_, rfl⟩
        have hdl : d < lb := by rw [hd]; exact (HA.out.lead u hul).1
        have HSV : Hid (startV (row rs u) = (d : Int)) := Lib.hid (by rw [hd]; exact startV_lead (by rw [HA.out.wid u hul]; exact (HA.out.lead u hul).1))
        have HN : Hid (remP z rs (u + 1) = clearL (remP z rs u) (row rs u) d) := Lib.hid (by rw [remP, ← hd])
        clear hsr hnr hsf ho hm hd
        go_wp2_with (first
          | (go_at_call 63; refine (startOf_any _ ar lb cr (row rs u) hl HSR.out).mono ?_; rw [HSV.out]; rintro e w' ⟨rfl, rfl⟩)
          | (go_at_call 73; refine (clearCol_any _ w1.heap.size w3.heap.size a3 lb c3 ar cr (remP z rs u) (row rs u) d hl hdl HO.out HSR.out HNR.out ((HA.out.remP HLB.out hu).up (by decide)) ((HA.out.fit u hul).up (by decide)) ((HA.out.remP HLB.out hu).up (by decide) d) ((HA.out.fit u hul).up (by decide) d)).mono ?_; rintro e w7 ⟨rfl, ho7, hm7⟩; have HO7 := Lib.hid ho7; have HM7 := Lib.hid hm7; clear ho7 hm7))
        go_roundw
        case rel => exact ⟨u + 1, by omega, by go_num, by rw [HN.out]; exact HO7.out, HM.out.trans HM7.out⟩
        case measure => simp [intOf]; omega
      · obtain rfl : u = rs.length := by omega
        have HEV : Hid (v = decide (startV (remP z rs rs.length) < 0)) := Lib.hid (by rw [HE.out, startV_neg, HA.out.same HLB.out (Nat.le_refl _), remP_len])
        obtain ⟨d, hd⟩ : ∃ d, startV (remP z rs rs.length) = d := ⟨_, rfl⟩
        rw [hd] at HEV
        have HD := Lib.hid hd
        clear ho hm hd
        go_wp2_with (go_at_call 63; refine (startOf_any _ a3 lb c3 (remP z rs rs.length) hl HO.out.sees).mono ?_; rw [HD.out]; rintro e w' ⟨rfl, rfl⟩)
        go_ret
        exact ⟨ret_bool HEV.out.symm, below_moved HB4.out HM.out (Nat.le_refl _) HB1.out.size⟩
end Go.Proofs.Ytedkeobhcpbigaa
