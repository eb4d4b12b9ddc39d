/- Systems, as lists: rows with their values behind them, what is solvable, the solution, and that it is one. -/
import Derived.Test.YtedkeobhcpbigaaDet
import Derived.Test.YtedkeobhcpbigaaRedW
import Derived.Test.YtedkeobhcpbigaaSpanF
namespace Go.Proofs.Ytedkeobhcpbigaa
open Go.RowKit
def sumsOk (vs : List Int) : Bool := vs.all fun v => inR v (-1000) 1000
def isSys (ms : List (List Int)) (vs : List Int) (cols : Int) : Bool := sumsOk vs && (isMat ms cols && decide (vs.length = ms.length))
theorem sumsOk_true {vs : List Int} (h : sumsOk vs = true) (i : Nat) : -1000 ≤ vec vs i ∧ vec vs i ≤ 1000 := by
  rcases Nat.lt_or_ge i vs.length with hi | hi
  · have := List.all_eq_true.1 h (vs.getD i 0) (getD_mem hi)
    exact inR_true.1 this
  · rw [vec_beyond hi]
    decide
theorem isSys_true {ms : List (List Int)} {vs : List Int} {cols : Int} (h : isSys ms vs cols = true) : sumsOk vs = true ∧ isMat ms cols = true ∧ vs.length = ms.length := by
  simp only [isSys, Bool.and_eq_true, decide_eq_true_eq] at h
  exact ⟨h.1, h.2.1, h.2.2⟩
/-- Each row with its value behind it. -/
def augL (ms : List (List Int)) (vs : List Int) : List (List Int) := (List.range ms.length).map fun i => row ms i ++ [vec vs i]
theorem augL_len (ms : List (List Int)) (vs : List Int) : (augL ms vs).length = ms.length := by simp [augL]
theorem augL_row {ms : List (List Int)} {vs : List Int} {i : Nat} (h : i < ms.length) : row (augL ms vs) i = row ms i ++ [vec vs i] := row_range h
theorem vec_snoc {z : List Int} {a : Int} {j : Nat} (h : j < z.length) : vec (z ++ [a]) j = vec z j := by
  unfold vec List.getD
  rw [List.getElem?_append_left h]
theorem vec_last {z : List Int} {a : Int} : vec (z ++ [a]) z.length = a := by simp [vec, List.getD]
structure AugOk (q : Nat) (ms : List (List Int)) (vs : List Int) : Prop where
  fine : Fine (q + 1) q (augL ms vs)
  wid : ∀ i, i < ms.length → (row ms i).length = q
  small : ∀ i, i < ms.length → ∀ j, -2 ≤ vec (row ms i) j ∧ vec (row ms i) j ≤ 2
  sums : ∀ i, -1000 ≤ vec vs i ∧ vec vs i ≤ 1000
  len : vs.length = ms.length
  q1 : 1 ≤ q
  mat : isMat ms (q : Int) = true
theorem aug_ok {ms : List (List Int)} {vs : List Int} {q : Nat} (h : isSys ms vs (q : Int) = true) : AugOk q ms vs := by
  obtain ⟨h1, h2, h3⟩ := isSys_true h
  have hf : Fine q q ms := by have := fine_of h2; rwa [Int.toNat_natCast] at this
  have hs := sumsOk_true h1
  have hlo : ∀ i, i < ms.length → ∀ j, -2 ≤ vec (row ms i) j ∧ vec (row ms i) j ≤ 2 := fun i hi j => by
    rcases Nat.lt_or_ge j q with hj | hj
    · exact hf.small i hi j hj
    · rw [vec_beyond (by rw [hf.wid i hi]; exact hj)]; decide
  refine ⟨⟨hf.q6, Nat.le_succ q, by have := hf.q6; omega, by rw [augL_len]; exact hf.len, fun i hi => ?_, fun i hi j hj => ?_, fun i hi j => ?_⟩, hf.wid, hlo, hs, h3, by have := (isMat_true h2).1; omega, h2⟩
  · rw [augL_len] at hi
    rw [augL_row hi, List.length_append, hf.wid i hi]
    rfl
  · rw [augL_len] at hi
    rw [augL_row hi, vec_snoc (by rw [hf.wid i hi]; exact hj)]
    exact hlo i hi j
  · rw [augL_len] at hi
    rw [augL_row hi]
    rcases Nat.lt_trichotomy j q with hj | hj | hj
    · rw [vec_snoc (by rw [hf.wid i hi]; exact hj)]
      have := hlo i hi j
      omega
    · have e : vec (row ms i ++ [vec vs i]) j = vec vs i := by
        have := vec_last (z := row ms i) (a := vec vs i)
        rw [hf.wid i hi, ← hj] at this
        exact this
      rw [e]
      exact hs i
    · rw [vec_beyond (by rw [List.length_append, hf.wid i hi]; simp; omega)]
      decide
def redA (ms : List (List Int)) (vs : List Int) (q : Nat) : List (List Int) := (redL ((augL ms vs).map tidyL) q).1
def goodB (rows : List (List Int)) (q : Nat) : Bool := rows.all fun r => decide (leadL r ≠ q)
theorem goodB_true {rows : List (List Int)} {q : Nat} (h : goodB rows q = true) {i : Nat} (hi : i < rows.length) : leadL (row rows i) ≠ q := by
  have := List.all_eq_true.1 h (row rows i) (by unfold row List.getD; rw [List.getElem?_eq_getElem hi]; exact List.getElem_mem hi)
  exact of_decide_eq_true this
theorem goodB_false {rows : List (List Int)} {q i : Nat} (hi : i < rows.length) (h : leadL (row rows i) = q) : goodB rows q = false := by
  rcases hb : goodB rows q with _ | _
  · rfl
  · exact absurd h (goodB_true hb hi)
def solvB (ms : List (List Int)) (vs : List Int) (cols : Int) : Bool := isSys ms vs cols && goodB (redA ms vs cols.toNat) cols.toNat
/-- The reduced rows of a system, with what they are. -/
structure Aug (q : Nat) (ms : List (List Int)) (vs : List Int) (rows : List (List Int)) (r : Nat) (c o : Nat → Nat) : Prop where
  ok : AugOk q ms vs
  el : Elim (q + 1) q ms.length (fun i => vec (row (augL ms vs) i)) (fun i => vec (row rows i)) r q c o
  len : rows.length = ms.length
  wid : ∀ i, i < ms.length → (row rows i).length = q + 1
  lead : ∀ t, t < r → leadL (row rows t) = c t
  rest : ∀ t, r ≤ t → t < ms.length → q ≤ leadL (row rows t)
theorem aug_red {ms : List (List Int)} {vs : List Int} {q : Nat} (h : AugOk q ms vs) : ∃ r c o, Aug q ms vs (redA ms vs q) r c o := by
  have I := h.fine.inv (Nat.le_refl q)
  obtain ⟨c, o, he⟩ := I.el
  rw [augL_len] at he
  have hl := I.len
  have hw := I.wid
  rw [augL_len] at hl hw
  refine ⟨_, c, o, h, he, hl, hw, fun t ht => ?_, fun t ht hts => ?_⟩
  · have hck := he.ck t ht
    have hrs := he.rs
    exact leadL_eq (by have := hw t (by omega); unfold redA; omega) (fun j hj => he.before t ht j hj) (.inr (by have := he.pos t ht; unfold redA; omega))
  · rcases Nat.lt_or_ge (leadL (row (redA ms vs q) t)) q with h1 | h1
    · exact absurd (he.below t ht hts _ h1) (leadL_at (by have := hw t hts; unfold redA at *; omega))
    · exact h1
/-! ### The solution -/
def solAt (rows : List (List Int)) (q : Nat) : Nat → List (Int × Int)
  | 0 => List.replicate q (0, 1)
  | i + 1 => if leadL (row rows i) < q then (solAt rows q i).set (leadL (row rows i)) (mkN (vec (row rows i) q) (vec (row rows i) (leadL (row rows i))), mkD (vec (row rows i) q) (vec (row rows i) (leadL (row rows i)))) else solAt rows q i
theorem solAt_len (rows : List (List Int)) (q : Nat) : ∀ i, (solAt rows q i).length = q
  | 0 => by simp [solAt]
  | i + 1 => by
    rw [solAt]
    split
    · rw [List.length_set, solAt_len rows q i]
    · exact solAt_len rows q i
def solL (ms : List (List Int)) (vs : List Int) (cols : Int) : List (Int × Int) := if solvB ms vs cols = true then solAt (redA ms vs cols.toNat) cols.toNat (redA ms vs cols.toNat).length else []
theorem getD_set_same {xs : List (Int × Int)} {k : Nat} {p d : Int × Int} (h : k < xs.length) : (xs.set k p).getD k d = p := by simp [List.getD, h]
theorem getD_set_other {xs : List (Int × Int)} {k j : Nat} {p d : Int × Int} (h : j ≠ k) : (xs.set k p).getD j d = xs.getD j d := by
  unfold List.getD
  rw [List.getElem?_set, if_neg (fun e => h e.symm)]
theorem solAt_off {rows : List (List Int)} {q k : Nat} (hk : k < q) : ∀ i, (∀ u, u < i → leadL (row rows u) ≠ k) → (solAt rows q i).getD k (0, 0) = (0, 1)
  | 0, _ => by simp [solAt, List.getD, hk]
  | i + 1, h => by
    have ih := solAt_off hk i (fun u hu => h u (by omega))
    rw [solAt]
    split
    · rw [getD_set_other (fun e => h i (by omega) e.symm)]
      exact ih
    · exact ih
theorem solAt_on {rows : List (List Int)} {q k t : Nat} (hk : k < q) (ht : leadL (row rows t) = k) : ∀ i, t < i → (∀ u, u < i → u ≠ t → leadL (row rows u) ≠ k) → (solAt rows q i).getD k (0, 0) = (mkN (vec (row rows t) q) (vec (row rows t) k), mkD (vec (row rows t) q) (vec (row rows t) k))
  | 0, h, _ => absurd h (Nat.not_lt_zero _)
  | i + 1, h, hu => by
    rw [solAt]
    by_cases hti : t = i
    · subst hti
      rw [if_pos (by omega), ht, getD_set_same (by rw [solAt_len]; exact hk)]
    · have ih := solAt_on hk ht i (by omega) (fun u h1 h2 => hu u (by omega) h2)
      split
      · rw [getD_set_other (fun e => hu i (by omega) (fun e2 => hti e2.symm) e.symm)]
        exact ih
      · exact ih
/-- A solution over one denominator: X above D. -/
structure Solved (q : Nat) (ms : List (List Int)) (vs : List Int) (xs : List (Int × Int)) (D : Int) (X : Nat → Int) : Prop where
  pos : 0 < D
  len : xs.length = q
  rep : ∀ k, k < q → Rep D (X k) (xs.getD k (0, 0))
  fits : ∀ i, i < ms.length → sumN q (fun j => vec (row ms i) j * X j) = D * vec vs i
theorem Aug.solved {q : Nat} {ms : List (List Int)} {vs : List Int} {rows : List (List Int)} {r : Nat} {c o : Nat → Nat} (h : Aug q ms vs rows r c o) (hg : ∀ i, i < ms.length → leadL (row rows i) ≠ q) :
    (∀ i, i < ms.length → leadL (row rows i) < q → MkOk (vec (row rows i) q) (vec (row rows i) (leadL (row rows i)))) ∧ ∃ (D : Int) (X : Nat → Int), Solved q ms vs (solAt rows q rows.length) D X ∧ D ≤ 46080 ∧ (∀ k, (X k).natAbs ≤ 23040000) ∧ (r ≤ 5 → D ≤ 3840 ∧ ∀ k, (X k).natAbs ≤ 1920000) := by
  have he := h.el
  have hq6 := h.ok.fine.q6
  have hrk := he.rk
  have hrs := he.rs
  have hlen := augL_len ms vs
  have hsm := h.ok.fine.small
  have hft := h.ok.fine.fit
  rw [hlen] at hsm hft
  obtain ⟨D, Y, hc⟩ := he.cram (K := 2) (fun i hi j hj => by have := hsm i hi j hj; omega)
  have hinj : ∀ t, t < r → ∀ u, u < r → u ≠ t → c u ≠ c t := fun t ht u hu hne => by
    rcases Nat.lt_or_gt_of_ne hne with h1 | h1
    · have := he.mono u t h1 ht; omega
    · have := he.mono t u h1 hu; omega
  obtain ⟨X, hX⟩ : ∃ X : Nat → Int, X = fun k => sumN r (fun t => if c t = k then Y t q else 0) := ⟨_, rfl⟩
  have hXon : ∀ t, t < r → X (c t) = Y t q := fun t ht => by
    rw [hX]
    show sumN r (fun u => if c u = c t then Y u q else 0) = Y t q
    rw [sumN_one ht (fun u hu hne => if_neg (hinj t ht u hu hne)), if_pos rfl]
  have hXoff : ∀ k, (∀ t, t < r → c t ≠ k) → X k = 0 := fun k hk => by
    rw [hX]
    exact sumN_zero fun t ht => if_neg (hk t ht)
  have hYb := hc.bd 1000 q (fun i hi => by have := hft i hi q; omega)
  have hXb : ∀ (B : Nat), (∀ t, t < r → (Y t q).natAbs ≤ B) → ∀ k, (X k).natAbs ≤ B := fun B hB k => by
    rcases Classical.em (∃ t, t < r ∧ c t = k) with ⟨t, ht, rfl⟩ | hn
    · rw [hXon t ht]; exact hB t ht
    · rw [hXoff k (fun t ht e => hn ⟨t, ht, e⟩)]; simp
  have hDle : D ≤ 46080 := by have h1 := hc.le; have h2 := (fct_le6 (r := r) (by omega)).1; omega
  have hX6 : ∀ k, (X k).natAbs ≤ 23040000 := hXb _ fun t ht => by have h1 := hYb t ht; have h2 := (fct_le6 (r := r) (by omega)).2; omega
  have hlead : ∀ i, i < ms.length → leadL (row rows i) < q → i < r := fun i hi hl => by
    rcases Nat.lt_or_ge i r with h1 | h1
    · exact h1
    · have := h.rest i h1 hi; omega
  have hzero : ∀ t, r ≤ t → t < ms.length → ∀ j, vec (row rows t) j = 0 := fun t ht hts j => by
    have h1 := h.rest t ht hts
    have h2 := hg t hts
    have h3 := leadL_le (row rows t)
    have h4 := h.wid t hts
    exact leadL_all (by omega) j
  have hcross : ∀ t, t < r → vec (row rows t) (c t) * Y t q = D * vec (row rows t) q := fun t ht => hc.row t ht q (by omega)
  have hmk : ∀ t, t < r → MkOk (vec (row rows t) q) (vec (row rows t) (c t)) ∧ Rep D (Y t q) (mkN (vec (row rows t) q) (vec (row rows t) (c t)), mkD (vec (row rows t) q) (vec (row rows t) (c t))) := fun t ht =>
    rep_mk hc.pos (by omega) (by have h1 := hX6 (c t); rw [hXon t ht] at h1; unfold Lim; omega) (he.pos t ht) (by rw [Int.mul_comm, ← hcross t ht, Int.mul_comm])
  refine ⟨fun i hi hl => ?_, D, X, ⟨hc.pos, solAt_len _ _ _, fun k hk => ?_, fun i hi => ?_⟩, hDle, hX6, fun hr => ⟨?_, hXb _ fun t ht => ?_⟩⟩
  · have hir := hlead i hi hl
    rw [h.lead i hir]
    exact (hmk i hir).1
  · rcases Classical.em (∃ t, t < r ∧ c t = k) with ⟨t, ht, rfl⟩ | hn
    · rw [solAt_on hk (h.lead t ht) _ (by rw [h.len]; omega) (fun u hu hne => by
        rw [h.len] at hu
        rcases Nat.lt_or_ge u r with h1 | h1
        · rw [h.lead u h1]; exact hinj t ht u h1 hne
        · have := h.rest u h1 hu; omega), hXon t ht]
      exact (hmk t ht).2
    · rw [solAt_off hk _ (fun u hu e => by
        rw [h.len] at hu
        have hur := hlead u hu (by omega)
        exact hn ⟨u, hur, by rw [← h.lead u hur]; exact e⟩), hXoff k (fun t ht e => hn ⟨t, ht, e⟩)]
      have := rep_int (D := D) (a := 0) ⟨by omega, by omega⟩
      rw [Int.zero_mul] at this
      exact this
  · -- each reduced row has its value
    have hrow : ∀ t, t < ms.length → sumN q (fun j => vec (row rows t) j * X j) = D * vec (row rows t) q := fun t hts => by
      rcases Nat.lt_or_ge t r with ht | ht
      · have hct := he.ck t ht
        rw [sumN_one hct (fun j hj hne => by
          rcases Classical.em (∃ u, u < r ∧ c u = j) with ⟨u, hu, rfl⟩ | hn
          · have hut : t ≠ u := fun e => hne (by rw [e])
            have h0 : vec (row rows t) (c u) = 0 := he.off u hu t hts hut
            rw [h0, Int.zero_mul]
          · rw [hXoff j (fun u hu e => hn ⟨u, hu, e⟩), Int.mul_zero]), hXon t ht]
        exact hcross t ht
      · rw [hzero t ht hts q, Int.mul_zero]
        exact sumN_zero fun j _ => by rw [hzero t ht hts j, Int.zero_mul]
    obtain ⟨d, b, hd, e⟩ := he.all i hi
    have haug := augL_row (vs := vs) hi
    have hwi := h.ok.wid i hi
    have eM : ∀ j, j < q → vec (row (augL ms vs) i) j = vec (row ms i) j := fun j hj => by rw [haug]; exact vec_snoc (by rw [hwi]; exact hj)
    have eV : vec (row (augL ms vs) i) q = vec vs i := by
      rw [haug]
      have := vec_last (z := row ms i) (a := vec vs i)
      rw [hwi] at this
      exact this
    have key : d * sumN q (fun j => vec (row ms i) j * X j) = d * (D * vec vs i) := by
      calc d * sumN q (fun j => vec (row ms i) j * X j) = sumN q (fun j => sumN ms.length (fun t => b t * vec (row rows t) j) * X j) := by
            rw [← sumN_mul]
            refine sumN_congr fun j hj => ?_
            have h1 := e j (by omega)
            have h2 : d * vec (row (augL ms vs) i) j = sumN ms.length (fun t => b t * vec (row rows t) j) := h1
            rw [← h2, eM j hj, Int.mul_assoc]
        _ = sumN q (fun j => sumN ms.length (fun t => b t * (vec (row rows t) j * X j))) := by
            refine sumN_congr fun j hj => ?_
            rw [← sumN_mulR]
            exact sumN_congr fun t _ => Int.mul_assoc _ _ _
        _ = sumN ms.length (fun t => sumN q (fun j => b t * (vec (row rows t) j * X j))) := sumN_swap q ms.length (fun j t => b t * (vec (row rows t) j * X j))
        _ = sumN ms.length (fun t => b t * (D * vec (row rows t) q)) := by
            refine sumN_congr fun t ht => ?_
            rw [sumN_mul, hrow t ht]
        _ = D * sumN ms.length (fun t => b t * vec (row rows t) q) := by
            rw [← sumN_mul]
            exact sumN_congr fun t _ => by rw [Int.mul_left_comm]
        _ = d * (D * vec vs i) := by
            have h2 : d * vec (row (augL ms vs) i) q = sumN ms.length (fun t => b t * vec (row rows t) q) := e q (by omega)
            rw [← h2, eV, Int.mul_left_comm]
    exact Int.eq_of_mul_eq_mul_left hd key
  · have h1 := hc.le
    have h2 := (fct_le5 hr).1
    omega
  · have h1 := hYb t ht
    have h2 := (fct_le5 hr).2
    omega
end Go.Proofs.Ytedkeobhcpbigaa
/- Two solutions: small null vectors, and a solution with one added. Plain mathematics. -/
namespace Go.Proofs.Ytedkeobhcpbigaa
open Go.RowKit
/-- If every column has a pivot, the pivots stand in order. -/
theorem Elim.all_cols {n q s : Nat} {M R : Nat → Nat → Int} {r k : Nat} {c o : Nat → Nat} (h : Elim n q s M R r k c o) (hr : r = q) : ∀ t, t < r → c t = t := by
  have lo : ∀ t, t < r → t ≤ c t := by
    intro t
    induction t with
    | zero => intro _; exact Nat.zero_le _
    | succ t ih =>
      intro ht
      have h1 := ih (by omega)
      have h2 := h.mono t (t + 1) (by omega) ht
      omega
  have hi : ∀ d t, t + d + 1 = r → c t + d < q := by
    intro d
    induction d with
    | zero => intro t ht; have h1 := h.ck t (by omega); have := h.kq; omega
    | succ d ih =>
      intro t ht
      have h1 := ih (t + 1) (by omega)
      have h2 := h.mono t (t + 1) (by omega) (by omega)
      omega
  intro t ht
  have h1 := lo t ht
  have h2 := hi (r - t - 1) t (by omega)
  omega
theorem Reduced.few {n : Nat} {ms rs : List (List Int)} {s : Nat} {M R : Nat → Nat → Int} {c o : Nat → Nat} (h : Reduced n ms rs s M R c o) {f : Nat} (hf : f < n) (hfree : leadIn rs f rs.length = false) : rs.length ≤ 5 := by
  have hrk := h.el.rk
  have hn := h.n6
  rcases Nat.lt_or_ge rs.length n with h1 | h1
  · omega
  · have hc := h.el.all_cols (show rs.length = n by omega) f (by omega)
    exact absurd (by rw [h.lead f (by omega)]; exact hc) (leadIn_false hfree (show f < rs.length by omega))
/-- A null vector's numbers are small. -/
theorem Reduced.null_small {n : Nat} {ms rs : List (List Int)} {s : Nat} {M R : Nat → Nat → Int} {c o : Nat → Nat} (h : Reduced n ms rs s M R c o) {f : Nat} (hf : f < n) (hfree : leadIn rs f rs.length = false) (k : Nat) : (vec (nullAt rs n f rs.length) k).natAbs ≤ 3840 := by
  have hr5 := h.few hf hfree
  have he := h.el
  have hrs := he.rs
  obtain ⟨D, Y, hc⟩ := he.cram (K := 2) (fun i hi j hj => by have := h.small i hi j hj; omega)
  have hl0 := lcmN_pos h.lpos rs.length (Nat.le_refl _)
  have hprim : ∀ t, t < rs.length → Prim n (R t) := fun t ht => ((he.tidy t (by omega)).first (he.ck t ht) (he.before t ht) (by have := he.pos t ht; omega)).2
  have hld : lcmN rs rs.length ∣ D := lcmN_dvd h.lpos (fun t ht => by rw [h.leadV ht]; exact hc.dvd ht (hprim t ht)) _ (Nat.le_refl _)
  have hDb : D.natAbs ≤ 3840 := Nat.le_trans hc.le (fct_le5 hr5).1
  have hD0 := hc.pos
  obtain ⟨e, hE⟩ := hld
  have hepos : 0 < e := by
    rcases Int.lt_or_le 0 e with h1 | h1
    · exact h1
    · have : lcmN rs rs.length * e ≤ lcmN rs rs.length * 0 := Int.mul_le_mul_of_nonneg_left h1 (by omega)
      omega
  have hlb : (lcmN rs rs.length).natAbs ≤ 3840 := by
    have h1 : D.natAbs = (lcmN rs rs.length).natAbs * e.natAbs := by rw [hE, Int.natAbs_mul]
    have h2 : (lcmN rs rs.length).natAbs * 1 ≤ (lcmN rs rs.length).natAbs * e.natAbs := Nat.mul_le_mul_left _ (by omega)
    omega
  rcases Nat.lt_or_ge k n with hk | hk
  · have hd := nullAt_dot h hf hfree (fun j => if j = k then 1 else 0) rs.length (Nat.le_refl _)
    rw [sumN_one hk (fun j hj hne => by rw [if_neg hne, Int.mul_zero]), if_pos rfl, Int.mul_one] at hd
    rw [hd]
    by_cases hkf : k = f
    · rw [if_pos hkf.symm, Int.mul_one, sumN_zero (fun u hu => by
        rw [if_neg (fun ec => leadIn_false hfree hu (by rw [h.lead u hu, ec, hkf])), Int.mul_zero]), Int.add_zero]
      exact hlb
    · rw [if_neg (fun ec => hkf ec.symm), Int.mul_zero, Int.zero_add]
      rcases Classical.em (∃ t, t < rs.length ∧ c t = k) with ⟨t, ht, hct⟩ | hn
      · rw [sumN_one ht (fun u hu hne => by
          rw [if_neg (fun ec => by
            rcases Nat.lt_or_gt_of_ne hne with h1 | h1
            · have := he.mono u t h1 ht; omega
            · have := he.mono t u h1 hu; omega), Int.mul_zero]), if_pos hct, Int.mul_one]
        have hY := hc.bd 2 f (fun i hi => by have := h.small i hi f hf; omega) t ht
        have hYb : (Y t f).natAbs ≤ 3840 := by have := (fct_le5 hr5).2; omega
        have hrow := hc.row t ht f hf
        have hp := h.lpos t ht
        have hlv := h.leadV ht
        rw [← hlv] at hrow
        have hq : Go.Proofs.Ytedkeobhcpbigaa.leadV rs t * (lcmN rs rs.length).tdiv (Go.Proofs.Ytedkeobhcpbigaa.leadV rs t) = lcmN rs rs.length := Int.mul_tdiv_cancel' (dvd_lcmN h.lpos _ (Nat.le_refl _) t ht)
        rw [← h.rowv t ht f]
        have key : e * (-((lcmN rs rs.length).tdiv (Go.Proofs.Ytedkeobhcpbigaa.leadV rs t)) * R t f) = -Y t f := by
          refine Int.eq_of_mul_eq_mul_left (show Go.Proofs.Ytedkeobhcpbigaa.leadV rs t ≠ 0 by omega) ?_
          have e1 : Go.Proofs.Ytedkeobhcpbigaa.leadV rs t * (e * (-((lcmN rs rs.length).tdiv (Go.Proofs.Ytedkeobhcpbigaa.leadV rs t)) * R t f)) = -(Go.Proofs.Ytedkeobhcpbigaa.leadV rs t * (lcmN rs rs.length).tdiv (Go.Proofs.Ytedkeobhcpbigaa.leadV rs t) * e * R t f) := by
            rw [Int.neg_mul, Int.mul_neg, Int.mul_neg]
            congr 1
            simp only [Int.mul_comm, Int.mul_left_comm]
          rw [e1, hq, ← hE, ← hrow, Int.mul_neg]
        have h1 : (e * (-((lcmN rs rs.length).tdiv (Go.Proofs.Ytedkeobhcpbigaa.leadV rs t)) * R t f)).natAbs = (Y t f).natAbs := by rw [key, Int.natAbs_neg]
        rw [Int.natAbs_mul] at h1
        have h2 : 1 * (-((lcmN rs rs.length).tdiv (Go.Proofs.Ytedkeobhcpbigaa.leadV rs t)) * R t f).natAbs ≤ e.natAbs * (-((lcmN rs rs.length).tdiv (Go.Proofs.Ytedkeobhcpbigaa.leadV rs t)) * R t f).natAbs := Nat.mul_le_mul_right _ (by omega)
        omega
      · rw [sumN_zero (fun u hu => by rw [if_neg (fun ec => hn ⟨u, hu, ec⟩), Int.mul_zero])]
        decide
  · rw [vec_beyond (by rw [nullAt_len]; exact hk)]
    decide
/-- What a null vector is. -/
structure NullOk (ms : List (List Int)) (z v : List Int) : Prop where
  len : v.length = z.length
  small : ∀ k, (vec v k).natAbs ≤ 3840
  rows : ∀ i, i < ms.length → sumN z.length (fun j => vec (row ms i) j * vec v j) = 0
  tells : sumN z.length (fun j => vec z j * vec v j) ≠ 0
theorem null_ok {ms : List (List Int)} {z : List Int} (h : nullV ms z ≠ []) : NullOk ms z (nullV ms z) := by
  rcases hb : bothV ms z with _ | _
  · exact absurd (null_none hb) h
  rcases hin : inSpanV ms z with _ | _
  · have hf := both_fine hb
    obtain ⟨c, o, hr⟩ := hf.reduced
    have hh := null_hit (rrL ms z.length) z z.length
    have hso := span_ok hb hin
    have hlt : nullIdx (rrL ms z.length) z z.length < z.length := by
      rcases Nat.lt_or_ge (nullIdx (rrL ms z.length) z z.length) z.length with h1 | h1
      · exact h1
      · exact absurd (by rw [null_yes hb, if_pos (by have := hh.le; omega)]) h
    have hs : ∀ k, (vec (nullV ms z) k).natAbs ≤ 3840 := fun k => by
      rw [null_yes hb, if_neg (by omega)]
      exact hr.null_small hlt (hh.hit hlt).1 k
    have hz6 := (both_len hb).2
    have nowrap : ∀ (x : List Int), (∀ j, -2 ≤ vec x j ∧ vec x j ≤ 2) → IntKind.i64.wrap (sumN z.length (fun j => vec x j * vec (nullV ms z) j)) = sumN z.length (fun j => vec x j * vec (nullV ms z) j) := fun x hx => by
      have hbd := sumN_bd (k := z.length) (f := fun j => vec x j * vec (nullV ms z) j) (B := 7680) (fun j _ => mul_fit (A := 2) (B := 3840) (hx j) (by have := hs j; omega) (by decide) (by decide) (by decide))
      have h6 : (z.length : Int) * 7680 ≤ 46080 := by omega
      exact IntWalk.i64_in _ (by omega)
    refine ⟨hso.len, hs, fun i hi => ?_, fun e => hso.tells ?_⟩
    · have h1 := hso.rows i hi
      rw [dotV_sum (hf.wid i hi) hso.len, nowrap _ (fun j => by
        rcases Nat.lt_or_ge j z.length with hj | hj
        · exact hf.small i hi j hj
        · rw [vec_beyond (by rw [hf.wid i hi]; exact hj)]; decide)] at h1
      exact h1
    · rw [dotV_sum rfl hso.len, nowrap _ (both_row hb)]
      exact e
  · exact absurd (null_in hb hin) h
/-- With a vector that all rows take to 0, not every column has a pivot. -/
theorem Aug.few {q : Nat} {ms : List (List Int)} {vs : List Int} {rows : List (List Int)} {r : Nat} {c o : Nat → Nat} (h : Aug q ms vs rows r c o) {v : Nat → Int} (h0 : ∀ i, i < ms.length → sumN q (fun j => vec (row ms i) j * v j) = 0) (hne : ∃ j, j < q ∧ v j ≠ 0) : r ≤ 5 := by
  have he := h.el
  have hq6 := h.ok.fine.q6
  have hrk := he.rk
  have hrs := he.rs
  rcases Nat.lt_or_ge r q with h1 | h1
  · omega
  exfalso
  have hrq : r = q := by omega
  have hc := he.all_cols hrq
  obtain ⟨j, hj, hvj⟩ := hne
  obtain ⟨d, b, hd, e⟩ := he.span1 j (by omega)
  have hR : sumN q (fun x => vec (row rows j) x * v x) = 0 := by
    have hx : d * sumN q (fun x => vec (row rows j) x * v x) = 0 := by
      rw [← sumN_mul]
      have e2 : sumN q (fun x => d * (vec (row rows j) x * v x)) = sumN q (fun x => sumN r (fun u => b u * (vec (row ms (o u)) x * v x))) := sumN_congr fun x hx => by
        have e3 : d * vec (row rows j) x = sumN r (fun u => b u * vec (row (augL ms vs) (o u)) x) := e x (by omega)
        rw [← Int.mul_assoc, e3, ← sumN_mulR]
        refine sumN_congr fun u hu => ?_
        have hou := he.olt u (by omega)
        rw [augL_row hou, vec_snoc (by rw [h.ok.wid _ hou]; exact hx), Int.mul_assoc]
      rw [e2, sumN_swap]
      exact sumN_zero fun u hu => by rw [sumN_mul, h0 _ (he.olt u (by omega)), Int.mul_zero]
    exact (Int.mul_eq_zero.1 hx).resolve_left hd
  rw [sumN_one hj (fun x hx hne => by
    have h2 : vec (row rows j) (c x) = 0 := he.off x (by omega) j (by omega) (fun e => hne e.symm)
    rw [hc x (by omega)] at h2
    rw [h2, Int.zero_mul])] at hR
  have h3 : 0 < vec (row rows j) (c j) := he.pos j (by omega)
  rw [hc j (by omega)] at h3
  exact hvj ((Int.mul_eq_zero.1 hR).resolve_left (by omega))
/-! ### Sums of a solution -/
theorem lim_of {N : Int} {B : Nat} (h : N.natAbs ≤ B) (hB : B ≤ 1000000000) : Lim N := by
  unfold Lim
  omega
theorem Solved.dot {q : Nat} {ms : List (List Int)} {vs : List Int} {xs : List (Int × Int)} {D : Int} {X : Nat → Int} (h : Solved q ms vs xs D X) (hq : q ≤ 6) (hD : D ≤ 1000000000) (hX : ∀ k, (X k).natAbs ≤ 80000000) {z : List Int} (hz : ∀ j, -2 ≤ vec z j ∧ vec z j ≤ 2) :
    ∃ p, dotR z xs q = some p ∧ Rep D (sumN q fun j => vec z j * X j) p := by
  have hm : ∀ k, -160000000 ≤ vec z k * X k ∧ vec z k * X k ≤ 160000000 := fun k => mul_fit (A := 2) (B := 80000000) (hz k) (by have := hX k; omega) (by decide) (by decide) (by decide)
  refine dot_rep h.pos hD h.rep (fun k _ => by have := hz k; unfold Lim; omega) (fun k _ => by have := hm k; unfold Lim; omega) (fun k hk => ?_) q (Nat.le_refl q)
  have hb := sumN_bd (k := k) (f := fun j => vec z j * X j) (B := 160000000) (fun j _ => hm j)
  have : (k : Int) * 160000000 ≤ 960000000 := by omega
  unfold Lim
  omega
theorem Solved.row_fits {q : Nat} {ms : List (List Int)} {vs : List Int} {xs : List (Int × Int)} {D : Int} {X : Nat → Int} (h : Solved q ms vs xs D X) (ha : AugOk q ms vs) (hD : D ≤ 1000000000) (hX : ∀ k, (X k).natAbs ≤ 80000000) {i : Nat} (hi : i < ms.length) : dotR (row ms i) xs q = some (vec vs i, 1) := by
  obtain ⟨p, hp, hr⟩ := h.dot ha.fine.q6 hD hX (ha.small i hi)
  rw [h.fits i hi, Int.mul_comm] at hr
  rw [hp, rep_uniq h.pos hr (rep_int (by have := ha.sums i; unfold Lim; omega))]
/-- Fractions with integers added. -/
def plusL (xs : List (Int × Int)) (v : List Int) : Nat → List (Int × Int)
  | 0 => []
  | k + 1 => plusL xs v k ++ [(addN (xs.getD k (0, 0)).1 (xs.getD k (0, 0)).2 (vec v k) 1, addD (xs.getD k (0, 0)).1 (xs.getD k (0, 0)).2 (vec v k) 1)]
theorem plusL_len (xs : List (Int × Int)) (v : List Int) : ∀ k, (plusL xs v k).length = k
  | 0 => rfl
  | k + 1 => by rw [plusL, List.length_append, plusL_len xs v k]; rfl
theorem plusL_at {xs : List (Int × Int)} {v : List Int} {k : Nat} {d : Int × Int} : ∀ {m}, k < m → (plusL xs v m).getD k d = (addN (xs.getD k (0, 0)).1 (xs.getD k (0, 0)).2 (vec v k) 1, addD (xs.getD k (0, 0)).1 (xs.getD k (0, 0)).2 (vec v k) 1)
  | 0, h => absurd h (Nat.not_lt_zero _)
  | m + 1, h => by
    have hl := plusL_len xs v m
    unfold List.getD
    rw [plusL]
    rcases Nat.lt_or_eq_of_le (Nat.lt_succ_iff.1 h) with h1 | h1
    · rw [List.getElem?_append_left (by omega)]
      exact plusL_at h1
    · subst h1
      rw [List.getElem?_append_right (by omega), hl, Nat.sub_self]
      rfl
theorem Solved.plus {q : Nat} {ms : List (List Int)} {vs : List Int} {xs : List (Int × Int)} {D : Int} {X : Nat → Int} (h : Solved q ms vs xs D X) (hD : D ≤ 3840) (hX : ∀ k, (X k).natAbs ≤ 1920000) {v : List Int} (hv : ∀ k, (vec v k).natAbs ≤ 3840) (h0 : ∀ i, i < ms.length → sumN q (fun j => vec (row ms i) j * vec v j) = 0) :
    (∀ k, k < q → AddOk (xs.getD k (0, 0)).1 (xs.getD k (0, 0)).2 (vec v k) 1) ∧ Solved q ms vs (plusL xs v q) D (fun k => X k + vec v k * D) ∧ ∀ k, (X k + vec v k * D).natAbs ≤ 80000000 := by
  have hDp := h.pos
  have hb : ∀ k, (X k + vec v k * D).natAbs ≤ 16665600 := fun k => by
    have h1 := mul_fit (x := vec v k) (y := D) (A := 3840) (B := 3840) (C := 14745600) (by have := hv k; omega) (by omega) (by decide) (by decide) (by decide)
    have h2 := hX k
    omega
  have hrep : ∀ k, k < q → AddOk (xs.getD k (0, 0)).1 (xs.getD k (0, 0)).2 (vec v k) 1 ∧ Rep D (X k + vec v k * D) (addN (xs.getD k (0, 0)).1 (xs.getD k (0, 0)).2 (vec v k) 1, addD (xs.getD k (0, 0)).1 (xs.getD k (0, 0)).2 (vec v k) 1) := fun k hk =>
    rep_add hDp (by omega) (h.rep k hk) (rep_int (lim_of (hv k) (by decide))) (lim_of (hb k) (by decide))
  refine ⟨fun k hk => (hrep k hk).1, ⟨hDp, plusL_len _ _ _, fun k hk => by rw [plusL_at hk]; exact (hrep k hk).2, fun i hi => ?_⟩, fun k => by have := hb k; omega⟩
  have e1 : sumN q (fun j => vec (row ms i) j * (X j + vec v j * D)) = sumN q (fun j => vec (row ms i) j * X j) + sumN q (fun j => vec (row ms i) j * vec v j) * D := by
    rw [← sumN_mulR, ← sumN_add]
    exact sumN_congr fun j _ => by rw [Int.mul_add, Int.mul_assoc]
  rw [e1, h0 i hi, h.fits i hi, Int.zero_mul, Int.add_zero]
end Go.Proofs.Ytedkeobhcpbigaa
