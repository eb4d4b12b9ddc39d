/- What one elimination of the rows with their values says of all delays. Plain mathematics for chapter 14. -/
import Derived.Test.YtedkeobhcpbigaaToV
namespace Go.Proofs.Ytedkeobhcpbigaa
open Go.RowKit
/-- Only the first of the columns that is not 0. -/
def aloneB (z : List Int) (q : Nat) : Bool := decide (leadL ((z.take q).drop (leadL z + 1)) = q - (leadL z + 1))
theorem vec_part {z : List Int} {q d j : Nat} (h : d + j < q) : vec ((z.take q).drop d) j = vec z (d + j) := by
  simp only [vec, List.getD, List.getElem?_drop, List.getElem?_take]
  rw [if_pos h]
theorem part_len {z : List Int} {q d : Nat} (h : q ≤ z.length) : ((z.take q).drop d).length = q - d := by
  rw [List.length_drop, List.length_take]
  omega
theorem alone_iff {z : List Int} {q : Nat} (hq : q ≤ z.length) : aloneB z q = true ↔ ∀ j, j < q → j ≠ leadL z → vec z j = 0 := by
  unfold aloneB
  rw [decide_eq_true_eq]
  have hl := part_len (z := z) (d := leadL z + 1) hq
  constructor
  · intro h j hj hne
    rcases Nat.lt_or_ge j (leadL z) with h1 | h1
    · exact leadL_before h1
    · have h2 := leadL_all (z := (z.take q).drop (leadL z + 1)) (by rw [hl]; exact h) (j - (leadL z + 1))
      rw [vec_part (by omega), show leadL z + 1 + (j - (leadL z + 1)) = j by omega] at h2
      exact h2
  · intro h
    rw [← hl]
    refine leadL_zero fun j hj => ?_
    rw [hl] at hj
    rw [vec_part (by omega)]
    exact h _ (by omega) (by omega)
/-- A column follows just where a reduced row has no other one. -/
theorem unit_alone_row {q : Nat} {ms : List (List Int)} {vs : List Int} {rows : List (List Int)} {r : Nat} {c o : Nat → Nat} (h : Aug q ms vs rows r c o) {k : Nat} (hk : k < q) :
    InSpan q ms.length (fun i => vec (row ms i)) (fun j => if j = k then 1 else 0) ↔ ∃ t, t < r ∧ c t = k ∧ ∀ j, j < q → j ≠ k → vec (row rows t) j = 0 := by
  have he := h.el
  have hrs := he.rs
  have hM : ∀ i, i < ms.length → ∀ j, j < q → vec (row (augL ms vs) i) j = vec (row ms i) j := fun i hi j hj => by
    rw [augL_row hi, vec_snoc]
    have := h.ok.wid i hi
    omega
  constructor
  · intro hs
    obtain ⟨d, z, hd, hz⟩ := span_trans (M := fun i => vec (row rows i)) hs (fun i hi => by
      obtain ⟨d, z, hd, hz⟩ := he.all i hi
      exact ⟨d, z, hd, fun j hj => by rw [← hM i hi j hj]; exact hz j (by omega)⟩)
    have hsum : ∀ j, j < q → sumN ms.length (fun i => z i * vec (row rows i) j) = sumN r (fun i => z i * vec (row rows i) j) := fun j hj => by
      have key : ∀ d, r + d ≤ ms.length → sumN (r + d) (fun i => z i * vec (row rows i) j) = sumN r (fun i => z i * vec (row rows i) j) := fun d => by
        induction d with
        | zero => exact fun _ => rfl
        | succ d ih =>
          intro hd
          rw [← Nat.add_assoc, sumN, ih (by omega), he.below (r + d) (by omega) (by omega) j hj, Int.mul_zero, Int.add_zero]
      have := key (ms.length - r) (by omega)
      rwa [show r + (ms.length - r) = ms.length by omega] at this
    have hat : ∀ t, t < r → c t ≠ k → z t = 0 := fun t ht hne => by
      have h1 := hz (c t) (he.ck t ht)
      rw [hsum _ (he.ck t ht)] at h1
      simp only [if_neg hne, Int.mul_zero] at h1
      rw [sumN_one ht (fun i hi hit => by rw [he.off t ht i (by omega) hit, Int.mul_zero])] at h1
      rcases Int.mul_eq_zero.1 h1.symm with h2 | h2
      · exact h2
      · have := he.pos t ht
        omega
    rcases Classical.em (∃ t, t < r ∧ c t = k) with ⟨t, ht, hct⟩ | hn
    · refine ⟨t, ht, hct, fun j hj hjk => ?_⟩
      have hoth : ∀ i, i < r → i ≠ t → z i = 0 := fun i hi hit => hat i hi (fun e => by
        rcases Nat.lt_or_gt_of_ne hit with h1 | h1
        · have := he.mono i t h1 ht; omega
        · have := he.mono t i h1 hi; omega)
      have hk1 := hz k hk
      rw [hsum k hk, sumN_one ht (fun i hi hit => by rw [hoth i hi hit, Int.zero_mul])] at hk1
      simp only [if_true, Int.mul_one] at hk1
      have hj1 := hz j hj
      rw [hsum j hj, sumN_one ht (fun i hi hit => by rw [hoth i hi hit, Int.zero_mul])] at hj1
      simp only [if_neg hjk, Int.mul_zero] at hj1
      rcases Int.mul_eq_zero.1 hj1.symm with h2 | h2
      · rw [h2, Int.zero_mul] at hk1
        exact absurd hk1 hd
      · exact h2
    · have h1 := hz k hk
      rw [hsum k hk, sumN_zero (fun i hi => by rw [hat i hi (fun e => hn ⟨i, hi, e⟩), Int.zero_mul])] at h1
      simp only [if_true, Int.mul_one] at h1
      exact absurd h1 hd
  · rintro ⟨t, ht, rfl, hz⟩
    have h1 : InSpan (q + 1) ms.length (fun i => vec (row (augL ms vs) i)) (vec (row rows t)) :=
      span_trans (he.span1 t ht) (fun u hu => span_row (M := fun i => vec (row (augL ms vs) i)) (he.olt u (by omega)))
    obtain ⟨d, z, hd, e⟩ := h1
    have hp := he.pos t ht
    refine ⟨d * vec (row rows t) (c t), z, mul_ne hd (by omega), fun j hj => ?_⟩
    have e2 := e j (by omega)
    rw [sumN_congr (g := fun i => z i * vec (row ms i) j) (fun i hi => by show z i * vec (row (augL ms vs) i) j = _; rw [hM i hi j hj])] at e2
    show d * vec (row rows t) (c t) * (if j = c t then 1 else 0) = sumN ms.length (fun i => z i * vec (row ms i) j)
    rw [← e2]
    by_cases hjk : j = c t
    · rw [if_pos hjk, hjk, Int.mul_one]
    · rw [if_neg hjk, hz j hj hjk, Int.mul_zero, Int.mul_zero]
/-! ### The delays, row after row -/
def dlyAt (rows : List (List Int)) (q : Nat) : Nat → List (Int × Int)
  | 0 => List.replicate q (0, 0)
  | i + 1 => if aloneB (row rows i) q = true then (dlyAt rows q i).set (leadL (row rows i)) (mkN (vec (row rows i) q) (vec (row rows i) (leadL (row rows i))), mkD (vec (row rows i) q) (vec (row rows i) (leadL (row rows i)))) else dlyAt rows q i
theorem dlyAt_len (rows : List (List Int)) (q : Nat) : ∀ i, (dlyAt rows q i).length = q
  | 0 => by simp [dlyAt]
  | i + 1 => by
    rw [dlyAt]
    split
    · rw [List.length_set, dlyAt_len rows q i]
    · exact dlyAt_len rows q i
theorem dlyAt_off {rows : List (List Int)} {q k : Nat} (hk : k < q) : ∀ i, (∀ u, u < i → ¬ (leadL (row rows u) = k ∧ aloneB (row rows u) q = true)) → (dlyAt rows q i).getD k (0, 0) = (0, 0)
  | 0, _ => by simp [dlyAt, List.getD, hk]
  | i + 1, h => by
    rw [dlyAt]
    split
    · rename_i ha
      rw [getD_set_other (fun e => h i (Nat.lt_succ_self _) ⟨e.symm, ha⟩)]
      exact dlyAt_off hk i fun u hu => h u (by omega)
    · exact dlyAt_off hk i fun u hu => h u (by omega)
theorem dlyAt_on {rows : List (List Int)} {q k t : Nat} (hk : k < q) (ht : leadL (row rows t) = k) (ha : aloneB (row rows t) q = true) : ∀ i, t < i → (∀ u, u < i → u ≠ t → leadL (row rows u) ≠ k) → (dlyAt rows q i).getD k (0, 0) = (mkN (vec (row rows t) q) (vec (row rows t) k), mkD (vec (row rows t) q) (vec (row rows t) k))
  | 0, h, _ => by omega
  | i + 1, h, hu => by
    rw [dlyAt]
    rcases Nat.lt_or_eq_of_le (Nat.lt_succ_iff.1 h) with h1 | h1
    · have ih := dlyAt_on hk ht ha i h1 fun u hui => hu u (by omega)
      split
      · rw [getD_set_other (fun e => hu i (Nat.lt_succ_self _) (by omega) e.symm)]
        exact ih
      · exact ih
    · subst h1
      rw [if_pos ha, ht, getD_set_same (by rw [dlyAt_len]; exact hk)]
/-- What the program's list says of each link. -/
def dlyL (ms : List (List Int)) (vs : List Int) (cols : Int) : List (Int × Int) := if solvB ms vs cols = true then dlyAt (rowsP ms vs cols.toNat) cols.toNat (rowsP ms vs cols.toNat).length else []
theorem dlyL_no {ms : List (List Int)} {vs : List Int} {cols : Int} (h : solvB ms vs cols = false) : dlyL ms vs cols = [] := by unfold dlyL; rw [h]; rfl
theorem dlyL_yes {ms : List (List Int)} {vs : List Int} {q : Nat} (h : solvB ms vs (q : Int) = true) : dlyL ms vs (q : Int) = dlyAt (rowsP ms vs q) q (rowsP ms vs q).length := by unfold dlyL; rw [if_pos h, Int.toNat_natCast]
theorem dlyL_len {ms : List (List Int)} {vs : List Int} {q : Nat} (h : solvB ms vs (q : Int) = true) : (dlyL ms vs (q : Int)).length = q := by rw [dlyL_yes h, dlyAt_len]
theorem dly_is {ms : List (List Int)} {vs : List Int} {q k : Nat} (h : solvB ms vs (q : Int) = true) (hk : k < q) :
    (dlyL ms vs (q : Int)).getD k (0, 0) = if inSpanV ms (unitV (k : Int) (q : Int)) = true then (solL ms vs (q : Int)).getD k (0, 0) else (0, 0) := by
  have hsys := solv_sys h
  have hmat := (isSys_true hsys).2.1
  have hok := aug_ok hsys
  have hg := solv_good h
  obtain ⟨c, o, hA⟩ := aug_red2 hok
  have he := hA.el
  have hrs := he.rs
  have hlen := hA.len
  obtain ⟨hro, hre⟩ := rowsP_ok hok hg
  rw [dlyL_yes h, solL_yes h, ← hre]
  have hR := rowsP_good hok hg
  obtain ⟨r, hr⟩ : ∃ r, r = (redL ((augL ms vs).map tidyL) q).2 := ⟨_, rfl⟩
  rw [← hr] at hA he hrs hR
  have hl : (rowsP ms vs q).length = r := by rw [hR, List.length_take]; omega
  have hrow : ∀ t, t < r → row (rowsP ms vs q) t = row (redA ms vs q) t := fun t ht => by rw [hR, row_take ht]
  have hlead : ∀ t, t < r → leadL (row (rowsP ms vs q) t) = c t := fun t ht => by rw [hrow t ht, hA.lead t ht]
  have hal : ∀ t, t < r → (aloneB (row (rowsP ms vs q) t) q = true ↔ ∀ j, j < q → j ≠ c t → vec (row (redA ms vs q) t) j = 0) := fun t ht => by
    rw [hrow t ht, alone_iff (by rw [hA.wid t (by omega)]; omega), hA.lead t ht]
  have huniq : ∀ t, t < r → ∀ u, u < r → u ≠ t → leadL (row (rowsP ms vs q) u) ≠ c t := fun t ht u hu hne => by
    rw [hlead u hu]
    rcases Nat.lt_or_gt_of_ne hne with h1 | h1
    · have := he.mono u t h1 ht; omega
    · have := he.mono t u h1 hu; omega
  rw [hl]
  by_cases hin : inSpanV ms (unitV (k : Int) (q : Int)) = true
  · rw [if_pos hin]
    obtain ⟨t, ht, hct, hz⟩ := (unit_alone_row hA hk).1 ((unit_iff hmat hk).1 hin)
    have h1 := hlead t ht
    rw [hct] at h1
    rw [dlyAt_on hk h1 ((hal t ht).2 (by rw [hct]; exact hz)) r ht (fun u hu hne => by have := huniq t ht u hu hne; rwa [hct] at this),
      solAt_on hk h1 r ht (fun u hu hne => by have := huniq t ht u hu hne; rwa [hct] at this)]
  · rw [if_neg hin]
    refine dlyAt_off hk r fun u hu => ?_
    rintro ⟨h1, h2⟩
    rw [hlead u hu] at h1
    refine hin ((unit_iff hmat hk).2 ((unit_alone_row hA hk).2 ⟨u, hu, h1, ?_⟩))
    have := (hal u hu).1 h2
    rwa [h1] at this
/-- A solution's fractions are valid. -/
theorem sol_den {ms : List (List Int)} {vs : List Int} {q k : Nat} (h : solvB ms vs (q : Int) = true) (hk : k < q) : IsR ((solL ms vs (q : Int)).getD k (0, 0)).1 ((solL ms vs (q : Int)).getD k (0, 0)).2 := by
  obtain ⟨c, o, hA⟩ := aug_red2 (aug_ok (solv_sys h))
  obtain ⟨_, D, X, hs, _⟩ := hA.solved (solv_good h)
  rw [← solL_yes h] at hs
  exact (hs.rep k hk).ok
/-- The value of a unit row is the delay of its link. -/
theorem val_unit {ms : List (List Int)} {vs : List Int} {q k : Nat} (h : solvB ms vs (q : Int) = true) (hk : k < q) (hin : inSpanV ms (unitV (k : Int) (q : Int)) = true) : valR ms vs (unitV (k : Int) (q : Int)) = some ((solL ms vs (q : Int)).getD k (0, 0)) := by
  have hmat := (isSys_true (solv_sys h)).2.1
  have hu : unitV (k : Int) (q : Int) = unitK (k : Int) q := unitV_yes hmat hk
  rw [hu] at hin ⊢
  have hl : (unitK (k : Int) q).length = q := unitK_len _ _
  rw [valR_yes (by rw [hl]; exact h) hin, hl]
  obtain ⟨c, o, hA⟩ := aug_red2 (aug_ok (solv_sys h))
  obtain ⟨_, D, X, hs, hD, hX, _⟩ := hA.solved (solv_good h)
  rw [← solL_yes h] at hs
  obtain ⟨p, hp, hr⟩ := hs.dot hA.ok.fine.q6 (by omega) (fun k => by have := hX k; omega) (z := unitK (k : Int) q) (fun j => by
    rcases Nat.lt_or_ge j q with hj | hj
    · rw [unitK_at _ _ _ hj]
      split <;> omega
    · rw [vec_beyond (by rw [hl]; exact hj)]
      omega)
  rw [hp]
  rw [sumN_one hk (fun j hj hne => by rw [unitK_at _ _ _ hj, if_neg (by omega), Int.zero_mul]), unitK_at _ _ _ hk, if_pos rfl, Int.one_mul] at hr
  rw [rep_uniq hs.pos hr (hs.rep k hk)]
/-- Zeros agree with every row. -/
theorem solv_zeros {ms : List (List Int)} {cols : Int} : solvB ms (List.replicate ms.length 0) cols = isMat ms cols := by
  cases h : isMat ms cols with
  | false => exact solv_no (isSys_mat h)
  | true =>
    have hs : isSys ms (List.replicate ms.length 0) cols = true := by
      have h1 : sumsOk (List.replicate ms.length 0) = true := sumsOk_of fun i hi => by
        rw [List.length_replicate] at hi
        simp [List.getD, hi]
        decide
      rw [isSys_len h1 h]
      simp
    obtain ⟨q, rfl⟩ := sys_nat hs
    rw [solv_yes hs]
    obtain ⟨c, o, hA⟩ := aug_red2 (aug_ok hs)
    have he := hA.el
    have hrs := he.rs
    refine goodB_yes fun i hi e => ?_
    rw [hA.len] at hi
    have hM : ∀ u, u < ms.length → vec (row (augL ms (List.replicate ms.length 0)) u) q = 0 := fun u hu => by
      have hw := hA.ok.wid u hu
      rw [augL_row hu]
      have := vec_last (z := row ms u) (a := vec (List.replicate ms.length 0) u)
      rw [hw] at this
      rw [this]
      simp [vec, List.getD, hu]
    have hne := leadL_at (z := row (redA ms (List.replicate ms.length 0) q) i) (by rw [e, hA.wid i hi]; omega)
    rw [e] at hne
    have hri : (redL ((augL ms (List.replicate ms.length 0)).map tidyL) q).2 ≤ i := by
      rcases Nat.lt_or_ge i (redL ((augL ms (List.replicate ms.length 0)).map tidyL) q).2 with h1 | h1
      · have := hA.lead i h1
        have := he.ck i h1
        omega
      · exact h1
    obtain ⟨d, z, hd, hz⟩ := he.span2 i hri hi
    have h1 := hz q (by omega)
    rw [sumN_zero (fun u hu => by
      show z u * (if u < _ then vec (row (augL ms (List.replicate ms.length 0)) (o u)) else vec (row (augL ms (List.replicate ms.length 0)) (o i))) q = 0
      split
      · rw [hM _ (he.olt u (by omega)), Int.mul_zero]
      · rw [hM _ (he.olt i hi), Int.mul_zero])] at h1
    rcases Int.mul_eq_zero.1 h1 with h2 | h2
    · exact hd h2
    · exact hne h2
/-- Whether a delay is told. -/
def toldP (p : Int × Int) : Bool := !(decide (p.1 = 0) && decide (p.2 = 0))
theorem dly_told {ms : List (List Int)} {vs : List Int} {q k : Nat} (h : solvB ms vs (q : Int) = true) (hk : k < q) : toldP ((dlyL ms vs (q : Int)).getD k (0, 0)) = inSpanV ms (unitV (k : Int) (q : Int)) := by
  rw [dly_is h hk]
  have hr := (sol_den h hk).2.2.1
  cases hin : inSpanV ms (unitV (k : Int) (q : Int)) with
  | true =>
    rw [if_pos rfl]
    unfold toldP
    rw [decide_eq_false (by omega : ¬ ((solL ms vs (q : Int)).getD k (0, 0)).2 = 0), Bool.and_false]
    rfl
  | false => rfl
/-- What DelayOf of the document says, out of the program's list. -/
theorem del_dly {ms : List (List Int)} {vs : List Int} {k n : Int} {r : Option (Int × Int)} (hr : r = delV ms vs k n) :
    (inR k 0 (((dlyL ms vs n).length : Int) - 1) = false → r = none) ∧
    (∀ j : Nat, k = (j : Int) → inR k 0 (((dlyL ms vs n).length : Int) - 1) = true → j < (dlyL ms vs n).length ∧ (dlyL ms vs n).getD j (0, 0) = (dN r, dD r) ∧ toldP ((dlyL ms vs n).getD j (0, 0)) = r.isSome) := by
  cases h : solvB ms vs n with
  | false =>
    rw [dlyL_no h]
    refine ⟨fun _ => ?_, fun j _ h2 => ?_⟩
    · rw [hr]
      unfold delV
      split
      · rfl
      · rename_i hne
        have hl : ((unitV k n).length : Int) = n := by
          unfold unitV at hne ⊢
          split
          · rename_i h1
            have := inR_true.1 h1.1
            rw [unitK_len]
            omega
          · rename_i h1
            rw [if_neg h1] at hne
            exact absurd rfl hne
        exact valR_no1 (by rw [hl]; exact h)
    · have := inR_true.1 h2
      simp at this
      omega
  | true =>
    obtain ⟨q, rfl⟩ := sys_nat (solv_sys h)
    have hmat := (isSys_true (solv_sys h)).2.1
    have hq := (isMat_true hmat).1
    have hin : inR (q : Int) 1 6 = true := inR_true.2 ⟨by omega, by omega⟩
    rw [dlyL_len h]
    refine ⟨fun h2 => ?_, fun j hj h2 => ?_⟩
    · rw [hr]
      unfold delV
      rw [unitV_out h2]
      rfl
    · subst hj
      have h3 := inR_true.1 h2
      have hjq : j < q := by omega
      refine ⟨hjq, ?_⟩
      rw [dly_told h hjq, dly_is h hjq]
      have hul : (unitV (j : Int) (q : Int)).length = q := by rw [unitV_is hin h2, Int.toNat_natCast, unitK_len]
      unfold delV at hr
      rw [if_neg (by omega)] at hr
      cases hs : inSpanV ms (unitV (j : Int) (q : Int)) with
      | false =>
        rw [valR_no2 hs] at hr
        rw [hr]
        exact ⟨rfl, rfl⟩
      | true =>
        rw [val_unit h hjq hs] at hr
        rw [hr, if_pos rfl]
        exact ⟨rfl, rfl⟩
end Go.Proofs.Ytedkeobhcpbigaa
