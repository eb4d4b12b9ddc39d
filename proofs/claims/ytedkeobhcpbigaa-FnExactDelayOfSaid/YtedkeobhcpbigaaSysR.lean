/- Systems: elimination over the values' column too, and the solution read off it. Plain mathematics. -/
import Derived.Test.YtedkeobhcpbigaaSysV
import Derived.Test.YtedkeobhcpbigaaNullB
import Derived.Test.YtedkeobhcpbigaaMat
import Derived.Test.YtedkeobhcpbigaaConcat
namespace Go.Proofs.Ytedkeobhcpbigaa
open Go.RowKit
theorem tidy_last {q : Nat} {v : Nat → Int} (h : Tidy (q + 1) v) (h0 : ∀ j, j < q → v j = 0) : v q = 0 ∨ v q = 1 := by
  rcases h with h | ⟨hp, l, h1, h2, h3⟩
  · exact .inl (h q (by omega))
  · obtain rfl : l = q := by
      rcases Nat.lt_or_ge l q with h4 | h4
      · have := h0 l h4; omega
      · omega
    have hd : v l ∣ 1 := hp.dvd fun j hj => by
      rw [Int.one_mul]
      rcases Nat.lt_or_ge j l with h4 | h4
      · rw [h0 j h4]; exact ⟨0, by simp⟩
      · obtain rfl : j = l := by omega
        exact ⟨1, by simp⟩
    have := Int.le_of_dvd (by decide) hd
    exact .inr (by omega)
theorem Cram.small_row {n q s : Nat} {M R : Nat → Nat → Int} {r K : Nat} {c : Nat → Nat} {D : Int} {Y : Nat → Nat → Int} (h : Cram n q s M R r K c D Y) {t : Nat} (ht : t < r) (hp : 0 < R t (c t)) (hprim : Prim n (R t)) {j : Nat} (hj : j < n) : (R t j).natAbs ≤ (Y t j).natAbs := by
  obtain ⟨e, he⟩ := h.dvd ht hprim
  have hD := h.pos
  have hepos : 0 < e := by
    rcases Int.lt_or_le 0 e with h1 | h1
    · exact h1
    · have : R t (c t) * e ≤ R t (c t) * 0 := Int.mul_le_mul_of_nonneg_left h1 (by omega)
      omega
  have hrow := h.row t ht j hj
  rw [he, Int.mul_assoc] at hrow
  have hY : Y t j = e * R t j := Int.eq_of_mul_eq_mul_left (by omega) hrow
  rw [hY, Int.natAbs_mul]
  have h2 : 1 * (R t j).natAbs ≤ e.natAbs * (R t j).natAbs := Nat.mul_le_mul_right _ (by omega)
  omega
theorem aug_red2 {ms : List (List Int)} {vs : List Int} {q : Nat} (h : AugOk q ms vs) : ∃ c o, Aug q ms vs (redA ms vs q) (redL ((augL ms vs).map tidyL) q).2 c o := by
  have I := h.fine.inv (Nat.le_refl q)
  obtain ⟨c, o, he⟩ := I.el
  rw [augL_len] at he
  have hl := I.len
  have hw := I.wid
  rw [augL_len] at hl hw
  refine ⟨c, o, h, he, hl, hw, fun t ht => ?_, fun t ht hts => ?_⟩
  · have hck := he.ck t ht
    have hrs := he.rs
    exact leadL_eq (by have := hw t (by omega); unfold redA; omega) (fun j hj => he.before t ht j hj) (.inr (by have := he.pos t ht; unfold redA; omega))
  · rcases Nat.lt_or_ge (leadL (row (redA ms vs q) t)) q with h1 | h1
    · exact absurd (he.below t ht hts _ h1) (leadL_at (by have := hw t hts; unfold redA at *; omega))
    · exact h1
/-- The reduced rows of a system have small cells. -/
theorem Aug.cell_small {q : Nat} {ms : List (List Int)} {vs : List Int} {rows : List (List Int)} {r : Nat} {c o : Nat → Nat} (h : Aug q ms vs rows r c o) {i : Nat} (hi : i < ms.length) (j : Nat) : -23040000 ≤ vec (row rows i) j ∧ vec (row rows i) j ≤ 23040000 := by
  have he := h.el
  have hw := h.wid i hi
  rcases Nat.lt_or_ge j (q + 1) with hj | hj
  · rcases Nat.lt_or_ge i r with hr | hr
    · have hsm := h.ok.fine.small
      have hft := h.ok.fine.fit
      rw [augL_len] at hsm hft
      obtain ⟨D, Y, hc⟩ := he.cram (K := 2) (fun i hi j hj => by have := hsm i hi j hj; omega)
      have hprim := ((he.tidy i hi).first (l := c i) (by have := he.ck i hr; omega) (he.before i hr) (by have := he.pos i hr; omega)).2
      have h1 := hc.small_row hr (he.pos i hr) hprim hj
      have h2 := hc.bd 1000 j (fun i hi => by have := hft i hi j; omega) i hr
      have hrk := he.rk
      have hq6 := h.ok.fine.q6
      have h3 := (fct_le6 (r := r) (by omega)).2
      omega
    · have hz := he.below i hr hi
      rcases Nat.lt_or_ge j q with h1 | h1
      · have : vec (row rows i) j = 0 := hz j h1
        omega
      · obtain rfl : j = q := by omega
        have := tidy_last (he.tidy i hi) hz
        omega
  · rw [vec_beyond (by rw [hw]; exact hj)]
    decide
theorem AugOk.elimOk {q : Nat} {ms : List (List Int)} {vs : List Int} (h : AugOk q ms vs) : ElimOk (q + 1) (augL ms vs) := by
  have hF := h.fine
  obtain ⟨c, o, hA⟩ := aug_red2 h
  have hlast : ∀ i, i < (augL ms vs).length → ∀ j, -23040000 ≤ vec (row (redL ((augL ms vs).map tidyL) q).1 i) j ∧ vec (row (redL ((augL ms vs).map tidyL) q).1 i) j ≤ 23040000 := fun i hi j =>
    hA.cell_small (by rwa [augL_len] at hi) j
  refine ⟨by have := hF.q6; omega, hF.len, hF.wid, fun i hi j => hF.fit i hi j, fun k hk i hi => ?_, fun k hk i hi => ?_⟩
  · rcases Nat.lt_or_ge k q with h1 | h1
    · exact hF.row_fit (hF.inv (Nat.le_of_lt h1)) h1 hi
    · obtain rfl : k = q := by omega
      intro j
      have := hlast i hi j
      omega
  · rcases Nat.lt_or_ge k q with h1 | h1
    · exact hF.row_small (hF.inv (Nat.le_of_lt h1)) h1 hi h1
    · obtain rfl : k = q := by omega
      have := hlast i hi k
      omega
/-- The program's reduced rows. -/
def rowsP (ms : List (List Int)) (vs : List Int) (q : Nat) : List (List Int) := rrL (augL ms vs) (q + 1)
theorem rowsP_good {ms : List (List Int)} {vs : List Int} {q : Nat} (h : AugOk q ms vs) (hg : ∀ i, i < ms.length → leadL (row (redA ms vs q) i) ≠ q) :
    rowsP ms vs q = (redA ms vs q).take (redL ((augL ms vs).map tidyL) q).2 := by
  obtain ⟨c, o, hA⟩ := aug_red2 h
  have hrs := hA.el.rs
  have hl : (redL ((augL ms vs).map tidyL) q).1.length = ms.length := hA.len
  have hp : findP (redL ((augL ms vs).map tidyL) q).1 (redL ((augL ms vs).map tidyL) q).2 q = (redL ((augL ms vs).map tidyL) q).1.length := by
    refine findP_eq (by omega) (Nat.le_refl _) (fun i h1 h2 => ?_) (.inl rfl)
    rw [hl] at h2
    have h3 := hA.rest i h1 h2
    have h4 := hg i h2
    have h5 := leadL_le (row (redA ms vs q) i)
    have h6 := hA.wid i h2
    exact leadL_all (show leadL (row (redA ms vs q) i) = _ by omega) q
  have e : redL ((augL ms vs).map tidyL) (q + 1) = redL ((augL ms vs).map tidyL) q := stepL_pass hp
  unfold rowsP rrL
  rw [e]
  rfl
theorem rowsP_bad {ms : List (List Int)} {vs : List Int} {q : Nat} (h : AugOk q ms vs) {i : Nat} (hi : i < ms.length) (hb : leadL (row (redA ms vs q) i) = q) :
    ∃ t, t < (rowsP ms vs q).length ∧ leadL (row (rowsP ms vs q) t) = q := by
  obtain ⟨c, o, hA⟩ := aug_red2 h
  have he := hA.el
  have hrs := he.rs
  have hl : (redL ((augL ms vs).map tidyL) q).1.length = ms.length := hA.len
  obtain ⟨s, hs⟩ : ∃ s, s = redL ((augL ms vs).map tidyL) q := ⟨_, rfl⟩
  have hra : redA ms vs q = s.1 := by rw [hs]; rfl
  rw [hra] at hA hb he
  rw [← hs] at hl hA he hrs
  have hri : s.2 ≤ i := by
    rcases Nat.lt_or_ge i s.2 with h1 | h1
    · have h2 := hA.lead i h1
      have h3 := he.ck i h1
      omega
    · exact h1
  have hne : vec (row s.1 i) q ≠ 0 := by
    have h1 := leadL_at (z := row s.1 i) (by rw [hb, hA.wid i hi]; omega)
    rwa [hb] at h1
  obtain ⟨p1, p2, p3, p4⟩ := findP_spec (rows := s.1) (r := s.2) (k := q) (by omega)
  have hpn : findP s.1 s.2 q ≠ s.1.length := fun e => hne (p3 i hri (by omega))
  have e : redL ((augL ms vs).map tidyL) (q + 1) = (clrBy (fun x => clrRow x (row (swapL s.1 s.2 (findP s.1 s.2 q)) s.2) q) (swapL s.1 s.2 (findP s.1 s.2 q)) s.2 s.1.length, s.2 + 1) := by
    show stepL q (redL _ q) = _
    rw [← hs]
    unfold stepL
    rw [if_neg hpn]
  refine ⟨s.2, ?_, ?_⟩
  · unfold rowsP rrL
    rw [e, List.length_take, clrBy_len, swapL_len]
    omega
  · unfold rowsP rrL
    rw [e, row_take (Nat.lt_succ_self _)]
    simp only
    rw [clrBy_pivot (by rw [swapL_len]; omega), swapL_at (by omega), lead_tidy]
    have hps : findP s.1 s.2 q < ms.length := by omega
    refine leadL_eq (by rw [hA.wid _ hps]; omega) (fun j hj => he.below _ p1 hps j hj) (.inr (p4.resolve_left hpn))
theorem rowsP_lead {ms : List (List Int)} {vs : List Int} {q : Nat} (h : AugOk q ms vs) : leadIn (rowsP ms vs q) q (rowsP ms vs q).length = !goodB (redA ms vs q) q := by
  obtain ⟨c, o, hA⟩ := aug_red2 h
  rcases Classical.em (∃ i, i < ms.length ∧ leadL (row (redA ms vs q) i) = q) with ⟨i, hi, hb⟩ | hn
  · rw [goodB_false (i := i) (by rw [hA.len]; exact hi) hb]
    obtain ⟨t, ht, hl⟩ := rowsP_bad h hi hb
    exact leadIn_true.2 ⟨t, ht, hl⟩
  · have hg : ∀ i, i < ms.length → leadL (row (redA ms vs q) i) ≠ q := fun i hi e => hn ⟨i, hi, e⟩
    rw [goodB_yes (fun i hi => hg i (by rw [← hA.len]; exact hi))]
    cases hx : leadIn (rowsP ms vs q) q (rowsP ms vs q).length
    · rfl
    · obtain ⟨t, ht, hl⟩ := leadIn_true.1 hx
      rw [rowsP_good h hg] at ht hl
      rw [List.length_take] at ht
      rw [row_take (by omega)] at hl
      exact absurd hl (hg t (by have := hA.len; omega))
theorem rowsP_at {ms : List (List Int)} {vs : List Int} {q : Nat} (h : AugOk q ms vs) : LeadAt (q + 1) (rowsP ms vs q) := by
  have hE := h.elimOk
  have I := hE.inv (k := q + 1) (Nat.le_refl _)
  obtain ⟨c, o, he⟩ := I.el
  have hrs := he.rs
  have hl12 := hE.len
  have hw := I.wid
  refine ⟨hE.n7, ?_, fun u hu => ?_, fun u hu => ?_⟩
  · unfold rowsP rrL
    rw [List.length_take]
    omega
  · unfold rowsP rrL at hu ⊢
    rw [List.length_take] at hu
    rw [row_take (by omega)]
    exact hw u (by omega)
  · unfold rowsP rrL at hu ⊢
    rw [List.length_take] at hu
    rw [row_take (by omega)]
    have h1 := he.ck u (by omega)
    rw [leadL_eq (p := c u) (by rw [hw u (by omega)]; omega) (fun j hj => he.before u (by omega) j hj) (.inr (by have := he.pos u (by omega); omega))]
    exact h1
theorem solAt_take {rs : List (List Int)} {q r : Nat} : ∀ {k}, k ≤ r → solAt (rs.take r) q k = solAt rs q k
  | 0, _ => rfl
  | k + 1, h => by
    rw [solAt, solAt, solAt_take (by omega), row_take (by omega)]
theorem solAt_idle {rs : List (List Int)} {q r : Nat} : ∀ d, (∀ i, r ≤ i → i < r + d → q ≤ leadL (row rs i)) → solAt rs q (r + d) = solAt rs q r
  | 0, _ => rfl
  | d + 1, h => by
    have := h (r + d) (by omega) (by omega)
    rw [← Nat.add_assoc, solAt, if_neg (by omega), solAt_idle d (fun i h1 h2 => h i h1 (by omega))]
/-- What the program's walk needs of a row. -/
structure RowOk (q : Nat) (z : List Int) : Prop where
  len : z.length = q + 1
  lt : leadL z < q
  n : -1000000000 ≤ vec z q ∧ vec z q ≤ 1000000000
  d : -1000000000 ≤ vec z (leadL z) ∧ vec z (leadL z) ≤ 1000000000
  eqN : mrN (vec z q) (vec z (leadL z)) = mkN (vec z q) (vec z (leadL z))
  eqD : mrD (vec z q) (vec z (leadL z)) = mkD (vec z q) (vec z (leadL z))
  ok : mrOk (vec z q) (vec z (leadL z)) = true
  wf : (Lit.int .i64 (mkN (vec z q) (vec z (leadL z)))).wf = true ∧ (Lit.int .i64 (mkD (vec z q) (vec z (leadL z)))).wf = true
theorem rowsP_ok {ms : List (List Int)} {vs : List Int} {q : Nat} (h : AugOk q ms vs) (hg : ∀ i, i < ms.length → leadL (row (redA ms vs q) i) ≠ q) :
    (∀ i, i < (rowsP ms vs q).length → RowOk q (row (rowsP ms vs q) i)) ∧ solAt (rowsP ms vs q) q (rowsP ms vs q).length = solAt (redA ms vs q) q (redA ms vs q).length := by
  obtain ⟨c, o, hA⟩ := aug_red2 h
  have he := hA.el
  have hrs := he.rs
  have hlen := hA.len
  have hsol := (hA.solved hg).1
  rw [rowsP_good h hg]
  obtain ⟨r, hr⟩ : ∃ r, r = (redL ((augL ms vs).map tidyL) q).2 := ⟨_, rfl⟩
  rw [← hr] at hA he hrs ⊢
  have hl : ((redA ms vs q).take r).length = r := by rw [List.length_take]; omega
  rw [hl]
  refine ⟨fun i hi => ?_, ?_⟩
  · rw [row_take hi]
    have him : i < ms.length := by omega
    have h1 := hA.lead i hi
    have h2 := he.ck i hi
    have hlt : leadL (row (redA ms vs q) i) < q := by omega
    have hn := hA.cell_small him q
    have hd := hA.cell_small him (leadL (row (redA ms vs q) i))
    have hmk := hsol i him hlt
    obtain ⟨e1, e2, e3⟩ := mr_yes (n := vec (row (redA ms vs q) i) q) (d := vec (row (redA ms vs q) i) (leadL (row (redA ms vs q) i))) (inR_true.2 ⟨by omega, by omega⟩) (inR_true.2 ⟨by omega, by omega⟩)
    exact ⟨hA.wid i him, hlt, by omega, by omega, e1, e2, by rw [e3]; exact decide_eq_true hmk, mk_wf hmk⟩
  · rw [solAt_take (Nat.le_refl _)]
    have := solAt_idle (rs := redA ms vs q) (q := q) (r := r) (ms.length - r) (fun i h1 h2 => hA.rest i h1 (by omega))
    rw [show r + (ms.length - r) = ms.length by omega] at this
    rw [hlen]
    exact this.symm
end Go.Proofs.Ytedkeobhcpbigaa
/- Systems: the program's IsSystem. -/
namespace Go.Proofs.Ytedkeobhcpbigaa
open Go.RowKit
/-- A test: whether an integer lies outside of what a sum may be. -/
def sumP (x : Int) : Bool := !inR x (-1000) 1000
theorem bsum_any (x : Int) (W : World) : Calls Try.prog 87 #[.int .i64 x] W fun e w' => e = .returned (.bool (sumP x)) ∧ W = w' := by
  go_enter Try.func87, Try.ntmps87
  go_wp2_with (go_at_call 43; refine (inRange_any _ _ _ _).mono ?_; rintro e w' ⟨rfl, rfl⟩)
  go_ret
  exact ⟨rfl, rfl⟩
set_option maxHeartbeats 800000 in
theorem idxSum_any (W : World) (a : Option Addr) (len cap : Nat) (zs : List Int) (hl : len ≤ 1073741824) (hs : Sees .i64 W a len zs) :
    Calls Try.prog 74 #[.slice a len cap, .func (.func 87) #[] #[]] W fun e w' => e = .returned (.int .i64 (idxV sumP zs)) ∧ W = w' := by
  have HS := Lib.hid hs
  have HL := Lib.hid hs.1
  clear hs
  obtain ⟨v, hv⟩ : ∃ v : Int, v = idxV sumP zs := ⟨_, rfl⟩
  rw [← hv]
  have HV := Lib.hid hv
  clear hv
  go_enter Try.func74, Try.ntmps74
  go_wp2
  go_loop [8, 5] (fun i _ => ∃ k : Nat, k ≤ len ∧ i = .int .i64 k ∧ Hid (∀ j, j < k → sumP (zs.getD j 0) = false)) (fun i _ => len - (intOf i).toNat)
  case atStart => exact ⟨0, Nat.zero_le _, rfl, Lib.hid (fun j hj => by omega)⟩
  case round =>
    obtain ⟨k, hk, rfl, HZ⟩ := hrel
    by_cases hlt : k < len
    · rcases HS.out.2.2 with h0 | ⟨b, off, rfl, hbB, hcell⟩
      · omega
      · have hc := hcell k hlt
        obtain ⟨x, hx⟩ : ∃ x, x = zs.getD k 0 := ⟨_, rfl⟩
        rw [← hx] at hc
        have HX := Lib.hid hx
        clear hcell hx
        cases hp : sumP x
        · have HP := Lib.hid hp
          clear hp
          go_wp2_with (go_at_call 87; refine (bsum_any _ _).mono ?_; rw [HP.out]; rintro e w' ⟨rfl, rfl⟩)
          go_round
          case rel => exact ⟨k + 1, by omega, by go_num, Lib.hid (fun j hj => by rcases Nat.lt_or_eq_of_le (Nat.lt_succ_iff.1 hj) with h | h; exact HZ.out j h; subst h; rw [← HX.out]; exact HP.out)⟩
          case measure => simp [intOf]; omega
        · have HP := Lib.hid hp
          clear hp
          have HE : Hid (v = k) := Lib.hid (by rw [HV.out]; exact idxV_at (by rw [HL.out]; exact hlt) HZ.out (by rw [← HX.out]; exact HP.out))
          go_wp2_with (go_at_call 87; refine (bsum_any _ _).mono ?_; rw [HP.out]; rintro e w' ⟨rfl, rfl⟩)
          go_ret
          exact ⟨ret_intV HE.out.symm, rfl⟩
    · obtain rfl : k = len := by omega
      have HE : Hid (v = -1) := Lib.hid (by rw [HV.out]; exact idxV_none (fun j hj => HZ.out j (by rw [HL.out] at hj; exact hj)))
      go_wp2
      go_ret
      exact ⟨ret_intV HE.out.symm, rfl⟩
theorem hasSum_any (W : World) (a : Option Addr) (len cap : Nat) (zs : List Int) (hl : len ≤ 1073741824) (hs : Sees .i64 W a len zs) :
    Calls Try.prog 49 #[.slice a len cap, .func (.func 87) #[] #[]] W fun e w' => e = .returned (.bool (hasV sumP zs)) ∧ W = w' := by
  have HS := Lib.hid hs
  clear hs
  unfold hasV
  obtain ⟨v, hv⟩ : ∃ v : Int, idxV sumP zs = v := ⟨_, rfl⟩
  have HV := Lib.hid hv
  rw [hv]
  clear hv
  go_enter Try.func49, Try.ntmps49
  go_wp2_with (go_at_call 74; refine (idxSum_any _ _ _ _ zs hl HS.out).mono ?_; rw [HV.out]; rintro e w' ⟨rfl, rfl⟩)
  go_ret
  exact ⟨rfl, rfl⟩
theorem sumP_has {vs : List Int} : hasV sumP vs = !sumsOk vs := by
  cases h : hasV sumP vs
  · rw [sumsOk_of (vs := vs) (fun i hi => by have := has_no h hi; unfold sumP at this; cases h2 : inR (vs.getD i 0) (-1000) 1000; rw [h2] at this; exact absurd this (by decide); rfl)]
    rfl
  · obtain ⟨k, hk, h1⟩ := has_where h
    cases h2 : sumsOk vs
    · rfl
    · have := List.all_eq_true.1 h2 (vs.getD k 0) (getD_mem hk)
      unfold sumP at h1
      rw [this] at h1
      exact absurd h1 (by decide)
theorem isSys_lenNo {ms : List (List Int)} {vs : List Int} {cols : Int} (h : vs.length ≠ ms.length) : isSys ms vs cols = false := by
  unfold isSys
  rw [decide_eq_false h, Bool.and_false, Bool.and_false]
theorem isSys_has {ms : List (List Int)} {vs : List Int} {cols : Int} (h1 : isMat ms cols = true) (h2 : vs.length = ms.length) : isSys ms vs cols = !hasV sumP vs := by
  rw [sumP_has]
  unfold isSys
  rw [h1, decide_eq_true h2, Bool.not_not, Bool.and_true, Bool.and_true]
set_option maxRecDepth 20000 in
set_option maxHeartbeats 1600000 in
theorem isValid_any (W : World) (a : Option Addr) (len cap : Nat) (ms : List (List Int)) (b : Option Addr) (lb cb : Nat) (vs : List Int) (cols : Int) (hsm : SmallM ms) (hs : SeesM W a len ms) (hl : lb ≤ 1073741824) (hs2 : Sees .i64 W b lb vs) (hn : -9223372036854775808 ≤ cols) (hm : cols ≤ 9223372036854775807) :
    Calls Try.prog 65 #[.agg #[.slice a len cap, .int .i64 cols, .slice b lb cb]] W fun e w' => e = .returned (.bool (isSys ms vs cols)) ∧ Below W.heap.size W w' := by
  have HS := Lib.hid hs
  have HL := Lib.hid hs.1
  have hlen : len ≤ 1048576 := by unfold SmallM at hsm; have := hs.1; omega
  have HSM := Lib.hid hsm
  have HV := Lib.hid hs2
  have HVL := Lib.hid hs2.1
  obtain ⟨r, hr⟩ : ∃ r, r = isSys ms vs cols := ⟨_, rfl⟩
  rw [← hr]
  have HR := Lib.hid hr
  clear hs hsm hs2 hr
  have HB0 : Hid (Below W.heap.size W (W.alloc (.cells #[.slice a len cap, .int .i64 cols, .slice b lb cb] 61))) := Lib.hid ((Below.refl _ _).alloc (Nat.le_refl _) _)
  cases hmat : isMat ms cols
  · have HE : Hid (r = false) := Lib.hid (HR.out.trans (isSys_mat hmat))
    have HM := Lib.hid hmat
    clear hmat
    go_enter Try.func65, Try.ntmps65
    go_wp2_with (go_at_call 19; refine (isM_any _ _ _ _ ms cols HSM.out hn hm (HS.out.below HB0.out)).mono ?_; rw [HM.out]; rintro e w2 ⟨rfl, hb2⟩; have HB2 := Lib.hid (below_up HB0.out hb2 (Nat.le_refl _)); clear hb2)
    go_ret
    exact ⟨ret_bool HE.out.symm, HB2.out⟩
  · have HM := Lib.hid hmat
    by_cases he : lb = len
    · have HF : Hid (r = !hasV sumP vs) := Lib.hid (HR.out.trans (isSys_has hmat (by rw [HVL.out, HL.out]; exact he)))
      subst he
      clear hmat
      obtain ⟨h, hh⟩ : ∃ h, h = hasV sumP vs := ⟨_, rfl⟩
      rw [← hh] at HF
      have HH := Lib.hid hh
      clear hh
      go_enter Try.func65, Try.ntmps65
      go_wp2_with (first
        | (go_at_call 19; refine (isM_any _ _ _ _ ms cols HSM.out hn hm (HS.out.below HB0.out)).mono ?_; rw [HM.out]; rintro e w2 ⟨rfl, hb2⟩; have HB2 := Lib.hid (below_up HB0.out hb2 (Nat.le_refl _)); have G2 := Lib.hid hb2; have c0 := (G2.out.cell (p := ⟨W.heap.size, 0, none⟩) (by simp)).trans (show _ = some (Value.slice a lb cap) by go_simp); have c2 := (G2.out.cell (p := ⟨W.heap.size, 2, none⟩) (by simp)).trans (show _ = some (Value.slice b lb cb) by go_simp); clear hb2)
        | (go_at_call 49; refine (hasSum_any _ _ _ _ vs hl (HV.out.below HB2.out)).mono ?_; rw [← HH.out]; rintro e w3 ⟨rfl, rfl⟩))
      go_ret
      exact ⟨ret_bool HF.out.symm, HB2.out⟩
    · have HE : Hid (r = false) := Lib.hid (HR.out.trans (isSys_lenNo (by rw [HVL.out, HL.out]; exact he)))
      have hei : ¬ (lb : Int) = (len : Int) := by omega
      have heb : ((lb : Int) == (len : Int)) = false := beq_eq_false_iff_ne.2 hei
      clear hmat
      go_enter Try.func65, Try.ntmps65
      go_wp2_with (go_at_call 19; refine (isM_any _ _ _ _ ms cols HSM.out hn hm (HS.out.below HB0.out)).mono ?_; rw [HM.out]; rintro e w2 ⟨rfl, hb2⟩; have HB2 := Lib.hid (below_up HB0.out hb2 (Nat.le_refl _)); have G2 := Lib.hid hb2; have c0 := (G2.out.cell (p := ⟨W.heap.size, 0, none⟩) (by simp)).trans (show _ = some (Value.slice a len cap) by go_simp); have c2 := (G2.out.cell (p := ⟨W.heap.size, 2, none⟩) (by simp)).trans (show _ = some (Value.slice b lb cb) by go_simp); clear hb2)
      go_ret
      exact ⟨ret_bool HE.out.symm, HB2.out⟩
end Go.Proofs.Ytedkeobhcpbigaa
/- Systems: the program's reduced rows, and whether it is solvable. -/
namespace Go.Proofs.Ytedkeobhcpbigaa
open Go.RowKit
theorem catTwo (z : List Int) (x : Int) : cat (fun j => if j = 0 then z else [x]) 2 = z ++ [x] := by simp [cat]
/-- What reduced leaves. -/
def RedRes (ms : List (List Int)) (vs : List Int) (cols : Int) (W : World) (e : Ending) (w' : World) : Prop :=
  ∃ a len cap, e = .returned (.tuple #[.slice a len cap, .bool (solvB ms vs cols)]) ∧ SeesM w' a len (if solvB ms vs cols = true then rowsP ms vs cols.toNat else []) ∧ Below W.heap.size W w'
theorem seesM_nil (w : World) : SeesM w none 0 [] := ⟨rfl, fun _ hr => absurd hr (Nat.not_lt_zero _)⟩
set_option maxRecDepth 20000 in
set_option maxHeartbeats 3200000 in
theorem redSys_any (W : World) (a : Option Addr) (len cap : Nat) (ms : List (List Int)) (b : Option Addr) (lb cb : Nat) (vs : List Int) (cols : Int) (hsm : SmallM ms) (hs : SeesM W a len ms) (hl : lb ≤ 1073741824) (hcb : lb ≤ cb) (hcm : cb ≤ maxLen) (hs2 : Sees .i64 W b lb vs) (hn : -9223372036854775808 ≤ cols) (hm : cols ≤ 9223372036854775807) :
    Calls Try.prog 44 #[.agg #[.slice a len cap, .int .i64 cols, .slice b lb cb]] W (RedRes ms vs cols W) := by
  obtain ⟨W1, hW1⟩ : ∃ W1, W1 = W.alloc (.cells #[.slice a len cap, .int .i64 cols, .slice b lb cb] 61) := ⟨_, rfl⟩
  have HB0 : Hid (Below W.heap.size W W1) := Lib.hid (by rw [hW1]; exact (Below.refl _ _).alloc (Nat.le_refl _) _)
  have hz1 : W1.heap.size = W.heap.size + 1 := by rw [hW1, World.size_alloc]
  have c0 : W1.cell? ⟨W.heap.size, 0, none⟩ = some (.slice a len cap) := by rw [hW1]; go_simp
  have c1 : W1.cell? ⟨W.heap.size, 1, none⟩ = some (.int .i64 cols) := by rw [hW1]; go_simp
  have c2 : W1.cell? ⟨W.heap.size, 2, none⟩ = some (.slice b lb cb) := by rw [hW1]; go_simp
  have HC0 := Lib.hid c0
  have HC1 := Lib.hid c1
  have HC2 := Lib.hid c2
  have hbs : W.heap.size < W1.heap.size := by omega
  have HS := Lib.hid (hs.below HB0.out)
  have HSM := Lib.hid hsm
  have HV := Lib.hid (hs2.below HB0.out)
  have HM := Lib.hid hs.1
  have HVM := Lib.hid hs2.1
  unfold maxLen at hcm
  clear hs hsm hs2
  cases hsys : isSys ms vs cols
  · have HN := Lib.hid (solv_no hsys)
    have HY := Lib.hid hsys
    clear hsys
    go_enter Try.func44, Try.ntmps44
    go_wp2_with fail
    rw [← hW1]
    clear hW1
    go_wp2_with (go_at_call 65; refine (isValid_any _ _ _ _ ms _ _ _ vs cols HSM.out HS.out hl HV.out hn hm).mono ?_; rw [HY.out]; rintro e w2 ⟨rfl, hb2⟩; have HB2 := Lib.hid (below_up HB0.out hb2 (Nat.le_refl _)); clear hb2)
    go_ret2
    exact ⟨none, 0, 0, by rw [HN.out]; rfl, by rw [HN.out]; exact seesM_nil _, HB2.out⟩
  · obtain ⟨q, rfl⟩ := sys_nat hsys
    have hok := aug_ok hsys
    have HOK := Lib.hid hok
    have HAL := Lib.hid (augL_len ms vs)
    have hq6 : q ≤ 6 := hok.fine.q6
    have hlen : len ≤ 12 := by have h := hok.fine.len; rw [augL_len, HM.out] at h; exact h
    have hlb : lb = len := by rw [← HVM.out, ← HM.out]; exact hok.len
    subst hlb
    have HLA := Lib.hid (rowsP_at hok)
    have HLD := Lib.hid (rowsP_lead hok)
    have HSY := Lib.hid (solv_yes hsys)
    obtain ⟨g, hg⟩ : ∃ g, g = goodB (redA ms vs q) q := ⟨_, rfl⟩
    rw [← hg] at HLD HSY
    obtain ⟨R, hR⟩ : ∃ R, R = rowsP ms vs q := ⟨_, rfl⟩
    rw [← hR] at HLA HLD
    have HRR := Lib.hid hR
    have HY := Lib.hid hsys
    obtain ⟨i0, hi, hz0, hz2, hz3⟩ := info_parts info_row
    clear hsys hok hg hR
    go_enter Try.func44, Try.ntmps44
    go_wp2_with fail
    rw [← hW1]
    clear hW1
    go_wp2_with (first
      | (go_at_call 65; refine (isValid_any _ _ _ _ ms _ _ _ vs (q : Int) HSM.out HS.out hl HV.out (by omega) (by omega)).mono ?_; rw [HY.out]; rintro e w2 ⟨rfl, hb2⟩; have HB2 := Lib.hid hb2; have k0 := (hb2.cell (p := ⟨W.heap.size, 0, none⟩) hbs).trans HC0.out; clear hb2)
      | (at_make; refine wpList_make_full _ rfl _ _ 24 rfl w2.heap.size 25 i0 (.slice none 0 0) 1 Try.underlying24 hi hz0 hz2 _ _ _ _ lb rfl rfl rfl rfl (by rw [hz3]; omega) (by unfold maxLen; omega) (by simp) ?_; intro w3 hown3 hgrow3; have HB3' := Lib.hid ((Below.refl w2.heap.size w2).grown hgrow3 (Nat.le_refl _) (fun k e => by cases e)); have HB3 := Lib.hid (below_up HB2.out HB3'.out (Nat.le_refl _)); have HO3 := Lib.hid (made_rows w3 w2.heap.size lb w2.heap.size (Nat.le_refl _) (hown3.lt _ rfl).2 hown3); have hz23 := HB2.out.size; have k1 := (HB3.out.cell (p := ⟨W.heap.size, 0, none⟩) hbs).trans HC0.out; clear hown3 hgrow3))
    obtain ⟨lo, hlo⟩ : ∃ lo, lo = w2.heap.size := ⟨_, rfl⟩
    have HO3 : Hid (OwnM w3 lo w3.heap.size (some ⟨lo, 0, none⟩) lb lb (List.replicate lb [])) := Lib.hid (by rw [hlo]; exact HO3.out)
    rw [← hlo] at hz23 ⊢
    have hlo3 : lo ≤ w3.heap.size := by rw [hlo]; exact HB3'.out.size
    clear hlo
    go_loopw [19, 5, 6] (fun i _ _ wr => ∃ k : Nat, k ≤ lb ∧ i = .int .i64 k ∧ OwnM wr lo wr.heap.size (some ⟨lo, 0, none⟩) lb lb (upTo (augL ms vs) k) ∧ lo ≤ wr.heap.size ∧ Below W1.heap.size W1 wr) (fun i _ _ _ => lb - (intOf i).toNat)
    case atStart => exact ⟨0, Nat.zero_le _, rfl, by rw [upTo_zero, HAL.out, HM.out]; exact HO3.out, hlo3, HB3.out⟩
    case round =>
      obtain ⟨k, hk, rfl, ho, hlr, hb⟩ := hrel
      have HO := Lib.hid ho
      have HB := Lib.hid hb
      have hsz := hb.size
      have k2 := (hb.cell (p := ⟨W.heap.size, 2, none⟩) hbs).trans HC2.out
      have k3 := (hb.cell (p := ⟨W.heap.size, 1, none⟩) hbs).trans HC1.out
      by_cases hlt : k < lb
      · obtain ⟨bo, off, ar, cr, rfl, hbl, hc, hle, hcrm, hsr⟩ := HS.out.2 k hlt
        have hcw := (hb.cell (p := ⟨bo, off + k, none⟩) hbl).trans hc
        obtain ⟨zs, hzs⟩ : ∃ zs, zs = row ms k := ⟨_, rfl⟩
        rw [← hzs] at hcw hsr hle
        have hkm : k < ms.length := by rw [HM.out]; exact hlt
        have hzl : zs.length = q := by rw [hzs]; exact HOK.out.wid k hkm
        have HSR := Lib.hid (hsr.below hb)
        rcases HV.out.2.2 with h0 | ⟨b2, o2, rfl, hb2, hc2⟩
        · omega
        · have hcv := (hb.cell (p := ⟨b2, o2 + k, none⟩) hb2).trans (hc2 k hlt)
          obtain ⟨x, hx⟩ : ∃ x, x = vs.getD k 0 := ⟨_, rfl⟩
          rw [← hx] at hcv
          have HXW : Hid ((Lit.int .i64 x).wf = true) := Lib.hid (by rw [hx]; exact HV.out.2.1 _ (getD_mem (l := vs) (j := k) (by rw [HVM.out]; exact hlt)))
          have HCV := Lib.hid hcv
          have HAR : Hid (row (augL ms vs) k = zs ++ [x]) := Lib.hid (by rw [augL_row hkm, ← hzs, hx]; rfl)
          have hb2r := Nat.lt_of_lt_of_le hb2 hsz
          rw [hzl] at hcw
          have HZL := Lib.hid hzl
          have i0k : (0 : Int) ≤ (k : Int) := by omega
          have i1k : (k : Int) < (lb : Int) := by omega
          have i2k : (k : Int) ≤ (k : Int) + 1 := by omega
          have i3k : (k : Int) + 1 ≤ (cb : Int) := by omega
          have i4k : (k : Int) ≤ (cb : Int) := by omega
          have wk : IntKind.i64.wrap ((k : Int) + 1) = (k : Int) + 1 := IntWalk.i64_in _ (by omega)
          have HSX : Hid (Sees .i64 wr (some ⟨b2, o2 + k, none⟩) 1 [x]) := Lib.hid ⟨rfl, by simpa using HXW.out, .inr ⟨b2, o2 + k, rfl, hb2r, fun j hj => by obtain rfl : j = 0 := (by omega); exact hcv⟩⟩
          obtain ⟨zx, hzx⟩ : ∃ zx, zx = zs ++ [x] := ⟨_, rfl⟩
          have HZX := Lib.hid hzx
          clear hc hsr hzs ho hb hc2 hx hcv hzl hle hzx
          go_wp2_with fail
          refine (concat_any _ wr.heap.size 2 (fun j => if j = 0 then ar else some ⟨b2, o2 + k, none⟩) (fun j => if j = 0 then q else 1) (fun j => if j = 0 then cr else cb - k) (fun j => if j = 0 then zs else [x]) (by decide) (by simp [totC]; omega) ⟨by simp, fun j hj => ?_, fun j hj => ?_⟩).mono ?_
          · obtain rfl | rfl : j = 0 ∨ j = 1 := by omega
            all_goals (simp)
          · obtain rfl | rfl : j = 0 ∨ j = 1 := by omega
            · have h := HSR.out.below ((Below.refl _ _).alloc (Nat.le_refl _) (.cells #[.slice ar q cr, .slice (some ⟨b2, o2 + k, none⟩) 1 (cb - k)] 25))
              rw [HZL.out] at h
              exact h
            · exact HSX.out.below ((Below.refl _ _).alloc (Nat.le_refl _) _)
          rintro e w4 ⟨a4, l4, c4, rfl, ho4, hb4⟩
          rw [catTwo, ← HZX.out] at ho4
          obtain rfl : zx.length = l4 := ho4.1
          have hb4' : Below wr.heap.size wr w4 := below_up ((Below.refl _ _).alloc (Nat.le_refl _) _) hb4 (Nat.le_refl _)
          have HB4 := Lib.hid hb4'
          have HP := Lib.hid (HO.out.put hlr hb4' (ho4.wide (by simp) (Nat.le_refl _) (Nat.le_refl _)) k hlt)
          have HM2 := HO.out.below hb4'
          obtain ⟨_, _, hin, A, C, hrow, _⟩ := HM2
          have hfz := hrow.frozenAt k
          have hcd := (hrow.cellAt k (by omega)).trans (heads_at (by rw [upTo_len _ (by rw [HAL.out, HM.out]; omega), HAL.out, HM.out]; exact hlt))
          have hsz4 := hb4'.size
          clear hrow hin ho4 hb4 hb4'
          go_wp2
          go_roundw
          case rel =>
            have hp := HP.out.1
            have hset := upTo_set (augL ms vs) (k := k) (by rw [HAL.out, HM.out]; exact hlt)
            rw [HAR.out, ← HZX.out] at hset
            rw [hset] at hp
            exact ⟨k + 1, by omega, by go_num, by simpa [World.setCell] using hp, by simp; omega, below_moved HB.out HP.out.2 (Nat.le_refl _) hz23⟩
          case measure => simp [intOf]; omega
      · obtain rfl : k = lb := by omega
        have HOA : Hid (OwnM wr lo wr.heap.size (some ⟨lo, 0, none⟩) k k (augL ms vs)) := Lib.hid (by have h := HO.out; rw [show upTo (augL ms vs) k = augL ms vs by have := upTo_all (augL ms vs); rwa [HAL.out, HM.out] at this] at h; exact h)
        clear ho hb
        cases g
        · have HLT : Hid (leadIn R q R.length = true) := Lib.hid (by rw [HLD.out]; rfl)
          go_wp2_with (first
            | (go_at_call 67; refine (elimP_start (q + 1) (augL ms vs) HOK.out.elimOk (by omega) _ lo wr.heap.size (some ⟨lo, 0, none⟩) k k HOA.out hlr).mono ?_; rintro e w5 ⟨r5, rfl, ho5, hm5⟩; have HM5 := Lib.hid (below_moved HB.out hm5 (Nat.le_refl _) hz23); have HO5 : Hid (OwnM w5 lo wr.heap.size (some ⟨lo, 0, none⟩) r5 k R) := Lib.hid (by rw [HRR.out]; exact ho5); obtain rfl : R.length = r5 := HO5.out.1; have k4 := (HM5.out.cell (p := ⟨W.heap.size, 1, none⟩) hbs).trans HC1.out; clear ho5 hm5)
            | (go_at_call 68; refine (isStart_any _ (some ⟨lo, 0, none⟩) k R (q + 1) q HLA.out HO5.out.sees).mono ?_; rw [HLT.out]; rintro e w6 ⟨rfl, hb6⟩; have HB6 := Lib.hid (below_up HM5.out hb6 (Nat.le_refl _)); clear hb6))
          go_ret2
          exact ⟨none, 0, 0, by rw [HSY.out]; rfl, by rw [HSY.out]; exact seesM_nil _, HB0.out.trans (HB6.out.mono (by omega))⟩
        · have HLT : Hid (leadIn R q R.length = false) := Lib.hid (by rw [HLD.out]; rfl)
          go_wp2_with (first
            | (go_at_call 67; refine (elimP_start (q + 1) (augL ms vs) HOK.out.elimOk (by omega) _ lo wr.heap.size (some ⟨lo, 0, none⟩) k k HOA.out hlr).mono ?_; rintro e w5 ⟨r5, rfl, ho5, hm5⟩; have HM5 := Lib.hid (below_moved HB.out hm5 (Nat.le_refl _) hz23); have HO5 : Hid (OwnM w5 lo wr.heap.size (some ⟨lo, 0, none⟩) r5 k R) := Lib.hid (by rw [HRR.out]; exact ho5); obtain rfl : R.length = r5 := HO5.out.1; have k4 := (HM5.out.cell (p := ⟨W.heap.size, 1, none⟩) hbs).trans HC1.out; clear ho5 hm5)
            | (go_at_call 68; refine (isStart_any _ (some ⟨lo, 0, none⟩) k R (q + 1) q HLA.out HO5.out.sees).mono ?_; rw [HLT.out]; rintro e w6 ⟨rfl, hb6⟩; have HB6 := Lib.hid (below_up HM5.out hb6 (Nat.le_refl _)); have HS6 := Lib.hid (HO5.out.sees.below hb6); clear hb6))
          go_ret2
          exact ⟨_, _, _, by rw [HSY.out]; rfl, by rw [HSY.out, if_pos rfl, Int.toNat_natCast, ← HRR.out]; exact HS6.out, HB0.out.trans (HB6.out.mono (by omega))⟩
theorem isSolv_any (W : World) (a : Option Addr) (len cap : Nat) (ms : List (List Int)) (b : Option Addr) (lb cb : Nat) (vs : List Int) (cols : Int) (hsm : SmallM ms) (hs : SeesM W a len ms) (hl : lb ≤ 1073741824) (hcb : lb ≤ cb) (hcm : cb ≤ maxLen) (hs2 : Sees .i64 W b lb vs) (hn : -9223372036854775808 ≤ cols) (hm : cols ≤ 9223372036854775807) :
    Calls Try.prog 15 #[.slice a len cap, .slice b lb cb, .int .i64 cols] W fun e w' => e = .returned (.bool (solvB ms vs cols)) ∧ Below W.heap.size W w' := by
  have HS := Lib.hid hs
  have HSM := Lib.hid hsm
  have HV := Lib.hid hs2
  have HCM := Lib.hid hcm
  clear hs hsm hs2 hcm
  go_enter Try.func15, Try.ntmps15
  go_wp2_with (go_at_call 44; refine (redSys_any _ _ _ _ ms _ _ _ vs cols HSM.out HS.out hl hcb HCM.out HV.out hn hm).mono ?_; rintro e w1 ⟨a1, l1, c1, rfl, _, hb1⟩; have HB1 := Lib.hid hb1; clear hb1)
  go_ret
  exact ⟨rfl, HB1.out⟩
end Go.Proofs.Ytedkeobhcpbigaa
