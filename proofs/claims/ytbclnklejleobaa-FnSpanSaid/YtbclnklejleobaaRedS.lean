/- The model's ReduceRows and RankOf. -/
import Derived.Test.YtbclnklejleobaaRedW
import Derived.Test.YtbclnklejleobaaIsM
namespace Go.Proofs.Ytbclnklejleobaa
open Go.RowKit
/-- The reduced rows; none if the rows are no matrix. -/
def rrV (ms : List (List Int)) (cols : Int) : List (List Int) := if isMat ms cols = true then rrL ms cols.toNat else []
theorem fine_of {ms : List (List Int)} {cols : Int} (h : isMat ms cols = true) : Fine cols.toNat cols.toNat ms := by
  obtain ⟨⟨h1, h2⟩, h3, h4⟩ := isMat_true h
  have key : ∀ i, i < ms.length → ∀ j, -2 ≤ vec (row ms i) j ∧ vec (row ms i) j ≤ 2 := fun i hi j => by
    rcases Nat.lt_or_ge j (row ms i).length with hj | hj
    · exact (h4 i hi).2 j hj
    · rw [vec_beyond hj]; decide
  exact ⟨by omega, Nat.le_refl _, by omega, h3, fun i hi => by have := (h4 i hi).1; omega, fun i hi j _ => key i hi j, fun i hi j => by have := key i hi j; omega⟩
theorem Fine.lead_lt {n : Nat} {ms : List (List Int)} (h : Fine n n ms) {i : Nat} (hi : i < (redL (ms.map tidyL) n).2) : leadL (row (redL (ms.map tidyL) n).1 i) < n := by
  have I := h.inv (Nat.le_refl n)
  obtain ⟨c, o, he⟩ := I.el
  have hw := I.wid i (by have := he.rs; omega)
  have hp := he.pos i hi
  have hc := he.ck i hi
  rcases Nat.lt_or_ge (leadL (row (redL (ms.map tidyL) n).1 i)) n with h1 | h1
  · exact h1
  · have := leadL_all (z := row (redL (ms.map tidyL) n).1 i) (by have := leadL_le (row (redL (ms.map tidyL) n).1 i); omega) (c i)
    omega
theorem Fine.lead_ge {n : Nat} {ms : List (List Int)} (h : Fine n n ms) {i : Nat} (hi : (redL (ms.map tidyL) n).2 ≤ i) (hl : i < ms.length) : leadL (row (redL (ms.map tidyL) n).1 i) = n := by
  have I := h.inv (Nat.le_refl n)
  obtain ⟨c, o, he⟩ := I.el
  have hw := I.wid i hl
  refine (leadL_zero fun j hj => he.below i hi hl j ?_).trans hw
  omega
theorem Fine.rle {n : Nat} {ms : List (List Int)} (h : Fine n n ms) : (redL (ms.map tidyL) n).2 ≤ ms.length := (h.inv (Nat.le_refl n)).rle
theorem Fine.rlen {n : Nat} {ms : List (List Int)} (h : Fine n n ms) : (redL (ms.map tidyL) n).1.length = ms.length := (h.inv (Nat.le_refl n)).len
theorem rrL_len {n : Nat} {ms : List (List Int)} (h : Fine n n ms) : (rrL ms n).length = (redL (ms.map tidyL) n).2 := by
  unfold rrL
  rw [List.length_take, h.rlen]
  have := h.rle
  omega
theorem take_next {R : List (List Int)} {u : Nat} (h : u < R.length) : R.take u ++ [row R u] = R.take (u + 1) := by
  rw [List.take_succ_eq_append_getElem h]
  simp [row, List.getD, h]
theorem rrV_len (ms : List (List Int)) (cols : Int) : (rrV ms cols).length ≤ 12 := by
  unfold rrV
  split
  · rename_i h
    have hf := fine_of h
    rw [rrL_len hf]
    have h1 := hf.rle
    have h2 := hf.len
    omega
  · simp
theorem tot_le {ms : List (List Int)} {n : Nat} (h : ∀ i, i < ms.length → (row ms i).length ≤ n) : ∀ k, k ≤ ms.length → tot ms k ≤ k * n
  | 0, _ => by simp [tot]
  | k + 1, hk => by
    have h1 := tot_le h k (by omega)
    have h2 := h k (by omega)
    rw [tot, Nat.succ_mul]
    omega
theorem rrL_row {n : Nat} {ms : List (List Int)} (h : Fine n n ms) {i : Nat} (hi : i < (rrL ms n).length) : row (rrL ms n) i = row (redL (ms.map tidyL) n).1 i := by
  rw [rrL_len h] at hi
  exact row_take hi
theorem rrL_wid {n : Nat} {ms : List (List Int)} (h : Fine n n ms) {i : Nat} (hi : i < (rrL ms n).length) : (row (rrL ms n) i).length = n := by
  rw [rrL_row h hi]
  rw [rrL_len h] at hi
  have := h.rle
  exact (h.inv (Nat.le_refl n)).wid i (by omega)
theorem rrV_small (ms : List (List Int)) (cols : Int) : SmallM (rrV ms cols) := by
  have hl := rrV_len ms cols
  unfold SmallM
  have key : tot (rrV ms cols) (rrV ms cols).length ≤ (rrV ms cols).length * 6 := by
    refine tot_le (fun i hi => ?_) _ (Nat.le_refl _)
    unfold rrV at hi ⊢
    split at hi
    · rename_i h
      rw [if_pos h, rrL_wid (fine_of h) hi]
      exact (fine_of h).q6
    · exact absurd hi (Nat.not_lt_zero _)
  omega
set_option maxRecDepth 20000 in
set_option maxHeartbeats 1600000 in
theorem specRR_any (W : World) (a : Option Addr) (len cap : Nat) (ms : List (List Int)) (cols : Int) (hsm : SmallM ms) (hn : -9223372036854775808 ≤ cols) (hm : cols ≤ 9223372036854775807) (hs : SeesM W a len ms) :
    Calls Try.prog 25 #[.slice a len cap, .int .i64 cols] W (SeenM (rrV ms cols) W) := by
  have HS := Lib.hid hs
  have HSM := Lib.hid hsm
  clear hs hsm
  obtain ⟨i0, hi, hz0, hz1, hz2⟩ := info_parts info_i64
  obtain ⟨i1, hi1, hz10, hz11, hz12⟩ := info_parts info_row
  cases hv : isMat ms cols
  · have HE : Hid (rrV ms cols = []) := Lib.hid (by unfold rrV; rw [hv]; rfl)
    have HV := Lib.hid hv
    clear hv
    go_enter Try.func25, Try.ntmps25
    go_wp2_with (go_at_call 15; refine (specIsM_any _ a len cap ms cols HSM.out hn hm (HS.out.below ((Below.refl _ _).alloc (Nat.le_refl _) _))).mono ?_; rw [HV.out]; rintro e w1 ⟨rfl, hb1⟩; have HB1 := Lib.hid hb1; clear hb1)
    go_ret
    rw [HE.out]
    exact ⟨_, _, _, rfl, ⟨rfl, fun r hr => by omega⟩, Nat.le_refl _, Nat.zero_le _, below_up ((Below.refl _ _).alloc (Nat.le_refl _) _) HB1.out (Nat.le_refl _)⟩
  · have HF := Lib.hid (fine_of hv)
    have hc := (isMat_true hv).1
    have HE : Hid (rrV ms cols = rrL ms cols.toNat) := Lib.hid (by unfold rrV; rw [if_pos hv])
    obtain ⟨n, hn2⟩ : ∃ n : Nat, n = cols.toNat := ⟨_, rfl⟩
    have hcn : cols = (n : Int) := by omega
    rw [← hn2] at HF HE
    subst hcn
    have hn1 : 1 ≤ n := by omega
    have hn6 : n ≤ 6 := by omega
    have HV := Lib.hid hv
    clear hv hn2 hc hn hm
    have HR := Lib.hid HF.out.rle
    have HRL := Lib.hid HF.out.rlen
    have HLT : Hid (∀ i, i < (redL (ms.map tidyL) n).2 → leadL (row (redL (ms.map tidyL) n).1 i) < n) := Lib.hid (fun i hi => HF.out.lead_lt hi)
    have HGE : Hid (∀ i, (redL (ms.map tidyL) n).2 ≤ i → i < ms.length → leadL (row (redL (ms.map tidyL) n).1 i) = n) := Lib.hid (fun i hi hl => HF.out.lead_ge hi hl)
    have HWD : Hid (∀ i, i < ms.length → (row (redL (ms.map tidyL) n).1 i).length = n) := Lib.hid (fun i hi => (HF.out.inv (Nat.le_refl n)).wid i hi)
    have HRR : Hid (rrL ms n = (redL (ms.map tidyL) n).1.take (redL (ms.map tidyL) n).2) := Lib.hid rfl
    have hl12 : ms.length ≤ 12 := HF.out.len
    obtain ⟨R, hR⟩ : ∃ R, R = (redL (ms.map tidyL) n).1 := ⟨_, rfl⟩
    obtain ⟨r, hr⟩ : ∃ r, r = (redL (ms.map tidyL) n).2 := ⟨_, rfl⟩
    obtain ⟨l, hl⟩ : ∃ l, l = ms.length := ⟨_, rfl⟩
    rw [← hR] at HRL HLT HGE HWD HRR
    rw [← hr] at HR HLT HGE HRR
    rw [← hl] at HR HRL HGE HWD hl12
    have hrl : r ≤ l := HR.out
    have hx : (redL (ms.map tidyL) n).1 = R := hR.symm
    have HX := Lib.hid hx
    clear hx hR hr hl
    go_enter Try.func25, Try.ntmps25
    go_wp2_with (first
      | (go_at_call 15; refine (specIsM_any _ a len cap ms (n : Int) HSM.out (by omega) (by omega) (HS.out.below ((Below.refl _ _).alloc (Nat.le_refl _) _))).mono ?_; rw [HV.out]; rintro e w1 ⟨rfl, hb1⟩; have HB1 := Lib.hid (below_up ((Below.refl W.heap.size W).alloc (Nat.le_refl _) _) hb1 (Nat.le_refl _)); have HHD1 := Lib.hid ((hold_nil W).below hb1); have hsz1 : W.heap.size + 1 ≤ w1.heap.size := (by have := hb1.size; simpa using this); clear hb1)
      | (go_at_call 54; refine (specReduce_any _ a len cap ms n n HF.out (HS.out.below HB1.out)).mono ?_; rw [HX.out]; rintro e w2 ⟨a2, l2, c2, rfl, hs2, _, _, hb2⟩; have hl2 : l = l2 := (by rw [← hs2.1]; exact HRL.out.symm); subst hl2; have HS2 := Lib.hid hs2; have HB2 := Lib.hid (below_up HB1.out hb2 (Nat.le_refl _)); have HHD2 := Lib.hid (HHD1.out.below hb2); have hsz2 := hb2.size; clear hs2 hb2))
    go_loopw [5, 7] (fun v i wr => ∃ (u t : Nat) (a' : Option Addr) (c' : Nat), u ≤ l ∧ t ≤ u ∧ Hid (t = min u r) ∧ i = .int .i64 u ∧ v = .slice a' t c' ∧ HoldM wr W.heap.size a' t c' (R.take t) ∧ Below W.heap.size W wr ∧ w2.heap.size ≤ wr.heap.size ∧ Hid (∀ k, w1.heap.size ≤ k → k < w2.heap.size → wr.heap[k]? = w2.heap[k]?) ∧ Hid (∀ y, a' = some y → ¬ (w1.heap.size ≤ y.block ∧ y.block < w2.heap.size))) (fun _ i _ => l - (intOf i).toNat)
    case atStart => exact ⟨0, 0, _, _, Nat.zero_le _, Nat.le_refl _, Lib.hid (by omega), rfl, rfl, HHD2.out, HB2.out, Nat.le_refl _, Lib.hid (fun k _ _ => rfl), Lib.hid (fun y hy => by cases hy; simp only; omega)⟩
    case round =>
      obtain ⟨u, t, a', c', hu, htu, HT, rfl, rfl, ho, hb, hszr, HK, HNB⟩ := hrel
      have HO := Lib.hid ho
      have HB := Lib.hid hb
      have hsz := hb.size
      by_cases hul : u < l
      · have hsf := HS2.out.keep HK.out hszr
        have HSF := Lib.hid hsf
        obtain ⟨b, off, ar, cr, rfl, hbl, _, hcw, _, _, hsrw, _⟩ := hsf.2 u hul
        have hwd := HWD.out u hul
        rw [hwd] at hcw hsrw
        have HSR := Lib.hid hsrw
        have hn9 : n ≤ 1073741824 := by omega
        obtain ⟨d, hd⟩ : ∃ d, d = leadL (row R u) := ⟨_, rfl⟩
        have HD := Lib.hid hd
        have hblw : b < wr.heap.size := by omega
        clear hsrw ho hb hsf
        by_cases hur : u < r
        · obtain rfl : t = u := by have := HT.out; omega
          have hdn : d < n := by rw [hd]; exact HLT.out t hur
          have HN := Lib.hid (take_next (R := R) (u := t) (by rw [HRL.out]; exact hul))
          clear hd hwd
          go_wp2_with (first
            | (go_at_call 50; refine (specLead_any _ _ n cr (row R t) hn9 HSR.out).mono ?_; rw [← HD.out]; rintro e w' ⟨rfl, rfl⟩)
            | (at_builtin; refine wp_append_sees rfl _ _ 29 rfl 3 i0 .i64 8 Try.underlying29 hi hz0 hz1 hz2 _ _ _ _ rfl _ _ (own_nil _ _ _) _ _ _ _ rfl (HSR.out.alloc _) (by unfold maxLen; omega) (by omega) (by simp) ?_; intro a3 len3 cap3 w3 hlen3 ho3 hm3; rw [Nat.zero_add] at hlen3; replace hlen3 := hlen3.symm; subst hlen3; rw [List.nil_append] at ho3; have HO3 := Lib.hid ho3; have hbm := below_moved ((Below.refl wr.heap.size wr).alloc (Nat.le_refl _) _) hm3 (Nat.le_refl _) (Nat.le_refl _); have HM3 := Lib.hid hbm; have hsz3 := hbm.size; clear ho3 hm3 hbm)
            | (at_builtin; refine wp_append_hold rfl _ _ 24 rfl i1 Try.underlying24 hi1 hz10 hz11 hz12 _ _ _ rfl w3.heap.size rfl _ W.heap.size ((HO.out.below HM3.out).below ((Below.refl _ _).alloc (Nat.le_refl _) _)) a3 cap3 (row R t) (by simp [HWD.out t hul]) (by rw [HWD.out t hul]; exact HO3.out.sees.alloc _) (by rw [HWD.out t hul]; exact HO3.out.cap) HO3.out.capMax (fun x hx => ⟨by have := HO3.out.2.2.2.2 x hx; simp; omega, fun y hy => by have h1 := (HO.out.outer hy).1; have h2 := HO3.out.2.2.2.2 x hx; omega⟩) (by omega) (by simp; omega) ?_; intro g4 c4 w4 ho4 hb4 hf4 hg4; have HO4 := Lib.hid ho4; have HB4 := Lib.hid hb4; have HF4 := Lib.hid hf4; have HG4 := Lib.hid hg4; clear ho4 hb4 hf4 hg4))
          go_roundw
          case rel => exact ⟨t + 1, t + 1, _, _, by omega, Nat.le_refl _, Lib.hid (by omega), by go_num, rfl, by have h := HO4.out; rw [HN.out] at h; exact h, ((below_up HB.out HM3.out (Nat.le_refl _)).alloc (by omega) _).trans HB4.out, by have := HB4.out.size; simp at this; omega, Lib.hid (fun k h1 h2 => by
              rw [HF4.out k (by simp; omega) (fun y hy e => HNB.out y hy (by omega)), ← HK.out k h1 h2]
              exact (((Below.refl w3.heap.size w3).alloc (Nat.le_refl _) _).block k (by omega)).trans (HM3.out.block k (by omega))), Lib.hid (fun y hy => by
              cases hy
              rcases HG4.out with ⟨z, hz, he⟩ | he
              · have := HNB.out z hz; simp only; omega
              · simp at he; simp only; omega)⟩
          case measure => simp [intOf]; omega
        · have hdn : d = n := by rw [hd]; exact HGE.out u (by omega) (by omega)
          subst hdn
          clear hd hwd
          go_wp2_with (go_at_call 50; refine (specLead_any _ _ d cr (row R u) hn9 HSR.out).mono ?_; rw [← HD.out]; rintro e w' ⟨rfl, rfl⟩)
          go_roundw
          case rel => exact ⟨u + 1, t, _, _, by omega, by omega, Lib.hid (by have := HT.out; omega), by go_num, rfl, HO.out, HB.out, hszr, HK, HNB⟩
          case measure => simp [intOf]; omega
      · obtain rfl : u = l := by omega
        have htr : Hid (R.take t = rrL ms n) := Lib.hid (by rw [HRR.out, show t = r by have := HT.out; omega])
        clear ho hb
        go_wp2
        go_ret
        rw [HE.out, ← htr.out]
        exact ⟨_, _, _, rfl, HO.out.seesF, HO.out.cap, HO.out.capMax, HB.out⟩
set_option maxRecDepth 20000 in
theorem specRank_any (W : World) (a : Option Addr) (len cap : Nat) (ms : List (List Int)) (cols : Int) (hsm : SmallM ms) (hn : -9223372036854775808 ≤ cols) (hm : cols ≤ 9223372036854775807) (hs : SeesM W a len ms) :
    Calls Try.prog 28 #[.slice a len cap, .int .i64 cols] W fun e w' => e = .returned (.int .i64 ((rrV ms cols).length : Int)) ∧ Below W.heap.size W w' := by
  have HS := Lib.hid hs
  have HSM := Lib.hid hsm
  clear hs hsm
  go_enter Try.func28, Try.ntmps28
  go_wp2_with (go_at_call 25; refine (specRR_any _ a len cap ms cols HSM.out hn hm HS.out).mono ?_; rintro e w1 ⟨a1, l1, c1, rfl, hs1, _, _, hb1⟩; have HL1 := Lib.hid hs1.1; have HB1 := Lib.hid hb1; clear hs1 hb1)
  go_ret
  exact ⟨ret_intV (by rw [HL1.out]), HB1.out⟩
end Go.Proofs.Ytbclnklejleobaa
