/- Whether a path is one (the program's), and the row of a path. -/
import Derived.Test.YtjckcggjmcaaoaaNetH
namespace Go.Proofs.Ytjckcggjmcaaoaa
open Go.RowKit
theorem path_neg {ls : List (Int × Int)} {p : List Int} {a b : Int} (h1 : ¬ p.length = 0) (h2 : ¬ 0 ≤ b) : isPathB ls p a b = false := by
  unfold isPathB
  rw [decide_eq_false h1, decide_eq_false h2]
  simp
theorem path_pos {ls : List (Int × Int)} {p : List Int} {a b : Int} (h : 0 ≤ b ∨ p.length = 0) : isPathB ls p a b = (decide p.Nodup && decide (endV ls p a = b)) := by
  unfold isPathB
  have : (decide (0 ≤ b) || decide (p.length = 0)) = true := by rcases h with h | h <;> simp [h]
  rw [this, Bool.and_true]
set_option maxRecDepth 20000 in
set_option maxHeartbeats 1600000 in
theorem pathP_any (W : World) (n : Int) (a : Option Addr) (len cap : Nat) (ls : List (Int × Int)) (b : Option Addr) (lp cp : Nat) (p : List Int) (v0 v1 : Int) (hl : len ≤ 1073741824) (hs : SeesL W a len ls) (hlp : lp ≤ 1073741824) (hp : Sees .i64 W b lp p) :
    Calls Try.prog 29 #[.agg #[.int .i64 n, .slice a len cap], .slice b lp cp, .int .i64 v0, .int .i64 v1] W fun e w' => e = .returned (.bool (isPathB ls p v0 v1)) ∧ Below W.heap.size W w' := by
  have HPL := Lib.hid hp.1
  obtain ⟨V, hV⟩ : ∃ V, V = W.alloc (.cells #[.int .i64 n, .slice a len cap] 26) := ⟨_, rfl⟩
  have HBV : Hid (Below W.heap.size W V) := Lib.hid (by rw [hV]; exact below_new _ _)
  have HN := Lib.hid (show NetAt V W.heap.size n a len cap by rw [hV]; exact net_new _ _ _ _ _ _)
  have HS := Lib.hid (hs.below HBV.out)
  have HP := Lib.hid (hp.below HBV.out)
  clear hs hp
  obtain ⟨v, hv⟩ : ∃ v : Bool, v = isPathB ls p v0 v1 := ⟨_, rfl⟩
  rw [← hv]
  have HV := Lib.hid hv
  clear hv
  by_cases hA : ¬ lp = 0 ∧ ¬ 0 ≤ v1
  · obtain ⟨hA1, hA2⟩ := hA
    have HE : Hid (v = false) := Lib.hid (by rw [HV.out]; exact path_neg (by rw [HPL.out]; exact hA1) hA2)
    have h1 : 0 < lp := by omega
    have h2 : v1 < 0 := by omega
    go_enter Try.func29, Try.ntmps29
    go_wp2_with fail
    go_ret
    exact ⟨ret_bool HE.out.symm, by rw [← hV]; exact HBV.out⟩
  · have HE : Hid (v = (decide p.Nodup && decide (endV ls p v0 = v1))) := Lib.hid (by rw [HV.out]; exact path_pos (by rw [HPL.out]; omega))
    have main : ∀ V2 : World, Below V.heap.size V V2 → True := fun _ _ => trivial
    clear main
    cases hd : decide p.Nodup
    · have HD : Hid ((!decide p.Nodup) = true) := Lib.hid (by rw [hd]; rfl)
      have HX : Hid (v = false) := Lib.hid (by rw [HE.out, hd]; rfl)
      clear hd
      by_cases h0 : lp = 0
      · subst h0
        go_enter Try.func29, Try.ntmps29
        go_wp2_with fail
        rw [← hV]
        clear hV
        refine (twice_any V b 0 cp p hlp HP.out).mono ?_
        rw [HD.out]
        rintro e w2 ⟨rfl, hb2⟩
        have HB2 := Lib.hid (below_up HBV.out hb2 (Nat.le_refl _))
        clear hb2
        go_wp2
        go_ret
        exact ⟨ret_bool HX.out.symm, HB2.out⟩
      · have h1 : 0 < lp := by omega
        have h2 : ¬ v1 < 0 := by omega
        clear hA
        go_enter Try.func29, Try.ntmps29
        go_wp2_with fail
        rw [← hV]
        clear hV
        refine (twice_any V b lp cp p hlp HP.out).mono ?_
        rw [HD.out]
        rintro e w2 ⟨rfl, hb2⟩
        have HB2 := Lib.hid (below_up HBV.out hb2 (Nat.le_refl _))
        clear hb2
        go_wp2
        go_ret
        exact ⟨ret_bool HX.out.symm, HB2.out⟩
    · have HD : Hid ((!decide p.Nodup) = false) := Lib.hid (by rw [hd]; rfl)
      obtain ⟨q, hq⟩ : ∃ q, endV ls p v0 = q := ⟨_, rfl⟩
      have HX : Hid (v = decide (q = v1)) := Lib.hid (by rw [HE.out, hd, hq]; rfl)
      have HQ := Lib.hid hq
      clear hd hq
      by_cases h0 : lp = 0
      · subst h0
        go_enter Try.func29, Try.ntmps29
        go_wp2_with fail
        rw [← hV]
        clear hV
        refine (twice_any V b 0 cp p hlp HP.out).mono ?_
        rw [HD.out]
        rintro e w2 ⟨rfl, hb2⟩
        have HB2 := Lib.hid (below_up HBV.out hb2 (Nat.le_refl _))
        have HN2 := Lib.hid (HN.out.below hb2)
        have HS2 := Lib.hid (HS.out.below hb2)
        have HP2 := Lib.hid (HP.out.below hb2)
        have c0 := HN2.out.c0
        have c1 := HN2.out.c1
        clear hb2
        go_wp2_with (go_at_call 45; refine (endP_any _ n a len cap ls b 0 cp p v0 hl HS2.out hlp HP2.out).mono ?_; rw [HQ.out]; rintro e w3 ⟨rfl, hb3⟩; have HB3 := Lib.hid (below_up HB2.out hb3 (Nat.le_refl _)); clear hb3)
        go_ret
        exact ⟨by rw [HX.out]; by_cases h : q = v1 <;> simp [h], HB3.out⟩
      · have h1 : 0 < lp := by omega
        have h2 : ¬ v1 < 0 := by omega
        clear hA
        go_enter Try.func29, Try.ntmps29
        go_wp2_with fail
        rw [← hV]
        clear hV
        refine (twice_any V b lp cp p hlp HP.out).mono ?_
        rw [HD.out]
        rintro e w2 ⟨rfl, hb2⟩
        have HB2 := Lib.hid (below_up HBV.out hb2 (Nat.le_refl _))
        have HN2 := Lib.hid (HN.out.below hb2)
        have HS2 := Lib.hid (HS.out.below hb2)
        have HP2 := Lib.hid (HP.out.below hb2)
        have c0 := HN2.out.c0
        have c1 := HN2.out.c1
        clear hb2
        go_wp2_with (go_at_call 45; refine (endP_any _ n a len cap ls b lp cp p v0 hl HS2.out hlp HP2.out).mono ?_; rw [HQ.out]; rintro e w3 ⟨rfl, hb3⟩; have HB3 := Lib.hid (below_up HB2.out hb3 (Nat.le_refl _)); clear hb3)
        go_ret
        exact ⟨by rw [HX.out]; by_cases h : q = v1 <;> simp [h], HB3.out⟩
/-! The row of a path. -/
def rowL (p : List Int) (m : Nat) : List Int := (List.range m).map fun (i : Nat) => if hasB p (i : Int) = true then 1 else 0
def rowA (p : List Int) (n : Int) : List Int := if inR n 1 6 = true then rowL p n.toNat else []
theorem rowL_len (p : List Int) (m : Nat) : (rowL p m).length = m := by simp [rowL]
theorem rowL_next (p : List Int) (k : Nat) : rowL p k ++ [if hasB p (k : Int) = true then 1 else 0] = rowL p (k + 1) := by
  unfold rowL
  rw [List.range_succ, List.map_append]
  rfl
theorem rowL_nil (m : Nat) : rowL [] m = List.replicate m 0 := by
  apply List.ext_getElem
  · simp [rowL]
  · intro i h1 h2
    simp [rowL, hasB]
theorem hasB_next {p : List Int} {k : Nat} (hk : k < p.length) (x : Int) : hasB (p.take (k + 1)) x = (hasB (p.take k) x || decide (x = p.getD k 0)) := by
  have e : p.take (k + 1) = p.take k ++ [p.getD k 0] := by rw [List.take_add_one]; simp [List.getD, hk]
  unfold hasB
  rw [e, ← Bool.decide_or]
  refine decide_eq_decide.2 ?_
  rw [List.mem_append, List.mem_singleton]
theorem rowL_skip {p : List Int} {k m : Nat} (hk : k < p.length) (h : inR (p.getD k 0) 0 ((m : Int) - 1) = false) : rowL (p.take (k + 1)) m = rowL (p.take k) m := by
  unfold rowL
  refine List.map_congr_left fun i hi => ?_
  have hi := List.mem_range.1 hi
  have hne : ¬ (i : Int) = p.getD k 0 := fun e => by
    rw [← e] at h
    have := inR_false.1 h
    omega
  rw [hasB_next hk, decide_eq_false hne, Bool.or_false]
theorem rowL_set {p : List Int} {k m y : Nat} (hk : k < p.length) (h : p.getD k 0 = (y : Int)) : rowL (p.take (k + 1)) m = (rowL (p.take k) m).set y 1 := by
  apply List.ext_getElem
  · simp [rowL]
  · intro i h1 h2
    simp only [rowL, List.getElem_map, List.getElem_range, List.getElem_set]
    rw [hasB_next hk, h]
    by_cases e : y = i
    · subst e; simp
    · have : ¬ (i : Int) = (y : Int) := by omega
      simp [e, this]
theorem rowL_bits (p : List Int) (m : Nat) : ∀ x ∈ rowL p m, (Lit.int .i64 x).wf = true := fun x hx => by
  obtain ⟨i, _, rfl⟩ := List.mem_map.1 hx
  split <;> decide
set_option maxRecDepth 20000 in
set_option maxHeartbeats 1600000 in
theorem rowP_any (W : World) (a : Option Addr) (len cap : Nat) (p : List Int) (n : Int) (hl : len ≤ 1073741824) (hs : Sees .i64 W a len p) :
    Calls Try.prog 32 #[.slice a len cap, .int .i64 n] W (Made .i64 3 (rowA p n) W) := by
  have HS := Lib.hid hs
  have HL := Lib.hid hs.1
  clear hs
  obtain ⟨i0, hi, hz0, hz1, hz2⟩ := info_parts info_i64
  cases hin : inR n 1 6
  · have HE : Hid (rowA p n = []) := Lib.hid (by unfold rowA; rw [hin]; rfl)
    rw [HE.out]
    have HIN := Lib.hid hin
    clear hin
    go_enter Try.func32, Try.ntmps32
    go_wp2_with (go_at_call 46; refine (inRange_any _ _ _ _).mono ?_; rw [HIN.out]; rintro e w' ⟨rfl, rfl⟩)
    go_ret
    exact ⟨_, _, _, rfl, (own_nil _ _ _).wide (Nat.le_refl _) (by simp) (Nat.le_refl _), below_new _ _⟩
  · have hb := inR_true.1 hin
    obtain ⟨m, rfl⟩ : ∃ m : Nat, n = m := ⟨n.toNat, by omega⟩
    have hm6 : m ≤ 6 := by omega
    have HE : Hid (rowA p (m : Int) = rowL p m) := Lib.hid (by unfold rowA; rw [hin]; simp)
    rw [HE.out]
    have HIN := Lib.hid hin
    clear hin hb
    go_enter Try.func32, Try.ntmps32
    go_wp2_with (first
      | (go_at_call 46; refine (inRange_any _ _ _ _).mono ?_; rw [HIN.out]; rintro e w' ⟨rfl, rfl⟩)
      | (at_make; refine wpList_make_full _ rfl _ _ 27 rfl W.heap.size 3 i0 (.int .i64 0) 1 Try.underlying27 hi hz0 hz1 _ _ _ _ m rfl rfl rfl rfl (by rw [hz2]; omega) (by unfold maxLen; omega) (by simp) ?_; intro w1 hown1 hgrow1; have HO1 := Lib.hid (made_row .i64 w1 _ m _ _ hown1); have HB1 := Lib.hid ((Below.refl W.heap.size W).grown hgrow1 (Nat.le_refl _) (fun k e => by cases e)); clear hown1 hgrow1))
    go_loopw [16, 7] (fun i _ wr => ∃ k : Nat, k ≤ len ∧ i = .int .i64 k ∧ Own .i64 3 wr W.heap.size w1.heap.size (some ⟨W.heap.size, 0, none⟩) m m (rowL (p.take k) m) ∧ Below W.heap.size W wr) (fun i _ _ => len - (intOf i).toNat)
    case atStart => exact ⟨0, Nat.zero_le _, rfl, by rw [List.take_zero, rowL_nil]; exact HO1.out, HB1.out⟩
    case round =>
      obtain ⟨k, hk, rfl, ho, hb⟩ := hrel
      have HO := Lib.hid ho
      have HB := Lib.hid hb
      by_cases hlt : k < len
      · rcases HS.out.2.2 with h0 | ⟨b1, o1, rfl, hb1, hc1⟩
        · omega
        have hx := (hb.cell (p := ⟨b1, o1 + k, none⟩) hb1).trans (hc1 k hlt)
        have hkp : k < p.length := by rw [HL.out]; exact hlt
        obtain ⟨y, hy⟩ : ∃ y, p.getD k 0 = y := ⟨_, rfl⟩
        rw [hy] at hx
        have HY := Lib.hid hy
        clear hc1 hy hb ho
        cases hin : inR y 0 ((m : Int) - 1)
        · have HIN2 := Lib.hid hin
          clear hin
          go_wp2_with (go_at_call 46; refine (inRange_any _ _ _ _).mono ?_; rw [HIN2.out]; rintro e w' ⟨rfl, rfl⟩)
          go_roundw
          case rel => exact ⟨k + 1, by omega, by go_num, by rw [rowL_skip hkp (by rw [HY.out]; exact HIN2.out)]; exact HO.out, HB.out⟩
          case measure => simp [intOf]; omega
        · have hyb := inR_true.1 hin
          obtain ⟨z, rfl⟩ : ∃ z : Nat, y = z := ⟨y.toNat, by omega⟩
          have hzm : z < m := by omega
          have i0z : (0 : Int) ≤ (z : Int) := by omega
          have i1z : (z : Int) < (m : Int) := by omega
          rcases HO.out.spot with ⟨h0, _⟩ | ⟨g, hg, _, _, _, _, hcz, hfz⟩
          · cases h0
          cases hg
          have hcd := hcz z hzm
          have hfd := hfz z
          have HIN2 := Lib.hid hin
          clear hin hyb hcz hfz
          go_wp2_with (go_at_call 46; refine (inRange_any _ _ _ _).mono ?_; rw [HIN2.out]; rintro e w' ⟨rfl, rfl⟩)
          go_roundw
          case rel =>
            have hst := HO.out.stored z 1 (by decide)
            rw [← rowL_set hkp HY.out] at hst
            exact ⟨k + 1, by omega, by go_num, hst.1, below_moved HB.out hst.2 (Nat.le_refl _) (Nat.le_refl _)⟩
          case measure => simp [intOf]; omega
      · obtain rfl : k = len := by omega
        have HX : Hid (p.take k = p) := Lib.hid (List.take_of_length_le (by rw [HL.out]; exact Nat.le_refl _))
        clear ho hb
        go_wp2
        go_ret
        exact ⟨_, _, _, rfl, by have h := HO.out; rw [HX.out] at h; exact h.wide (Nat.le_refl _) h.2.2.1 (Nat.le_refl _), HB.out⟩
end Go.Proofs.Ytjckcggjmcaaoaa
