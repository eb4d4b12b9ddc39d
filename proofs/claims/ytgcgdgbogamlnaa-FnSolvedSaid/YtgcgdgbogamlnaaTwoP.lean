/- Systems: two solutions; the model's TwoSolutions. -/
import Derived.Test.YtgcgdgbogamlnaaDotS
import Derived.Test.YtgcgdgbogamlnaaSysR
import Derived.Test.YtgcgdgbogamlnaaSolP
namespace Go.Proofs.Ytgcgdgbogamlnaa
open Go.RowKit
/-- Whether there are two solutions with different sums. -/
def twoB (ms : List (List Int)) (vs z : List Int) : Bool := solvB ms vs (z.length : Int) && decide (nullV ms z ≠ [])
def twoX (ms : List (List Int)) (vs z : List Int) : List (Int × Int) := if twoB ms vs z = true then solL ms vs (z.length : Int) else []
def twoY (ms : List (List Int)) (vs z : List Int) : List (Int × Int) := if twoB ms vs z = true then plusL (solL ms vs (z.length : Int)) (nullV ms z) z.length else []
theorem two_no1 {ms : List (List Int)} {vs z : List Int} (h : solvB ms vs (z.length : Int) = false) : twoB ms vs z = false ∧ twoX ms vs z = [] ∧ twoY ms vs z = [] := by
  have : twoB ms vs z = false := by unfold twoB; rw [h]; rfl
  exact ⟨this, by unfold twoX; rw [this]; rfl, by unfold twoY; rw [this]; rfl⟩
theorem two_no2 {ms : List (List Int)} {vs z : List Int} (h : nullV ms z = []) : twoB ms vs z = false ∧ twoX ms vs z = [] ∧ twoY ms vs z = [] := by
  have : twoB ms vs z = false := by unfold twoB; rw [h, decide_eq_false (fun e => e rfl), Bool.and_false]
  exact ⟨this, by unfold twoX; rw [this]; rfl, by unfold twoY; rw [this]; rfl⟩
theorem two_yes {ms : List (List Int)} {vs z : List Int} (h1 : solvB ms vs (z.length : Int) = true) (h2 : nullV ms z ≠ []) : twoB ms vs z = true ∧ twoX ms vs z = solL ms vs (z.length : Int) ∧ twoY ms vs z = plusL (solL ms vs (z.length : Int)) (nullV ms z) z.length := by
  have : twoB ms vs z = true := by unfold twoB; rw [h1, decide_eq_true h2]; rfl
  exact ⟨this, by unfold twoX; rw [this]; rfl, by unfold twoY; rw [this]; rfl⟩
theorem two_math {ms : List (List Int)} {vs z : List Int} (h1 : solvB ms vs (z.length : Int) = true) (h2 : nullV ms z ≠ []) :
    ∃ (D : Int) (X : Nat → Int), Solved z.length ms vs (solL ms vs (z.length : Int)) D X ∧ D ≤ 3840 ∧ (∀ k, (X k).natAbs ≤ 1920000) ∧ (∀ k, k < z.length → AddOk ((solL ms vs (z.length : Int)).getD k (0, 0)).1 ((solL ms vs (z.length : Int)).getD k (0, 0)).2 (vec (nullV ms z) k) 1) ∧
      Solved z.length ms vs (plusL (solL ms vs (z.length : Int)) (nullV ms z) z.length) D (fun k => X k + vec (nullV ms z) k * D) ∧ ∀ k, (X k + vec (nullV ms z) k * D).natAbs ≤ 80000000 := by
  obtain ⟨c, o, hA⟩ := aug_red2 (aug_ok (solv_sys h1))
  obtain ⟨_, D, X, hs, _, _, h5⟩ := hA.solved (solv_good h1)
  have hn := null_ok h2
  have hne : ∃ j, j < z.length ∧ vec (nullV ms z) j ≠ 0 := by
    rcases Classical.em (∃ j, j < z.length ∧ vec (nullV ms z) j ≠ 0) with h | h
    · exact h
    · exact absurd (sumN_zero fun j hj => by rw [show vec (nullV ms z) j = 0 from Classical.byContradiction fun e => h ⟨j, hj, e⟩, Int.mul_zero]) hn.tells
  obtain ⟨hD, hX⟩ := h5 (hA.few hn.rows hne)
  rw [← solL_yes h1] at hs
  obtain ⟨p1, p2, p3⟩ := hs.plus hD hX hn.small hn.rows
  exact ⟨D, X, hs, hD, hX, p1, p2, p3⟩
/-- Two lists of the call's own. -/
def MadeTwo (xs ys : List (Int × Int)) (ok : Bool) (W : World) (e : Ending) (w' : World) : Prop :=
  ∃ a len cap a2 len2 cap2 H, e = .returned (.tuple #[.slice a len cap, .slice a2 len2 cap2, .bool ok]) ∧ W.heap.size ≤ H ∧ H ≤ w'.heap.size ∧ OwnR w' W.heap.size H a len cap xs ∧ OwnR w' H w'.heap.size a2 len2 cap2 ys ∧ Below W.heap.size W w'
theorem twoEmpty (W w : World) (h : W.heap.size ≤ w.heap.size) (hb : Below W.heap.size W w) : OwnR ((w.alloc (.cells #[] 34)).alloc (.cells #[] 34)) W.heap.size (w.heap.size + 1) (some ⟨w.heap.size, 0, none⟩) 0 0 [] ∧ OwnR ((w.alloc (.cells #[] 34)).alloc (.cells #[] 34)) (w.heap.size + 1) ((w.alloc (.cells #[] 34)).alloc (.cells #[] 34)).heap.size (some ⟨w.heap.size + 1, 0, none⟩) 0 0 [] ∧ Below W.heap.size W ((w.alloc (.cells #[] 34)).alloc (.cells #[] 34)) := by
  refine ⟨((ownR_nil w).alloc _).wide h (Nat.le_refl _) (by simp), ?_, (hb.alloc h _).alloc (by simp; omega) _⟩
  have := ownR_nil (w.alloc (.cells #[] 34))
  rw [World.size_alloc] at this
  exact this.wide (Nat.le_refl _) (by simp) (Nat.le_refl _)
theorem plusL_snoc (xs : List (Int × Int)) (v : List Int) {k : Nat} {c d n x y : Int} (h : xs.getD k (0, 0) = (c, d)) (hn : n = vec v k) (hx : x = addN c d n 1) (hy : y = addD c d n 1) : plusL xs v k ++ [(x, y)] = plusL xs v (k + 1) := by
  subst hn hx hy
  rw [plusL, h]
set_option maxRecDepth 20000 in
set_option maxHeartbeats 3200000 in
theorem specTwo_any (W : World) (a : Option Addr) (len cap : Nat) (ms : List (List Int)) (b : Option Addr) (lb cb : Nat) (vs : List Int) (c : Option Addr) (lc cc : Nat) (z : List Int) (hsm : SmallM ms) (hs : SeesM W a len ms) (hl : lb ≤ 1073741824) (hs2 : Sees .i64 W b lb vs) (hlc : lc ≤ 1073741824) (hcc : lc ≤ cc) (hcx : cc ≤ maxLen) (hs3 : Sees .i64 W c lc z) :
    Calls Try.prog 38 #[.slice a len cap, .slice b lb cb, .slice c lc cc] W (MadeTwo (twoX ms vs z) (twoY ms vs z) (twoB ms vs z) W) := by
  have HS := Lib.hid hs
  have HSM := Lib.hid hsm
  have HV := Lib.hid hs2
  have HZ := Lib.hid hs3
  have HZL := Lib.hid hs3.1
  have HCX := Lib.hid hcx
  clear hs hsm hs2 hs3 hcx
  cases hsol : solvB ms vs (lc : Int)
  · have HY := Lib.hid hsol
    have HE := Lib.hid (two_no1 (ms := ms) (vs := vs) (z := z) (by rw [HZL.out]; exact hsol))
    clear hsol
    go_enter Try.func38, Try.ntmps38
    go_wp2_with (first
      | (go_at_call 13; refine (specSol_any _ _ _ _ ms _ _ _ vs (lc : Int) HSM.out HS.out hl HV.out (by omega) (by omega)).mono ?_; rintro e w2 ⟨a2, l2, c2, he2, ho2, hb2⟩; rw [HY.out] at he2; subst he2; have HB2 := Lib.hid hb2; clear hb2 ho2)
      | (go_at_call 71; refine (specNV_any _ _ _ _ ms _ _ _ z HSM.out (HS.out.below HB2.out) hlc hcc HCX.out (HZ.out.below HB2.out)).mono ?_; rintro e w3 ⟨a3, l3, c3, rfl, ho3, hb3⟩; have HB3 := Lib.hid (below_up HB2.out hb3 (Nat.le_refl _)); clear hb3 ho3))
    obtain ⟨e1, e2, e3⟩ := twoEmpty W w3 HB3.out.size HB3.out
    go_ret3
    exact ⟨_, _, _, _, _, _, w3.heap.size + 1, by rw [HE.out.1]; rfl, by have := HB3.out.size; omega, by simp, by rw [HE.out.2.1]; exact e1, by rw [HE.out.2.2]; exact e2, e3⟩
  · have HY := Lib.hid hsol
    by_cases hnl : nullV ms z = []
    · have HE := Lib.hid (two_no2 (ms := ms) (vs := vs) (z := z) hnl)
      have HNL := Lib.hid hnl
      clear hsol hnl
      go_enter Try.func38, Try.ntmps38
      go_wp2_with (first
        | (go_at_call 13; refine (specSol_any _ _ _ _ ms _ _ _ vs (lc : Int) HSM.out HS.out hl HV.out (by omega) (by omega)).mono ?_; rintro e w2 ⟨a2, l2, c2, he2, ho2, hb2⟩; rw [HY.out] at he2; subst he2; have HB2 := Lib.hid hb2; clear hb2 ho2)
        | (go_at_call 71; refine (specNV_any _ _ _ _ ms _ _ _ z HSM.out (HS.out.below HB2.out) hlc hcc HCX.out (HZ.out.below HB2.out)).mono ?_; rintro e w3 ⟨a3, l3, c3, rfl, ho3, hb3⟩; have HB3 := Lib.hid (below_up HB2.out hb3 (Nat.le_refl _)); have hl3 : l3 = 0 := (by have h := ho3.1; rw [HNL.out] at h; exact h.symm); subst hl3; clear hb3 ho3))
      obtain ⟨e1, e2, e3⟩ := twoEmpty W w3 HB3.out.size HB3.out
      go_ret3
      exact ⟨_, _, _, _, _, _, w3.heap.size + 1, by rw [HE.out.1]; rfl, by have := HB3.out.size; omega, by simp, by rw [HE.out.2.1]; exact e1, by rw [HE.out.2.2]; exact e2, e3⟩
    · have HE := Lib.hid (two_yes (ms := ms) (vs := vs) (z := z) (by rw [HZL.out]; exact hsol) hnl)
      obtain ⟨_, _, _, _, _, hadd, _⟩ := two_math (ms := ms) (vs := vs) (z := z) (by rw [HZL.out]; exact hsol) hnl
      have hxl : (solL ms vs (lc : Int)).length = lc := solL_len hsol
      have hq6 : lc ≤ 6 := (aug_ok (solv_sys hsol)).fine.q6
      have hq1 : 1 ≤ lc := (aug_ok (solv_sys hsol)).q1
      have hvl : (nullV ms z).length = lc := (null_ok hnl).len.trans HZL.out
      rw [HZL.out] at hadd HE
      obtain ⟨xs, hxs⟩ : ∃ xs, xs = solL ms vs (lc : Int) := ⟨_, rfl⟩
      obtain ⟨v, hv⟩ : ∃ v, v = nullV ms z := ⟨_, rfl⟩
      rw [← hxs, ← hv] at hadd HE
      rw [← hxs] at hxl
      rw [← hv] at hvl
      have HXS := Lib.hid hxs
      have HVS := Lib.hid hv
      have HAD := Lib.hid hadd
      rw [HE.out.1, HE.out.2.1, HE.out.2.2]
      clear hsol hnl hadd hxs hv
      go_enter Try.func38, Try.ntmps38
      go_wp2_with (first
        | (go_at_call 13; refine (specSol_any _ _ _ _ ms _ _ _ vs (lc : Int) HSM.out HS.out hl HV.out (by omega) (by omega)).mono ?_; rintro e w2 ⟨a2, l2, c2, he2, ho2, hb2⟩; rw [HY.out] at he2; subst he2; rw [← HXS.out] at ho2; have hl2 : lc = l2 := hxl.symm.trans ho2.1; subst hl2; have HO2 := Lib.hid ho2; have HB2 := Lib.hid hb2; clear hb2 ho2)
        | (go_at_call 71; refine (specNV_any _ _ _ _ ms _ _ _ z HSM.out (HS.out.below HB2.out) hlc hcc HCX.out (HZ.out.below HB2.out)).mono ?_; rintro e w3 ⟨a3, l3, c3, rfl, ho3, hb3⟩; rw [← HVS.out] at ho3; have hl3 : lc = l3 := hvl.symm.trans ho3.1; subst hl3; have hl0 : ¬ (lc : Int) = 0 := (by omega); have hl0b : ((lc : Int) == 0) = false := beq_eq_false_iff_ne.2 hl0; have HO3 := Lib.hid ho3; have HB3x := Lib.hid hb3; have HB3 := Lib.hid (below_up HB2.out hb3 (Nat.le_refl _)); have HX3 := Lib.hid (HO2.out.below hb3); clear hb3 ho3))
      obtain ⟨i0, hi, hz0, hz1, hz2⟩ := info_parts info_rat
      go_loopw [13, 12, 14, 15] (fun i y _ _ wr => ∃ (k : Nat) (a' : Option Addr) (c' : Nat), k ≤ lc ∧ i = .int .i64 k ∧ y = .slice a' k c' ∧ OwnR wr w3.heap.size wr.heap.size a' k c' (plusL xs v k) ∧ Below w3.heap.size w3 wr) (fun i _ _ _ _ => lc - (intOf i).toNat)
      case atStart => exact ⟨0, _, _, Nat.zero_le _, rfl, rfl, (ownR_nil w3).wide (Nat.le_refl _) (by simp) (Nat.le_refl _), (Below.refl _ _).alloc (Nat.le_refl _) _⟩
      case round =>
        obtain ⟨k, a', c', hk, rfl, rfl, ho, hb⟩ := hrel
        have HO := Lib.hid ho
        have HB := Lib.hid hb
        have hsz := hb.size
        by_cases hlt : k < lc
        · have hk0 := hlt
          rcases HX3.out.sees.2.2 with h00 | ⟨b1, o1, rfl, hb10, hc1⟩
          · omega
          rcases HO3.out.sees.2.2 with h00 | ⟨b2, o2, rfl, hb20, hc2⟩
          · omega
          have hx0 := (hb.cell (p := ⟨b1, o1 + k * 2, none⟩) hb10).trans (hc1 k hlt).1
          have hx1 := (hb.cell (p := ⟨b1, o1 + k * 2 + 1, none⟩) hb10).trans (hc1 k hlt).2
          have hv0 := (hb.cell (p := ⟨b2, o2 + k, none⟩) hb20).trans (hc2 k hlt)
          have hb1 := Nat.lt_of_lt_of_le hb10 hb.size
          have hb2 := Nat.lt_of_lt_of_le hb20 hb.size
          have hfit := HX3.out.2.1 _ (getR_mem (l := xs) (j := k) (by rw [hxl]; exact hlt))
          have hvwf := HO3.out.2.1 _ (getD_mem (l := v) (j := k) (by rw [hvl]; exact hlt))
          obtain ⟨n, hn⟩ : ∃ n, n = v.getD k 0 := ⟨_, rfl⟩
          rw [← hn] at hv0 hvwf
          obtain ⟨c0, d0, hcd⟩ : ∃ c d, xs.getD k (0, 0) = (c, d) := ⟨_, _, rfl⟩
          have hadd := HAD.out k hlt
          have hnv : n = vec v k := hn
          rw [hcd, ← hnv] at hadd
          rw [hcd] at hx0 hx1 hfit
          obtain ⟨x, hx⟩ : ∃ x, x = addN c0 d0 n 1 := ⟨_, rfl⟩
          obtain ⟨y, hy⟩ : ∃ y, y = addD c0 d0 n 1 := ⟨_, rfl⟩
          have HX := Lib.hid hx
          have HYY := Lib.hid hy
          have HA : Hid (true = addOk c0 d0 n 1) := Lib.hid (decide_eq_true hadd).symm
          have HI := Lib.hid (show IsI64 c0 ∧ IsI64 d0 ∧ IsI64 n from ⟨bounds_i64 hfit.1, bounds_i64 hfit.2, bounds_i64 hvwf⟩)
          have hxyw := addN_i64 c0 d0 n 1
          rw [← hx, ← hy] at hxyw
          have HWF : Hid ((Lit.int .i64 x).wf = true ∧ (Lit.int .i64 y).wf = true) := Lib.hid ⟨WalkArith.wf_i64 (by have := hxyw.1; unfold IsI64 at this; omega), WalkArith.wf_i64 (by have := hxyw.2; unfold IsI64 at this; omega)⟩
          have HSN := Lib.hid (plusL_snoc xs v hcd hnv hx hy)
          have HC0 := Lib.hid hx0
          have HC1 := Lib.hid hx1
          have HC2 := Lib.hid hv0
          have i0k : (0 : Int) ≤ (k : Int) := by omega
          have i1k : (k : Int) < (lc : Int) := by omega
          have ne1 := World.new_ne wr _ hx0
          have ne2 := World.new_ne wr _ hx1
          have ne3 := World.new_ne wr _ hv0
          clear hc1 hc2 hn hcd hnv hadd hx hy hxyw hfit hvwf ho hb hk0 hb10 hb20
          go_wp2_with fail
          go_region_held3 (fun w' => w'.cell? ⟨b1, o1 + k * 2, none⟩ = some (.int .i64 c0) ∧ w'.cell? ⟨b1, o1 + k * 2 + 1, none⟩ = some (.int .i64 d0) ∧ w'.cell? ⟨b2, o2 + k, none⟩ = some (.int .i64 n)) (go_keep) (first
            | (go_at_call 72; refine (sAddV_any c0 d0 n 1 x y true _ HX.out HYY.out HA.out).mono ?_; rintro e w4 ⟨rfl, hb4⟩; have G4 := Lib.hid (below_up (w0 := wr) (by first | exact (Below.refl _ _).drew | exact ((Below.refl wr.heap.size wr).alloc (Nat.le_refl _) _).drew) hb4 (Nat.le_refl _)); have k1 := (G4.out.cell (p := ⟨b1, o1 + k * 2, none⟩) hb1).trans HC0.out; have k2 := (G4.out.cell (p := ⟨b1, o1 + k * 2 + 1, none⟩) hb1).trans HC1.out; have k3 := (G4.out.cell (p := ⟨b2, o2 + k, none⟩) hb2).trans HC2.out; have P4 := Lib.hid (((pair_new wr 0 0 34).drew).below hb4); have q0 := P4.out.c0; have q1 := P4.out.c1; have qf0 := P4.out.f0; have qf1 := P4.out.f1; clear hb4)
            | (go_at_call 72; refine (sAddV_any c0 d0 n 1 x y true _ HX.out HYY.out HA.out).mono ?_; rintro e w4 ⟨rfl, hb4⟩; have G4 := Lib.hid (below_up (w0 := wr) (by first | exact (Below.refl _ _).drew | exact ((Below.refl wr.heap.size wr).alloc (Nat.le_refl _) _).drew) hb4 (Nat.le_refl _)); have k1 := (G4.out.cell (p := ⟨b1, o1 + k * 2, none⟩) hb1).trans HC0.out; have k2 := (G4.out.cell (p := ⟨b1, o1 + k * 2 + 1, none⟩) hb1).trans HC1.out; have k3 := (G4.out.cell (p := ⟨b2, o2 + k, none⟩) hb2).trans HC2.out; clear hb4))
          · obtain ⟨V, hV⟩ : ∃ V, V = w4.alloc (.cells #[.int .i64 x, .int .i64 y] 34) := ⟨_, rfl⟩
            have HG : Hid (Below wr.heap.size wr V) := Lib.hid (by rw [hV]; exact G4.out.alloc G4.out.size _)
            have HP : Hid (PairAt V w4.heap.size x y) := Lib.hid (by rw [hV]; exact pair_new _ _ _ _)
            rw [← hV]
            clear hV
            have y0 := HP.out.c0
            have y1 := HP.out.c1
            have HO5 := Lib.hid (HO.out.below HG.out)
            have hszV := HG.out.size
            go_wp2_with (at_builtin; refine wp_append_seesR rfl _ _ 28 rfl i0 Try.underlying28 hi hz0 hz1 hz2 _ _ _ _ rfl _ _ (HO5.out.alloc _) _ 1 1 [(x, y)] rfl (seesR_one HWF.out.1 HWF.out.2 _ _) (by unfold maxLen; omega) (by omega) (by simp; omega) ?_; intro a6 len6 cap6 w6 hlen6 ho6 hm6; subst hlen6; have HO6 := Lib.hid ho6; have HB6 := Lib.hid (below_moved (((HB.out.trans (HG.out.mono hsz)).alloc (by omega)) _) hm6 (Nat.le_refl _) (Nat.le_refl _)); clear ho6 hm6)
            go_roundw
            case rel => exact ⟨k + 1, _, _, by omega, by go_num, rfl, by rw [← HSN.out]; exact HO6.out, HB6.out⟩
            case measure => simp [intOf]; omega
          · obtain ⟨V, hV⟩ : ∃ V, V = (w4.setCell ⟨wr.heap.size, 0, none⟩ (.int .i64 x)).setCell ⟨wr.heap.size, 1, none⟩ (.int .i64 y) := ⟨_, rfl⟩
            have HG : Hid (Below wr.heap.size wr V) := Lib.hid (by rw [hV]; exact below_put G4.out (Nat.le_refl _) _ _)
            have HP : Hid (PairAt V wr.heap.size x y) := Lib.hid (by rw [hV]; exact P4.out.put x y)
            rw [← hV]
            clear hV
            have y0 := HP.out.c0
            have y1 := HP.out.c1
            have HO5 := Lib.hid (HO.out.below HG.out)
            have hszV := HG.out.size
            go_wp2_with (at_builtin; refine wp_append_seesR rfl _ _ 28 rfl i0 Try.underlying28 hi hz0 hz1 hz2 _ _ _ _ rfl _ _ (HO5.out.alloc _) _ 1 1 [(x, y)] rfl (seesR_one HWF.out.1 HWF.out.2 _ _) (by unfold maxLen; omega) (by omega) (by simp; omega) ?_; intro a6 len6 cap6 w6 hlen6 ho6 hm6; subst hlen6; have HO6 := Lib.hid ho6; have HB6 := Lib.hid (below_moved (((HB.out.trans (HG.out.mono hsz)).alloc (by omega)) _) hm6 (Nat.le_refl _) (Nat.le_refl _)); clear ho6 hm6)
            go_roundw
            case rel => exact ⟨k + 1, _, _, by omega, by go_num, rfl, by rw [← HSN.out]; exact HO6.out, HB6.out⟩
            case measure => simp [intOf]; omega
        · obtain rfl : k = lc := by omega
          clear ho hb
          go_wp2
          go_ret3
          exact ⟨_, _, _, _, _, _, w3.heap.size, rfl, HB3.out.size, hsz, (HX3.out.below HB.out).wide (Nat.le_refl _) HB3x.out.size hsz, HO.out, HB3.out.trans (HB.out.mono HB3.out.size)⟩
end Go.Proofs.Ytgcgdgbogamlnaa
/- Systems: the program's TwoSolutions. -/
namespace Go.Proofs.Ytgcgdgbogamlnaa
open Go.RowKit
set_option maxRecDepth 20000 in
set_option maxHeartbeats 3200000 in
theorem twoP_any (W : World) (a : Option Addr) (len cap : Nat) (ms : List (List Int)) (b : Option Addr) (lb cb : Nat) (vs : List Int) (c : Option Addr) (lc cc : Nat) (z : List Int) (hsm : SmallM ms) (hs : SeesM W a len ms) (hl : lb ≤ 1073741824) (hcb : lb ≤ cb) (hcm : cb ≤ maxLen) (hs2 : Sees .i64 W b lb vs) (hlc : lc ≤ 1073741824) (hcc : lc ≤ cc) (hcx : cc ≤ maxLen) (hs3 : Sees .i64 W c lc z) :
    Calls Try.prog 17 #[.slice a len cap, .slice b lb cb, .slice c lc cc] W (MadeTwo (twoX ms vs z) (twoY ms vs z) (twoB ms vs z) W) := by
  have HS := Lib.hid hs
  have HSM := Lib.hid hsm
  have HV := Lib.hid hs2
  have HZ := Lib.hid hs3
  have HZL := Lib.hid hs3.1
  have HCX := Lib.hid hcx
  have HCM := Lib.hid hcm
  clear hs hsm hs2 hs3 hcx hcm
  obtain ⟨i0, hi, hz0, hz1, hz2⟩ := info_parts info_rat
  cases hsol : solvB ms vs (lc : Int)
  · have HY := Lib.hid hsol
    have HE := Lib.hid (two_no1 (ms := ms) (vs := vs) (z := z) (by rw [HZL.out]; exact hsol))
    clear hsol
    go_enter Try.func17, Try.ntmps17
    go_wp2_with (first
      | (go_at_call 12; refine (solP_any _ _ _ _ ms _ _ _ vs (lc : Int) HSM.out HS.out hl hcb HCM.out HV.out (by omega) (by omega)).mono ?_; rintro e w2 ⟨a2, l2, c2, he2, ho2, hb2⟩; rw [HY.out] at he2; subst he2; have HB2 := Lib.hid hb2; clear hb2 ho2)
      | (go_at_call 56; refine (nv_any _ _ _ _ ms _ _ _ z HSM.out (HS.out.below HB2.out) hlc hcc HCX.out (HZ.out.below HB2.out)).mono ?_; rintro e w3 ⟨a3, l3, c3, rfl, ho3, hb3⟩; have HB3 := Lib.hid (below_up HB2.out hb3 (Nat.le_refl _)); clear hb3 ho3))
    obtain ⟨e1, e2, e3⟩ := twoEmpty W w3 HB3.out.size HB3.out
    go_ret3
    exact ⟨_, _, _, _, _, _, w3.heap.size + 1, by rw [HE.out.1]; rfl, by have := HB3.out.size; omega, by simp, by rw [HE.out.2.1]; exact e1, by rw [HE.out.2.2]; exact e2, e3⟩
  · have HY := Lib.hid hsol
    by_cases hnl : nullV ms z = []
    · have HE := Lib.hid (two_no2 (ms := ms) (vs := vs) (z := z) hnl)
      have HNL := Lib.hid hnl
      clear hsol hnl
      go_enter Try.func17, Try.ntmps17
      go_wp2_with (first
        | (go_at_call 12; refine (solP_any _ _ _ _ ms _ _ _ vs (lc : Int) HSM.out HS.out hl hcb HCM.out HV.out (by omega) (by omega)).mono ?_; rintro e w2 ⟨a2, l2, c2, he2, ho2, hb2⟩; rw [HY.out] at he2; subst he2; have HB2 := Lib.hid hb2; clear hb2 ho2)
        | (go_at_call 56; refine (nv_any _ _ _ _ ms _ _ _ z HSM.out (HS.out.below HB2.out) hlc hcc HCX.out (HZ.out.below HB2.out)).mono ?_; rintro e w3 ⟨a3, l3, c3, rfl, ho3, hb3⟩; have HB3 := Lib.hid (below_up HB2.out hb3 (Nat.le_refl _)); have hl3 : l3 = 0 := (by have h := ho3.1; rw [HNL.out] at h; exact h.symm); subst hl3; clear hb3 ho3))
      obtain ⟨e1, e2, e3⟩ := twoEmpty W w3 HB3.out.size HB3.out
      go_ret3
      exact ⟨_, _, _, _, _, _, w3.heap.size + 1, by rw [HE.out.1]; rfl, by have := HB3.out.size; omega, by simp, by rw [HE.out.2.1]; exact e1, by rw [HE.out.2.2]; exact e2, e3⟩
    · have HE := Lib.hid (two_yes (ms := ms) (vs := vs) (z := z) (by rw [HZL.out]; exact hsol) hnl)
      obtain ⟨_, _, _, _, _, hadd, _⟩ := two_math (ms := ms) (vs := vs) (z := z) (by rw [HZL.out]; exact hsol) hnl
      have hxl : (solL ms vs (lc : Int)).length = lc := solL_len hsol
      have hq6 : lc ≤ 6 := (aug_ok (solv_sys hsol)).fine.q6
      have hq1 : 1 ≤ lc := (aug_ok (solv_sys hsol)).q1
      have hvl : (nullV ms z).length = lc := (null_ok hnl).len.trans HZL.out
      rw [HZL.out] at hadd HE
      obtain ⟨xs, hxs⟩ : ∃ xs, xs = solL ms vs (lc : Int) := ⟨_, rfl⟩
      obtain ⟨v, hv⟩ : ∃ v, v = nullV ms z := ⟨_, rfl⟩
      rw [← hxs, ← hv] at hadd HE
      rw [← hxs] at hxl
      rw [← hv] at hvl
      have HXS := Lib.hid hxs
      have HVS := Lib.hid hv
      have HAD := Lib.hid hadd
      rw [HE.out.1, HE.out.2.1, HE.out.2.2]
      clear hsol hnl hadd hxs hv
      go_enter Try.func17, Try.ntmps17
      go_wp2_with (first
        | (go_at_call 12; refine (solP_any _ _ _ _ ms _ _ _ vs (lc : Int) HSM.out HS.out hl hcb HCM.out HV.out (by omega) (by omega)).mono ?_; rintro e w2 ⟨a2, l2, c2, he2, ho2, hb2⟩; rw [HY.out] at he2; subst he2; rw [← HXS.out] at ho2; have hl2 : lc = l2 := hxl.symm.trans ho2.1; subst hl2; have HO2 := Lib.hid ho2; have HB2 := Lib.hid hb2; clear hb2 ho2)
        | (go_at_call 56; refine (nv_any _ _ _ _ ms _ _ _ z HSM.out (HS.out.below HB2.out) hlc hcc HCX.out (HZ.out.below HB2.out)).mono ?_; rintro e w3 ⟨a3, l3, c3, rfl, ho3, hb3⟩; rw [← HVS.out] at ho3; have hl3 : lc = l3 := hvl.symm.trans ho3.1; subst hl3; have hl0 : ¬ (lc : Int) = 0 := (by omega); have hl0b : ((lc : Int) == 0) = false := beq_eq_false_iff_ne.2 hl0; have HO3 := Lib.hid ho3; have HB3x := Lib.hid hb3; have HB3 := Lib.hid (below_up HB2.out hb3 (Nat.le_refl _)); have HX3 := Lib.hid (HO2.out.below hb3); clear hb3 ho3)
        | (at_make; refine wpList_make_full _ rfl _ _ 28 rfl w3.heap.size 34 i0 (.agg #[.int .i64 0, .int .i64 0]) 2 Try.underlying28 hi hz0 hz1 _ _ _ _ lc rfl rfl rfl rfl (by rw [hz2]; omega) (by unfold maxLen; omega) (by simp) ?_; intro w4 hown4 hgrow4; have HO4 := Lib.hid (madeR_row w4 w3.heap.size lc w3.heap.size hown4); have HB4 := Lib.hid ((Below.refl w3.heap.size w3).grown hgrow4 (Nat.le_refl _) (fun k e => by cases e)); clear hown4 hgrow4))
      have hYL := plusL_len xs v lc
      go_loopw [40, 10, 13, 14] (fun i _ _ _ wr => ∃ k : Nat, k ≤ lc ∧ i = .int .i64 k ∧ OwnR wr w3.heap.size w4.heap.size (some ⟨w3.heap.size, 0, none⟩) lc lc (overR (plusL xs v lc) (List.replicate lc (0, 0)) k) ∧ Below w3.heap.size w3 wr) (fun i _ _ _ _ => lc - (intOf i).toNat)
      case atStart => exact ⟨0, Nat.zero_le _, rfl, by rw [overR_zero]; exact HO4.out, HB4.out⟩
      case round =>
        obtain ⟨k, hk, rfl, ho, hb⟩ := hrel
        have HO := Lib.hid ho
        have HB := Lib.hid hb
        have hsz := hb.size
        by_cases hlt : k < lc
        · have hk0 := hlt
          rcases HX3.out.sees.2.2 with h00 | ⟨b1, o1, rfl, hb10, hc1⟩
          · omega
          rcases HO3.out.sees.2.2 with h00 | ⟨b2, o2, rfl, hb20, hc2⟩
          · omega
          have hx0 := (hb.cell (p := ⟨b1, o1 + k * 2, none⟩) hb10).trans (hc1 k hlt).1
          have hx1 := (hb.cell (p := ⟨b1, o1 + k * 2 + 1, none⟩) hb10).trans (hc1 k hlt).2
          have hv0 := (hb.cell (p := ⟨b2, o2 + k, none⟩) hb20).trans (hc2 k hlt)
          have hb1 := Nat.lt_of_lt_of_le hb10 hb.size
          have hb2 := Nat.lt_of_lt_of_le hb20 hb.size
          have hfit := HX3.out.2.1 _ (getR_mem (l := xs) (j := k) (by rw [hxl]; exact hlt))
          have hvwf := HO3.out.2.1 _ (getD_mem (l := v) (j := k) (by rw [hvl]; exact hlt))
          obtain ⟨n, hn⟩ : ∃ n, n = v.getD k 0 := ⟨_, rfl⟩
          rw [← hn] at hv0 hvwf
          obtain ⟨c0, d0, hcd⟩ : ∃ c d, xs.getD k (0, 0) = (c, d) := ⟨_, _, rfl⟩
          have hadd := HAD.out k hlt
          have hnv : n = vec v k := hn
          rw [hcd, ← hnv] at hadd
          rw [hcd] at hx0 hx1 hfit
          obtain ⟨x, hx⟩ : ∃ x, x = addN c0 d0 n 1 := ⟨_, rfl⟩
          obtain ⟨y, hy⟩ : ∃ y, y = addD c0 d0 n 1 := ⟨_, rfl⟩
          have HX := Lib.hid hx
          have HYY := Lib.hid hy
          have HA : Hid (true = addOk c0 d0 n 1) := Lib.hid (decide_eq_true hadd).symm
          have HI := Lib.hid (show IsI64 c0 ∧ IsI64 d0 ∧ IsI64 n from ⟨bounds_i64 hfit.1, bounds_i64 hfit.2, bounds_i64 hvwf⟩)
          have hxyw := addN_i64 c0 d0 n 1
          rw [← hx, ← hy] at hxyw
          have HWF : Hid ((Lit.int .i64 x).wf = true ∧ (Lit.int .i64 y).wf = true) := Lib.hid ⟨WalkArith.wf_i64 (by have := hxyw.1; unfold IsI64 at this; omega), WalkArith.wf_i64 (by have := hxyw.2; unfold IsI64 at this; omega)⟩
          have HSN := Lib.hid (plusL_snoc xs v hcd hnv hx hy)
          have HC0 := Lib.hid hx0
          have HC1 := Lib.hid hx1
          have HC2 := Lib.hid hv0
          have i0k : (0 : Int) ≤ (k : Int) := by omega
          have i1k : (k : Int) < (lc : Int) := by omega
          have HPL : Hid ((plusL xs v lc).getD k (0, 0) = (x, y)) := Lib.hid (by rw [plusL_at hlt, hcd, ← hnv, ← hx, ← hy])
          clear hc1 hc2 hn hcd hnv hadd hx hy hxyw hfit hvwf ho hb hk0 hb10 hb20
          go_wp2_with (go_at_call 57; refine (pAddV_any c0 d0 n 1 x y true _ HI.out.1 HI.out.2.1 HI.out.2.2 ⟨by decide, by decide⟩ HX.out HYY.out HA.out).mono ?_; rintro e w5 ⟨rfl, hb5⟩; have HO5 := Lib.hid (HO.out.below hb5); have HB5 := Lib.hid (HB.out.trans (hb5.mono hsz)); obtain ⟨ys0, ys1, ysf⟩ := HO5.out.spotAt k hlt; have ysf0 := ysf (k * 2); have ysf1 := ysf (k * 2 + 1); clear hb5 ysf)
          go_roundw
          case rel =>
            obtain ⟨hst, hmv⟩ := HO5.out.stored k (x, y) HWF.out
            rw [← HPL.out, overR_set _ _ _ (by rw [hYL]; simp) (by rw [hYL]; exact hlt), HPL.out] at hst
            exact ⟨k + 1, by omega, by go_num, hst, below_moved HB5.out hmv (Nat.le_refl _) (Nat.le_refl _)⟩
          case measure => simp [intOf]; omega
        · obtain rfl : k = lc := by omega
          have e : overR (plusL xs v k) (List.replicate k (0, 0)) k = plusL xs v k := by
            have := overR_all (plusL xs v k) (List.replicate k (0, 0)) (by rw [hYL]; simp)
            rwa [hYL] at this
          have HEE := Lib.hid e
          clear ho hb e
          go_wp2
          go_ret3
          exact ⟨_, _, _, _, _, _, w3.heap.size, rfl, HB3.out.size, hsz, (HX3.out.below HB.out).wide (Nat.le_refl _) HB3x.out.size hsz, by have h := HO.out; rw [HEE.out] at h; exact h.wide (Nat.le_refl _) h.2.2.1 (Nat.le_refl _), HB3.out.trans (HB.out.mono HB3.out.size)⟩
end Go.Proofs.Ytgcgdgbogamlnaa
