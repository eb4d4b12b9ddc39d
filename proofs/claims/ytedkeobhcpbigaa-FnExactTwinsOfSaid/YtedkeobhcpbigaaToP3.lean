/- The program's list of all delays, isTold. -/
import Derived.Test.YtedkeobhcpbigaaToX
import Derived.Test.YtedkeobhcpbigaaSolP
import Derived.Test.YtedkeobhcpbigaaElimP
namespace Go.Proofs.Ytedkeobhcpbigaa
open Go.RowKit
set_option maxHeartbeats 1600000 in
theorem isTold_any (W : World) (x y : Int) : Calls Try.prog 42 #[.agg #[.int .i64 x, .int .i64 y]] W fun e w' => e = .returned (.bool (toldP (x, y))) ∧ Below W.heap.size W w' := by
  have HB := Lib.hid ((Below.refl W.heap.size W).alloc (Nat.le_refl _) (.cells #[.int .i64 x, .int .i64 y] 30))
  obtain ⟨r, hr⟩ : ∃ r, r = toldP (x, y) := ⟨_, rfl⟩
  rw [← hr]
  by_cases hx : x = 0
  · by_cases hy : y = 0
    · have HE : Hid (r = false) := Lib.hid (by rw [hr, hx, hy]; rfl)
      subst hx hy
      clear hr
      go_enter Try.func42, Try.ntmps42
      go_wp2
      go_ret
      exact ⟨ret_bool HE.out.symm, HB.out⟩
    · have HE : Hid (r = true) := Lib.hid (by rw [hr]; unfold toldP; rw [decide_eq_false hy, Bool.and_false]; rfl)
      have hyb : (y == 0) = false := by simp [hy]
      subst hx
      clear hr
      go_enter Try.func42, Try.ntmps42
      go_wp2
      go_ret
      exact ⟨ret_bool HE.out.symm, HB.out⟩
  · have HE : Hid (r = true) := Lib.hid (by rw [hr]; unfold toldP; rw [decide_eq_false hx, Bool.false_and]; rfl)
    have hxb : (x == 0) = false := by simp [hx]
    clear hr
    go_enter Try.func42, Try.ntmps42
    go_wp2
    go_ret
    exact ⟨ret_bool HE.out.symm, HB.out⟩
theorem sees_part {w : World} {b o n q d : Nat} {z : List Int} (h : Sees .i64 w (some ⟨b, o, none⟩) n z) (hq : q ≤ n) (hd : d ≤ q) : Sees .i64 w (some ⟨b, o + d, none⟩) (q - d) ((z.take q).drop d) := by
  have hl := h.1
  refine ⟨by rw [List.length_drop, List.length_take]; omega, fun x hx => h.2.1 x (List.mem_of_mem_take (List.mem_of_mem_drop hx)), ?_⟩
  rcases h.2.2 with h0 | ⟨b2, o2, he, hb, hc⟩
  · exact .inl (by omega)
  · cases he
    refine .inr ⟨b, o + d, rfl, hb, fun j hj => ?_⟩
    have h1 := vec_part (z := z) (q := q) (d := d) (j := j) (by omega)
    unfold vec at h1
    rw [h1, Nat.add_assoc]
    exact hc (d + j) (by omega)
theorem dlyAt_yes {rows : List (List Int)} {q i : Nat} (h : aloneB (row rows i) q = true) : dlyAt rows q (i + 1) = (dlyAt rows q i).set (leadL (row rows i)) (mkN (vec (row rows i) q) (vec (row rows i) (leadL (row rows i))), mkD (vec (row rows i) q) (vec (row rows i) (leadL (row rows i)))) := by rw [dlyAt, if_pos h]
theorem dlyAt_skip {rows : List (List Int)} {q i : Nat} (h : aloneB (row rows i) q = false) : dlyAt rows q (i + 1) = dlyAt rows q i := by rw [dlyAt, if_neg (by rw [h]; simp)]
theorem startV_alone {z : List Int} {q : Nat} (hq : q ≤ z.length) : aloneB z q = decide (startV ((z.take q).drop (leadL z + 1)) < 0) := by
  unfold aloneB
  rw [startV_neg, part_len hq]
set_option maxRecDepth 20000 in
set_option maxHeartbeats 1600000 in
theorem dlyP_any (W : World) (a : Option Addr) (len cap : Nat) (ms : List (List Int)) (b : Option Addr) (lb cb : Nat) (vs : List Int) (cols : Int) (hsm : SmallM ms) (hs : SeesM W a len ms) (hl : lb ≤ 1073741824) (hcb : lb ≤ cb) (hcm : cb ≤ maxLen) (hs2 : Sees .i64 W b lb vs) (hn : -9223372036854775808 ≤ cols) (hm : cols ≤ 9223372036854775807) :
    Calls Try.prog 41 #[.slice a len cap, .slice b lb cb, .int .i64 cols] W (MadeR (dlyL ms vs cols) W) := by
  have HS := Lib.hid hs
  have HSM := Lib.hid hsm
  have HV := Lib.hid hs2
  have HCM := Lib.hid hcm
  obtain ⟨i0, hi, hz0, hz1, hz2⟩ := info_parts info_rat
  clear hs hsm hs2 hcm
  cases hsol : solvB ms vs cols
  · have HE := Lib.hid (dlyL_no hsol)
    have HY := Lib.hid hsol
    clear hsol
    go_enter Try.func41, Try.ntmps41
    go_wp2_with (go_at_call 44; refine (redSys_any _ _ _ _ ms _ _ _ vs cols HSM.out HS.out hl hcb HCM.out HV.out hn hm).mono ?_; rintro e w2 ⟨a2, l2, c2', he2, _, hb2⟩; rw [HY.out] at he2; subst he2; have HB2 := Lib.hid hb2; clear hb2)
    go_ret
    exact ⟨_, _, _, rfl, by rw [HE.out]; exact ownR_empty _ _ HB2.out.size, HB2.out.alloc HB2.out.size _⟩
  · obtain ⟨q, rfl⟩ := sys_nat (solv_sys hsol)
    have HE := Lib.hid (dlyL_yes hsol)
    have hok := aug_ok (solv_sys hsol)
    have hq6 : q ≤ 6 := hok.fine.q6
    have hq1 : 1 ≤ q := hok.q1
    obtain ⟨hro, _⟩ := rowsP_ok hok (solv_good hsol)
    have hR12 := (rowsP_at hok).many
    have HY := Lib.hid hsol
    obtain ⟨R, hR⟩ : ∃ R, R = rowsP ms vs q := ⟨_, rfl⟩
    rw [← hR] at hro hR12 HE
    have HRR := Lib.hid hR
    have HRO := Lib.hid hro
    clear hsol hok hro hR
    go_enter Try.func41, Try.ntmps41
    go_wp2_with (first
      | (go_at_call 44; refine (redSys_any _ _ _ _ ms _ _ _ vs (q : Int) HSM.out HS.out hl hcb HCM.out HV.out (by omega) (by omega)).mono ?_; rintro e w2 ⟨a2, l2, c2', he2, hs2, hb2⟩; rw [HY.out] at he2 hs2; rw [if_pos rfl, Int.toNat_natCast, ← HRR.out] at hs2; subst he2; have hl2 : R.length = l2 := hs2.1; subst hl2; have HS2 := Lib.hid hs2; have HB2 := Lib.hid hb2; clear hb2 hs2)
      | (at_make; refine wpList_make_full _ rfl _ _ 53 rfl w2.heap.size 30 i0 (.agg #[.int .i64 0, .int .i64 0]) 2 Try.underlying53 hi hz0 hz1 _ _ _ _ q rfl rfl rfl rfl (by rw [hz2]; omega) (by unfold maxLen; omega) (by simp) ?_; intro w3 hown3 hgrow3; have HO3 := Lib.hid (madeR_row w3 w2.heap.size q w2.heap.size hown3); have HB3 := Lib.hid ((Below.refl w2.heap.size w2).grown hgrow3 (Nat.le_refl _) (fun k e => by cases e)); clear hown3 hgrow3))
    have hw2 := HB2.out.size
    go_loopw [30, 11, 12, 13] (fun i _ _ _ wr => ∃ j : Nat, j ≤ R.length ∧ i = .int .i64 j ∧ OwnR wr w2.heap.size w3.heap.size (some ⟨w2.heap.size, 0, none⟩) q q (dlyAt R q j) ∧ Below w2.heap.size w2 wr) (fun i _ _ _ _ => R.length - (intOf i).toNat)
    case atStart => exact ⟨0, Nat.zero_le _, rfl, HO3.out, HB3.out⟩
    case round =>
      obtain ⟨j, hj, rfl, ho, hb⟩ := hrel
      have HO := Lib.hid ho
      have HB := Lib.hid hb
      have hsz := hb.size
      by_cases hlt : j < R.length
      · obtain ⟨bo, off, ar, cr, rfl, hbl, hc, hcr1, hcr2, hsr⟩ := (HS2.out.below hb).2 j hlt
        have HROW := Lib.hid (HRO.out j hlt)
        have hzl := (HRO.out j hlt).len
        have hbl2 : bo < w2.heap.size := by
          obtain ⟨b', off', ar', cr', he, hlt', _⟩ := HS2.out.2 j hlt
          cases he
          exact hlt'
        obtain ⟨z, hz⟩ : ∃ z, z = row R j := ⟨_, rfl⟩
        have HZ := Lib.hid hz
        rw [← hz] at hc hsr hzl HROW hcr1
        obtain ⟨d, hd⟩ : ∃ d, d = leadL z := ⟨_, rfl⟩
        have hdq : d < q := by rw [hd]; exact HROW.out.lt
        have HSV : Hid (startV z = (d : Int)) := Lib.hid (by rw [hd]; exact startV_of (by rw [hzl]; have := HROW.out.lt; omega))
        have hal := startV_alone (z := z) (q := q) (by omega)
        rw [← hd] at hal
        rw [hzl] at hc hsr hcr1
        have HSR := Lib.hid hsr
        rcases hsr.2.2 with h00 | ⟨b3, o3, rfl, hb3, hc3⟩
        · omega
        have hb32 : b3 < w2.heap.size := by
          obtain ⟨b', off', ar', cr', he, hlt', hc', _, _, hs'⟩ := HS2.out.2 j hlt
          cases he
          rw [← hz, hzl] at hc' hs'
          have h2 := (hb.cell (p := ⟨bo, off + j, none⟩) hlt').trans hc'
          rw [hc] at h2
          simp only [Option.some.injEq, Value.slice.injEq] at h2
          rcases hs'.2.2 with h00 | ⟨b4, o4, he4, hb4, _⟩
          · omega
          · rw [← h2.1] at he4
            cases he4
            exact hb4
        have hcq := hc3 q (by omega)
        have hcd := hc3 d (by omega)
        obtain ⟨n, hn'⟩ : ∃ n, n = z.getD q 0 := ⟨_, rfl⟩
        obtain ⟨m, hm'⟩ : ∃ m, m = z.getD d 0 := ⟨_, rfl⟩
        rw [← hn'] at hcq
        rw [← hm'] at hcd
        have en : vec z q = n := hn'.symm
        have em : vec z (leadL z) = m := by rw [← hd]; exact hm'.symm
        have hnm : IsI64 n ∧ IsI64 m := by
          have h1 := HROW.out.n
          have h2 := HROW.out.d
          rw [en] at h1
          rw [em] at h2
          exact ⟨⟨by omega, by omega⟩, ⟨by omega, by omega⟩⟩
        have HNM := Lib.hid hnm
        obtain ⟨x, hx⟩ : ∃ x, x = mkN n m := ⟨_, rfl⟩
        obtain ⟨y, hy⟩ : ∃ y, y = mkD n m := ⟨_, rfl⟩
        have HX : Hid (x = mrN n m) := Lib.hid (by have h := HROW.out.eqN; rw [en, em] at h; rw [hx, h])
        have HYY : Hid (y = mrD n m) := Lib.hid (by have h := HROW.out.eqD; rw [en, em] at h; rw [hy, h])
        have HMK : Hid (true = mrOk n m) := Lib.hid (by have h := HROW.out.ok; rw [en, em] at h; exact h.symm)
        have HWF : Hid ((Lit.int .i64 x).wf = true ∧ (Lit.int .i64 y).wf = true) := Lib.hid (by have h := HROW.out.wf; rw [en, em, ← hx, ← hy] at h; exact h)
        have HPART := Lib.hid (sees_part (q := q) (d := d + 1) HSR.out (by omega) (by omega))
        obtain ⟨zo, hzo⟩ : ∃ zo, zo = (z.take q).drop (d + 1) := ⟨_, rfl⟩
        rw [← hzo] at HPART hal
        have HC := Lib.hid hc
        have HCQ := Lib.hid hcq
        have HCD := Lib.hid hcd
        have hbo : bo < wr.heap.size := hbl
        have hq9 : q + 1 ≤ 1073741824 := by omega
        have hq8 : q - (d + 1) ≤ 1073741824 := by omega
        have i0j : (0 : Int) ≤ (j : Int) := by omega
        have i1j : (j : Int) < (R.length : Int) := by omega
        have i0q : (0 : Int) ≤ (q : Int) := by omega
        have i1q : (q : Int) < ((q + 1 : Nat) : Int) := by omega
        have i1q' : (q : Int) < (q : Int) + 1 := by omega
        have i0d : (0 : Int) ≤ (d : Int) := by omega
        have i1d : (d : Int) < (q : Int) + 1 := by omega
        have i2d : (d : Int) < (q : Int) := by omega
        have i3d : (0 : Int) ≤ (d : Int) + 1 := by omega
        have i4d : (d : Int) + 1 ≤ (q : Int) := by omega
        have icr : (q : Int) ≤ (cr : Int) := by omega
        have hcrd : ¬ cr = d + 1 := by omega
        have wd : IntKind.i64.wrap ((d : Int) + 1) = (d : Int) + 1 := IntWalk.i64_in _ (by omega)
        have ne1 : w2.heap.size ≠ bo := by omega
        have ne2 : w2.heap.size ≠ b3 := by omega
        obtain ⟨so, hso⟩ : ∃ so, so = startV zo := ⟨_, rfl⟩
        have HSO := Lib.hid hso
        rw [← hso] at hal
        cases ha : aloneB z q
        · have hs0 : ¬ so < 0 := by
            rw [ha] at hal
            exact of_decide_eq_false hal.symm
          have HNX : Hid (dlyAt R q (j + 1) = dlyAt R q j) := Lib.hid (dlyAt_skip (by rw [← HZ.out]; exact ha))
          clear hc3 hn' hm' hx hy hsr ho hb hz hd en em hnm hzo hso hal ha
          go_wp2_with (first
            | (go_at_call 63; with_reducible refine (startOf_any _ _ _ _ z hq9 HSR.out).mono ?_; rw [HSV.out]; rintro e w' ⟨rfl, rfl⟩)
            | (go_at_call 63; with_reducible refine (startOf_any _ _ _ _ zo hq8 HPART.out).mono ?_; rw [← HSO.out]; rintro e w' ⟨rfl, rfl⟩))
          go_roundw
          case rel => exact ⟨j + 1, by omega, by go_num, by rw [HNX.out]; exact HO.out, HB.out⟩
          case measure => simp [intOf]; omega
        · have hs0 : so < 0 := by
            rw [ha] at hal
            exact of_decide_eq_true hal.symm
          have HPUT : Hid (dlyAt R q (j + 1) = (dlyAt R q j).set d (x, y)) := Lib.hid (by
            have h := dlyAt_yes (rows := R) (q := q) (i := j) (by rw [← HZ.out]; exact ha)
            rw [← HZ.out, en, em, ← hx, ← hy, ← hd] at h
            exact h)
          clear hc3 hn' hm' hx hy hsr ho hb hz hd en em hnm hzo hso hal ha
          go_wp2_with (first
            | (go_at_call 63; with_reducible refine (startOf_any _ _ _ _ z hq9 HSR.out).mono ?_; rw [HSV.out]; rintro e w' ⟨rfl, rfl⟩)
            | (go_at_call 63; with_reducible refine (startOf_any _ _ _ _ zo hq8 HPART.out).mono ?_; rw [← HSO.out]; rintro e w' ⟨rfl, rfl⟩))
          go_region_held3 (fun w' => w'.cell? ⟨b3, o3 + q, none⟩ = some (.int .i64 n) ∧ w'.cell? ⟨b3, o3 + d, none⟩ = some (.int .i64 m)) (go_keep) (first
            | (go_at_call 64; refine (pMkV_any n m x y true _ HNM.out.1 HNM.out.2 HX.out HYY.out HMK.out).mono ?_; rintro e w4 ⟨rfl, hb4⟩; have G4 := Lib.hid (below_up (w0 := wr) (Below.refl _ _).drew hb4 (Nat.le_refl _)); have k2 := (G4.out.cell (p := ⟨b3, o3 + q, none⟩) hb3).trans HCQ.out; have k3 := (G4.out.cell (p := ⟨b3, o3 + d, none⟩) hb3).trans HCD.out; have HX4 := Lib.hid (HO.out.below G4.out); obtain ⟨xs0, xs1, xsf⟩ := HX4.out.spotAt d hdq; have hsf0 := xsf (d * 2); have hsf1 := xsf (d * 2 + 1); clear hb4 xsf))
          all_goals go_wp2
          all_goals
            go_roundw
            case rel =>
              obtain ⟨hst, hmv⟩ := HX4.out.stored d (x, y) HWF.out
              rw [← HPUT.out] at hst
              exact ⟨j + 1, by omega, by go_num, hst, below_moved (HB.out.trans (G4.out.mono hsz)) hmv (Nat.le_refl _) (Nat.le_refl _)⟩
            case measure => simp [intOf]; omega
      · obtain rfl : j = R.length := by omega
        clear ho hb
        go_wp2
        go_ret
        exact ⟨_, _, _, rfl, by have h := HO.out; rw [← HE.out] at h; exact h.wide hw2 h.2.2.1 (Nat.le_refl _), HB2.out.trans (HB.out.mono hw2)⟩
end Go.Proofs.Ytedkeobhcpbigaa
