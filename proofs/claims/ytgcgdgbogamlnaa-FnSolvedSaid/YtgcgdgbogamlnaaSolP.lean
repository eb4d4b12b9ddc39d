/- Systems: the program's solution. -/
import Derived.Test.YtgcgdgbogamlnaaSysR
import Derived.Test.YtgcgdgbogamlnaaSlR
namespace Go.Proofs.Ytgcgdgbogamlnaa
open Go.RowKit
theorem pMkV_any (n d x y : Int) (k : Bool) (w : World) (hn : IsI64 n) (hd : IsI64 d) (hx : x = mrN n d) (hy : y = mrD n d) (hk : k = mrOk n d) :
    Calls Try.prog 48 #[.int .i64 n, .int .i64 d] w (RatRes x y k w) := by
  subst hx hy hk
  exact mkRat_any n d w hn hd
theorem startV_of {z : List Int} (h : leadL z < z.length) : startV z = (leadL z : Int) := startV_lead h
set_option maxRecDepth 20000 in
set_option maxHeartbeats 3200000 in
theorem solP_any (W : World) (a : Option Addr) (len cap : Nat) (ms : List (List Int)) (b : Option Addr) (lb cb : Nat) (vs : List Int) (cols : Int) (hsm : SmallM ms) (hs : SeesM W a len ms) (hl : lb ≤ 1073741824) (hcb : lb ≤ cb) (hcm : cb ≤ maxLen) (hs2 : Sees .i64 W b lb vs) (hn : -9223372036854775808 ≤ cols) (hm : cols ≤ 9223372036854775807) :
    Calls Try.prog 12 #[.slice a len cap, .slice b lb cb, .int .i64 cols] W (MadeSol (solL ms vs cols) (solvB ms vs cols) W) := by
  obtain ⟨W1, hW1⟩ : ∃ W1, W1 = W.alloc (.cells #[.slice a len cap, .int .i64 cols, .slice b lb cb] 66) := ⟨_, rfl⟩
  have HB0 : Hid (Below W.heap.size W W1) := Lib.hid (by rw [hW1]; exact (Below.refl _ _).alloc (Nat.le_refl _) _)
  have hz1 : W1.heap.size = W.heap.size + 1 := by rw [hW1, World.size_alloc]
  have c0 : W1.cell? ⟨W.heap.size, 0, none⟩ = some (.slice a len cap) := by rw [hW1]; go_simp
  have c1 : W1.cell? ⟨W.heap.size, 1, none⟩ = some (.int .i64 cols) := by rw [hW1]; go_simp
  have c2 : W1.cell? ⟨W.heap.size, 2, none⟩ = some (.slice b lb cb) := by rw [hW1]; go_simp
  have HC1 := Lib.hid c1
  have hbs : W.heap.size < W1.heap.size := by omega
  have HS := Lib.hid (hs.below HB0.out)
  have HSM := Lib.hid hsm
  have HV := Lib.hid (hs2.below HB0.out)
  have HCM := Lib.hid hcm
  clear hs hsm hs2 hcm
  cases hsol : solvB ms vs cols
  · have HE := Lib.hid (solL_no hsol)
    have HY := Lib.hid hsol
    clear hsol
    go_enter Try.func12, Try.ntmps12
    go_wp2_with fail
    rw [← hW1]
    clear hW1
    go_wp2_with (go_at_call 45; refine (redSys_any _ _ _ _ ms _ _ _ vs cols HSM.out HS.out hl hcb HCM.out HV.out hn hm).mono ?_; rintro e w2 ⟨a2, l2, c2', he2, _, hb2⟩; rw [HY.out] at he2; subst he2; have HB2 := Lib.hid (below_up HB0.out hb2 (Nat.le_refl _)); clear hb2)
    go_ret2
    exact ⟨_, _, _, rfl, by rw [HE.out]; exact ownR_empty _ _ HB2.out.size, HB2.out.alloc HB2.out.size _⟩
  · obtain ⟨q, rfl⟩ := sys_nat (solv_sys hsol)
    have HE := Lib.hid (solL_yes hsol)
    have hok := aug_ok (solv_sys hsol)
    have hq6 : q ≤ 6 := hok.fine.q6
    have hq1 : 1 ≤ q := hok.q1
    obtain ⟨hro, hre⟩ := rowsP_ok hok (solv_good hsol)
    have hR12 := (rowsP_at hok).many
    have HY := Lib.hid hsol
    obtain ⟨R, hR⟩ : ∃ R, R = rowsP ms vs q := ⟨_, rfl⟩
    rw [← hR] at hro hre hR12
    have HRR := Lib.hid hR
    have HRO := Lib.hid hro
    have HRE : Hid (solAt R q R.length = solL ms vs (q : Int)) := Lib.hid (by rw [HE.out]; exact hre)
    obtain ⟨xs, hxs⟩ : ∃ xs, xs = solL ms vs (q : Int) := ⟨_, rfl⟩
    rw [← hxs] at HRE ⊢
    clear hsol hok hro hre hR hxs HE
    go_enter Try.func12, Try.ntmps12
    go_wp2_with fail
    rw [← hW1]
    clear hW1
    go_wp2_with (first
      | (go_at_call 45; refine (redSys_any _ _ _ _ ms _ _ _ vs (q : Int) HSM.out HS.out hl hcb HCM.out HV.out (by omega) (by omega)).mono ?_; rintro e w2 ⟨a2, l2, c2', he2, hs2, hb2⟩; rw [HY.out] at he2 hs2; rw [if_pos rfl, Int.toNat_natCast, ← HRR.out] at hs2; subst he2; have hl2 : R.length = l2 := hs2.1; subst hl2; have HS2 := Lib.hid hs2; have HB2 := Lib.hid hb2; have k1 := ((HB2.out.alloc HB2.out.size (.cells #[.int .i64 0, .int .i64 1] 34)).cell (p := ⟨W.heap.size, 1, none⟩) hbs).trans HC1.out; clear hb2 hs2)
      | (go_at_call 46; refine (repeat_any _ w2.heap.size q hq1 hq6 (seesR_one (by decide) (by decide) _ _)).mono ?_; rintro e w3 ⟨a3, l3, c3, rfl, ho3, hb3⟩; have hl3 : q = l3 := (by have h := ho3.1; rw [List.length_replicate] at h; exact h); subst hl3; have HB3' := Lib.hid (below_up ((Below.refl w2.heap.size w2).alloc (Nat.le_refl _) _) hb3 (Nat.le_refl _)); have HO3 := Lib.hid (ho3.wide (lo2 := w2.heap.size) (by simp) (Nat.le_refl _) (Nat.le_refl _)); clear ho3 hb3))
    rcases HO3.out.spot with ⟨_, h00, _⟩ | ⟨g, rfl, hg0, hg1, _⟩
    · omega
    have hw2 := HB2.out.size
    go_loopw [36, 10, 13, 14] (fun i _ _ _ wr => ∃ j : Nat, j ≤ R.length ∧ i = .int .i64 j ∧ OwnR wr w2.heap.size w3.heap.size (some ⟨g, 0, none⟩) q c3 (solAt R q j) ∧ Below w2.heap.size w2 wr) (fun i _ _ _ _ => R.length - (intOf i).toNat)
    case atStart => exact ⟨0, Nat.zero_le _, rfl, HO3.out, HB3'.out⟩
    case round =>
      obtain ⟨j, hj, rfl, ho, hb⟩ := hrel
      have HO := Lib.hid ho
      have HB := Lib.hid hb
      have hsz := hb.size
      by_cases hlt : j < R.length
      · obtain ⟨bo, off, ar, cr, rfl, hbl, hc, _, _, hsr⟩ := (HS2.out.below hb).2 j hlt
        have HROW := Lib.hid (HRO.out j hlt)
        have hzl := (HRO.out j hlt).len
        have hbl2 : bo < w2.heap.size := by
          obtain ⟨b', off', ar', cr', he, hlt', _⟩ := HS2.out.2 j hlt
          cases he
          exact hlt'
        obtain ⟨z, hz⟩ : ∃ z, z = row R j := ⟨_, rfl⟩
        have HZ := Lib.hid hz
        rw [← hz] at hc hsr hzl HROW
        obtain ⟨d, hd⟩ : ∃ d, d = leadL z := ⟨_, rfl⟩
        have hdq : d < q := by rw [hd]; exact HROW.out.lt
        have HSV : Hid (startV z = (d : Int)) := Lib.hid (by rw [hd]; exact startV_of (by rw [hzl]; have := HROW.out.lt; omega))
        rw [hzl] at hc hsr
        have HSR := Lib.hid hsr
        rcases hsr.2.2 with h00 | ⟨b3, o3, rfl, hb3, hc3⟩
        · omega
        have hb32 : b3 < w2.heap.size := by
          obtain ⟨b', off', ar', cr', he, hlt', hc', _, _, hs'⟩ := HS2.out.2 j hlt
          cases he
          rw [← hz, hzl] at hc' hs'
          have h2 := (hb.cell (p := ⟨bo, off + j, none⟩) hlt').trans hc'
          rw [hc] at h2
          simp only [Option.some.injEq, Value.slice.injEq] at h2
          rcases hs'.2.2 with h00 | ⟨b4, o4, he4, hb4, _⟩
          · omega
          · rw [← h2.1] at he4
            cases he4
            exact hb4
        have hcq := hc3 q (by omega)
        have hcd := hc3 d (by omega)
        obtain ⟨n, hn'⟩ : ∃ n, n = z.getD q 0 := ⟨_, rfl⟩
        obtain ⟨m, hm'⟩ : ∃ m, m = z.getD d 0 := ⟨_, rfl⟩
        rw [← hn'] at hcq
        rw [← hm'] at hcd
        have en : vec z q = n := hn'.symm
        have em : vec z (leadL z) = m := by rw [← hd]; exact hm'.symm
        have hnm : IsI64 n ∧ IsI64 m := by
          have h1 := HROW.out.n
          have h2 := HROW.out.d
          rw [en] at h1
          rw [em] at h2
          exact ⟨⟨by omega, by omega⟩, ⟨by omega, by omega⟩⟩
        have HNM := Lib.hid hnm
        obtain ⟨x, hx⟩ : ∃ x, x = mkN n m := ⟨_, rfl⟩
        obtain ⟨y, hy⟩ : ∃ y, y = mkD n m := ⟨_, rfl⟩
        have HX : Hid (x = mrN n m) := Lib.hid (by have h := HROW.out.eqN; rw [en, em] at h; rw [hx, h])
        have HYY : Hid (y = mrD n m) := Lib.hid (by have h := HROW.out.eqD; rw [en, em] at h; rw [hy, h])
        have HMK : Hid (true = mrOk n m) := Lib.hid (by have h := HROW.out.ok; rw [en, em] at h; exact h.symm)
        have HWF : Hid ((Lit.int .i64 x).wf = true ∧ (Lit.int .i64 y).wf = true) := Lib.hid (by have h := HROW.out.wf; rw [en, em, ← hx, ← hy] at h; exact h)
        have HPUT : Hid (solAt R q (j + 1) = (solAt R q j).set d (x, y)) := Lib.hid (by
          have h := solAt_put (rows := R) (q := q) (i := j) (by rw [← HZ.out, ← hd]; exact hdq)
          rw [← HZ.out, en, em, ← hx, ← hy, ← hd] at h
          exact h)
        have hws2 : W.heap.size < w2.heap.size := by omega
        have k1 := (hb.cell (p := ⟨W.heap.size, 1, none⟩) hws2).trans ((HB2.out.cell (p := ⟨W.heap.size, 1, none⟩) hbs).trans HC1.out)
        have HK1 := Lib.hid k1
        have HC := Lib.hid hc
        have HCQ := Lib.hid hcq
        have HCD := Lib.hid hcd
        have hbo : bo < wr.heap.size := hbl
        have hws : W.heap.size < wr.heap.size := by omega
        have hq9 : q + 1 ≤ 1073741824 := by omega
        have i0j : (0 : Int) ≤ (j : Int) := by omega
        have i1j : (j : Int) < (R.length : Int) := by omega
        have i0q : (0 : Int) ≤ (q : Int) := by omega
        have i1q : (q : Int) < ((q + 1 : Nat) : Int) := by omega
        have i1q' : (q : Int) < (q : Int) + 1 := by omega
        have i0d : (0 : Int) ≤ (d : Int) := by omega
        have i1d : (d : Int) < (q : Int) + 1 := by omega
        have i2d : (d : Int) < (q : Int) := by omega
        have ne1 : g ≠ bo := by omega
        have ne2 : g ≠ b3 := by omega
        have ne3 : g ≠ W.heap.size := by omega
        clear hc3 hn' hm' hx hy hsr ho hb hz hd en em hnm
        go_wp2_with (go_at_call 47; refine (startOf_any _ _ _ _ z hq9 HSR.out).mono ?_; rw [HSV.out]; rintro e w' ⟨rfl, rfl⟩)
        go_region_held3 (fun w' => w'.cell? ⟨W.heap.size, 1, none⟩ = some (.int .i64 (q : Int)) ∧ w'.cell? ⟨b3, o3 + q, none⟩ = some (.int .i64 n) ∧ w'.cell? ⟨b3, o3 + d, none⟩ = some (.int .i64 m)) (go_keep) (first
          | (go_at_call 48; refine (pMkV_any n m x y true _ HNM.out.1 HNM.out.2 HX.out HYY.out HMK.out).mono ?_; rintro e w4 ⟨rfl, hb4⟩; have G4 := Lib.hid (below_up (w0 := wr) (Below.refl _ _).drew hb4 (Nat.le_refl _)); have k1 := (G4.out.cell (p := ⟨W.heap.size, 1, none⟩) hws).trans HK1.out; have k2 := (G4.out.cell (p := ⟨b3, o3 + q, none⟩) hb3).trans HCQ.out; have k3 := (G4.out.cell (p := ⟨b3, o3 + d, none⟩) hb3).trans HCD.out; have HX4 := Lib.hid (HO.out.below G4.out); obtain ⟨xs0, xs1, xsf⟩ := HX4.out.spotAt d hdq; have hsf0 := xsf (d * 2); have hsf1 := xsf (d * 2 + 1); clear hb4 xsf))
        all_goals go_wp2
        all_goals
          go_roundw
          case rel =>
            obtain ⟨hst, hmv⟩ := HX4.out.stored d (x, y) HWF.out
            rw [← HPUT.out] at hst
            exact ⟨j + 1, by omega, by go_num, hst, below_moved (HB.out.trans (G4.out.mono hsz)) hmv (Nat.le_refl _) (Nat.le_refl _)⟩
          case measure => simp [intOf]; omega
      · obtain rfl : j = R.length := by omega
        clear ho hb
        go_wp2
        go_ret2
        exact ⟨_, _, _, rfl, by have h := HO.out; rw [HRE.out] at h; exact h.wide (by omega) h.2.2.1 (Nat.le_refl _), (HB0.out.trans (HB2.out.mono (by omega))).trans (HB.out.mono (by omega))⟩
end Go.Proofs.Ytgcgdgbogamlnaa
