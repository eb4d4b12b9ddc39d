/- One link by one row, the model's. -/
import Derived.Test.YthcinjlghhfhmaaBdM
namespace Go.Proofs.Ythcinjlghhfhmaa
open Go.RowKit
theorem oth_next {z : List Int} {xs : List (Int × Int)} {k i : Nat} (h : i ≠ k ∧ z.getD i 0 = 1) : othLo z xs k (i + 1) = othLo z xs k i + (iv xs i).1 ∧ othHi z xs k (i + 1) = othHi z xs k i + (iv xs i).2 := ⟨by simp only [othLo, if_pos h], by simp only [othHi, if_pos h]⟩
theorem oth_skip {z : List Int} {xs : List (Int × Int)} {k i : Nat} (h : ¬ (i ≠ k ∧ z.getD i 0 = 1)) : othLo z xs k (i + 1) = othLo z xs k i ∧ othHi z xs k (i + 1) = othHi z xs k i := by simp only [othLo, othHi, if_neg h]; omega
set_option maxRecDepth 20000 in
set_option maxHeartbeats 3200000 in
theorem specNarrow_any (W : World) (a : Option Addr) (lr cr : Nat) (z : List Int) (y0 y1 : Int) (b : Option Addr) (lb cb : Nat) (xs : List (Int × Int)) (k : Nat) (hz : Sees .i64 W a lr z) (hsv : SeesV W b lb xs) (hlr : lb ≤ lr) (hk : k < lb) (h6 : lb ≤ 6) (hok : ivsOk xs = true)
    (hy0 : 0 ≤ y0 ∧ y0 ≤ 100000) (hy1 : 0 ≤ y1 ∧ y1 ≤ 100000) :
    Calls Try.prog 53 #[.slice a lr cr, .agg #[.int .i64 y0, .int .i64 y1], .slice b lb cb, .int .i64 (k : Int)] W (IvV (narLo z (y0, y1) xs k) (narHi z (y0, y1) xs k) W) := by
  have HLX := Lib.hid hsv.1
  have HOK := Lib.hid hok
  obtain ⟨b1, o1, rfl, hb1, hz1⟩ : ∃ b off, a = some ⟨b, off, none⟩ ∧ b < W.heap.size ∧ ∀ j, j < lr → W.cell? ⟨b, off + j, none⟩ = some (.int .i64 (z.getD j 0)) := by
    rcases hz.2.2 with h0 | h1
    · omega
    · exact h1
  obtain ⟨b2, o2, rfl, hb2, hk0, hk1⟩ := hsv.at hk
  have HX : Hid (∀ j, j < lb → W.cell? ⟨b2, o2 + j * 2, none⟩ = some (.int .i64 (iv xs j).1) ∧ W.cell? ⟨b2, o2 + j * 2 + 1, none⟩ = some (.int .i64 (iv xs j).2)) := Lib.hid (fun j hj => by
    obtain ⟨b3, o3, e, _, h0, h1⟩ := hsv.at hj
    cases e
    exact ⟨h0, h1⟩)
  have HZ := Lib.hid hz1
  obtain ⟨V, hV⟩ : ∃ V, V = (W.alloc (.cells #[.int .i64 y0, .int .i64 y1] 33)).alloc (.cells #[.int .i64 0, .int .i64 0] 33) := ⟨_, rfl⟩
  have HBV : Hid (Below W.heap.size W V) := Lib.hid (by rw [hV]; exact ((Below.refl _ _).alloc (Nat.le_refl _) _).alloc (by simp) _)
  have HP := Lib.hid (show PairAt V W.heap.size y0 y1 by rw [hV]; exact (pair_new W y0 y1 _).alloc _)
  have HR := Lib.hid (show PairAt V (W.heap.size + 1) 0 0 by rw [hV]; have h := pair_new (W.alloc (.cells #[.int .i64 y0, .int .i64 y1] 33)) 0 0 33; rw [World.size_alloc] at h; exact h)
  have hz : V.heap.size = W.heap.size + 2 := by rw [hV]; simp
  obtain ⟨p, q, hpq⟩ : ∃ p q, iv xs k = (p, q) := ⟨_, _, rfl⟩
  rw [hpq] at hk0 hk1
  have hv0 := (HBV.out.cell (p := ⟨b2, o2 + k * 2, none⟩) hb2).trans hk0
  have hv1 := (HBV.out.cell (p := ⟨b2, o2 + k * 2 + 1, none⟩) hb2).trans hk1
  have HV0 := Lib.hid hv0
  have HV1 := Lib.hid hv1
  have hpb := ivsOk_true.1 hok k (by rw [HLX.out]; exact hk)
  rw [hpq] at hpb
  simp only at hpb
  obtain ⟨lo, hlo⟩ : ∃ r, r = narLo z (y0, y1) xs k := ⟨_, rfl⟩
  obtain ⟨hi, hhi⟩ : ∃ r, r = narHi z (y0, y1) xs k := ⟨_, rfl⟩
  have HLO : Hid (lo = maxV p (y0 - othHi z xs k lb)) := Lib.hid (by rw [hlo]; unfold narLo; rw [hpq, HLX.out])
  have HHI : Hid (hi = minV q (y1 - othLo z xs k lb)) := Lib.hid (by rw [hhi]; unfold narHi; rw [hpq, HLX.out])
  rw [← hlo, ← hhi]
  clear hz1 hk0 hk1 hv0 hv1 hlo hhi hpq hsv hok
  go_enter Try.func53, Try.ntmps53
  go_wp2_with fail
  rw [← hV]
  clear hV
  go_loopw [9, 10, 11] (fun s9 s10 s11 wr => ∃ (i : Nat) (A B : Int), i ≤ lb ∧ s9 = .int .i64 A ∧ s10 = .int .i64 B ∧ s11 = .int .i64 i ∧ Hid (A = othLo z xs k i ∧ B = othHi z xs k i) ∧ wr = V) (fun _ _ s11 _ => lb - (intOf s11).toNat)
  case atStart => exact ⟨0, 0, 0, Nat.zero_le _, rfl, rfl, rfl, Lib.hid ⟨rfl, rfl⟩, rfl⟩
  case round =>
    obtain ⟨i, A, B, hi', rfl, rfl, rfl, HAB, rfl⟩ := hrel
    have hbd := oth_bound HOK.out k i (by rw [HLX.out]; exact hi') (z := z)
    rw [← HAB.out.1, ← HAB.out.2] at hbd
    by_cases hlt : i < lb
    · have hc := (HBV.out.cell (p := ⟨b1, o1 + i, none⟩) hb1).trans (HZ.out i (by omega))
      have hx0 := (HBV.out.cell (p := ⟨b2, o2 + i * 2, none⟩) hb2).trans (HX.out i hlt).1
      have hx1 := (HBV.out.cell (p := ⟨b2, o2 + i * 2 + 1, none⟩) hb2).trans (HX.out i hlt).2
      obtain ⟨c, hcx⟩ : ∃ c, c = z.getD i 0 := ⟨_, rfl⟩
      obtain ⟨u, v, huv⟩ : ∃ u v, iv xs i = (u, v) := ⟨_, _, rfl⟩
      have hub := ivsOk_true.1 HOK.out i (by rw [HLX.out]; exact hlt)
      rw [huv] at hub hx0 hx1
      simp only at hub
      rw [← hcx] at hc
      have HC := Lib.hid hcx
      have HUV := Lib.hid huv
      clear hcx huv
      by_cases hik : i = k
      · have HN := Lib.hid (oth_skip (z := z) (xs := xs) (k := k) (i := i) (fun h => h.1 hik))
        subst hik
        go_wp2
        go_roundw
        case rel => exact ⟨i + 1, A, B, by omega, rfl, rfl, by go_num, Lib.hid ⟨by rw [HN.out.1]; exact HAB.out.1, by rw [HN.out.2]; exact HAB.out.2⟩, trivial⟩
        case measure => simp [intOf]; omega
      · have hik2 : ¬ (i : Int) = (k : Int) := by omega
        by_cases hc1 : c = 1
        · have HN := Lib.hid (oth_next (z := z) (xs := xs) (k := k) (i := i) ⟨hik, by rw [← HC.out]; exact hc1⟩)
          subst hc1
          obtain ⟨A2, hA2⟩ : ∃ A2, A2 = A + u := ⟨_, rfl⟩
          obtain ⟨B2, hB2⟩ : ∃ B2, B2 = B + v := ⟨_, rfl⟩
          have w1 : IntKind.i64.wrap (A + u) = A2 := (IntWalk.i64_in _ (by omega)).trans hA2.symm
          have w2 : IntKind.i64.wrap (B + v) = B2 := (IntWalk.i64_in _ (by omega)).trans hB2.symm
          have HN2 : Hid (A2 = othLo z xs k (i + 1) ∧ B2 = othHi z xs k (i + 1)) := Lib.hid ⟨by rw [HN.out.1, HUV.out, hA2, HAB.out.1], by rw [HN.out.2, HUV.out, hB2, HAB.out.2]⟩
          clear hA2 hB2 hbd hub
          go_wp2
          go_roundw
          case rel => exact ⟨i + 1, A2, B2, by omega, rfl, rfl, by go_num, HN2, trivial⟩
          case measure => simp [intOf]; omega
        · have HN := Lib.hid (oth_skip (z := z) (xs := xs) (k := k) (i := i) (fun h => hc1 (by rw [HC.out]; exact h.2)))
          have hc2 : (c == 1) = false := by simp [hc1]
          clear hbd hub
          go_wp2
          go_roundw
          case rel => exact ⟨i + 1, A, B, by omega, rfl, rfl, by go_num, Lib.hid ⟨by rw [HN.out.1]; exact HAB.out.1, by rw [HN.out.2]; exact HAB.out.2⟩, trivial⟩
          case measure => simp [intOf]; omega
    · obtain rfl : i = lb := by omega
      obtain ⟨d0, hd0⟩ : ∃ d, d = y0 - B := ⟨_, rfl⟩
      obtain ⟨d1, hd1⟩ : ∃ d, d = y1 - A := ⟨_, rfl⟩
      have w1 : IntKind.i64.wrap (y0 - B) = d0 := (IntWalk.i64_in _ (by omega)).trans hd0.symm
      have w2 : IntKind.i64.wrap (y1 - A) = d1 := (IntWalk.i64_in _ (by omega)).trans hd1.symm
      have HLO2 : Hid (lo = maxV p d0) := Lib.hid (by rw [HLO.out, hd0, HAB.out.2])
      have HHI2 : Hid (hi = minV q d1) := Lib.hid (by rw [HHI.out, hd1, HAB.out.1])
      have y0c := HP.out.c0
      have y1c := HP.out.c1
      have v0 := HV0.out
      have v1 := HV1.out
      have r0 := HR.out.c0
      have r1 := HR.out.c1
      have s0 := HR.out.f0
      have s1 := HR.out.f1
      have i0k : (0 : Int) ≤ (k : Int) := by omega
      have i1k : (k : Int) < (i : Int) := by omega
      have hne1 : ¬ b2 = W.heap.size + 1 := by omega
      have hne2 : ¬ W.heap.size + 1 = b2 := by omega
      clear hd0 hd1 hbd hpb hy0 hy1
      go_wp2_with fail
      go_region_held3 (fun w' => (w'.cell? ⟨W.heap.size, 0, none⟩ = some (.int .i64 y0) ∧ w'.cell? ⟨W.heap.size, 1, none⟩ = some (.int .i64 y1)) ∧ (w'.cell? ⟨b2, o2 + k * 2, none⟩ = some (.int .i64 p) ∧ w'.cell? ⟨b2, o2 + k * 2 + 1, none⟩ = some (.int .i64 q))) (go_keep) (first
        | (go_at_call 72; refine (specMax_any p d0 _).mono ?_; rw [← HLO2.out]; rintro e w' ⟨rfl, rfl⟩)
        | (go_at_call 73; refine (specMin_any q d1 _).mono ?_; rw [← HHI2.out]; rintro e w' ⟨rfl, rfl⟩))
      all_goals go_wp2_with fail
      all_goals
        refine bodyPost_ret (v := .agg #[.int .i64 lo, .int .i64 hi]) (by simp [results, Try.results53, go_sem, r0, r1]) rfl ⟨rfl, ?_⟩
        repeat (first | exact HBV.out | exact HBV.out.drew | refine Below.setCell ?_ (by simp <;> omega) _ | refine Below.drew ?_)
end Go.Proofs.Ythcinjlghhfhmaa
