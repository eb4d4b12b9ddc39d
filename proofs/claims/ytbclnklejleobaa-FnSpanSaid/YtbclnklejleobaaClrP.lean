/- How the program clears a column of a row in place. -/
import Derived.Test.YtbclnklejleobaaShort
import Derived.Test.YtbclnklejleobaaClr
namespace Go.Proofs.Ytbclnklejleobaa
open Go.RowKit
set_option maxRecDepth 20000 in
set_option maxHeartbeats 1600000 in
theorem clearCol_any (W : World) (lo hi : Nat) (a : Option Addr) (len cap : Nat) (b : Option Addr) (cb : Nat) (zs ys : List Int) (k : Nat) (hl : len ≤ 1073741824) (hk : k < len) (ho : Own .i64 3 W lo hi a len cap zs) (hs2 : Sees .i64 W b len ys) (hne : ∀ x, b = some x → ¬ (lo ≤ x.block ∧ x.block < hi))
    (hf : Fit 2000000000 zs) (hf2 : Fit 2000000000 ys) (hzk : -1000000000 ≤ vec zs k ∧ vec zs k ≤ 1000000000) (hyk : -1000000000 ≤ vec ys k ∧ vec ys k ≤ 1000000000) :
    Calls Try.prog 46 #[.slice a len cap, .slice b len cb, .int .i64 (k : Int)] W fun e w' => e = .returned (.tuple #[]) ∧ Own .i64 3 w' lo hi a len cap (clearL zs ys k) ∧ Moved lo hi W w' := by
  have HO0 := Lib.hid ho
  have HS := Lib.hid ho.sees
  have HS2 := Lib.hid hs2
  have HL := Lib.hid ho.1
  have HF := Lib.hid hf
  have HF2 := Lib.hid hf2
  have HZK := Lib.hid hzk
  have HYK := Lib.hid hyk
  rcases ho.spot with ⟨_, h0, _⟩ | ⟨g, rfl, hg1, hg2, _, _, hcell, _⟩
  · omega
  rcases hs2.2.2 with h0 | ⟨b2, o2, rfl, hb2, hcell2⟩
  · omega
  have hgW : g < W.heap.size := Nat.lt_of_lt_of_le hg2 ho.2.2.1
  have HNE := Lib.hid (hne _ rfl)
  have HC2 := Lib.hid hcell2
  have c1 := hcell k hk
  have c2 := hcell2 k hk
  obtain ⟨t, ht⟩ : ∃ t, t = vec zs k := ⟨_, rfl⟩
  obtain ⟨u, hu⟩ : ∃ u, u = vec ys k := ⟨_, rfl⟩
  rw [show zs.getD k 0 = t from ht.symm] at c1
  rw [show ys.getD k 0 = u from hu.symm] at c2
  have HT := Lib.hid ht
  have HU := Lib.hid hu
  have hk0 : (0 : Int) ≤ (k : Int) := Int.natCast_nonneg _
  have hki : (k : Int) < (len : Int) := by omega
  clear ho hs2 hf hf2 hzk hyk hcell hcell2 ht hu hne
  go_enter Try.func46, Try.ntmps46
  go_wp2_with fail
  go_quiet (fail)
  go_wp2_with fail
  go_loopw [19, 8] (fun i _ wr => ∃ j : Nat, j ≤ len ∧ i = .int .i64 j ∧ Own .i64 3 wr lo hi (some ⟨g, 0, none⟩) len cap (over (combL zs ys k) zs j) ∧ Moved lo hi W wr) (fun i _ _ => len - (intOf i).toNat)
  case atStart => exact ⟨0, Nat.zero_le _, rfl, by rw [over_zero]; exact HO0.out.below (below_drewN0 _ _ _), Moved.drewN _ _ _ _⟩
  case round =>
    obtain ⟨j, hj, rfl, ho, hb⟩ := hrel
    have HO := Lib.hid ho
    have HB := Lib.hid hb
    by_cases hjl : j < len
    · have hsp := ho.spot
      rcases hsp with ⟨hx, _⟩ | ⟨g', hg', _, _, _, _, hcs, hfz⟩
      · cases hx
      · cases hg'
        have hcd := hcs j hjl
        have hfd := hfz j
        rw [over_ahead (by rw [combL_len]) (by rw [HL.out]; exact hjl)] at hcd
        have hcy := (World.cell?_of_block (w := W) (a := ⟨b2, o2 + j, none⟩) (hb.block b2 hb2 HNE.out)).trans (HC2.out j hjl)
        obtain ⟨f1, f2, f3, f4⟩ := comb_fit (HF.out j) (HF2.out j) HYK.out HZK.out
        obtain ⟨x, hx⟩ : ∃ x, x = vec zs j := ⟨_, rfl⟩
        obtain ⟨y, hy⟩ : ∃ y, y = vec ys j := ⟨_, rfl⟩
        rw [show zs.getD j 0 = x from hx.symm] at hcd
        rw [show ys.getD j 0 = y from hy.symm] at hcy
        rw [← hx, ← HU.out, Int.mul_comm x u] at f1
        rw [← hy, ← HT.out, Int.mul_comm y t] at f2
        rw [← hx, ← hy, ← HU.out, ← HT.out, Int.mul_comm x u, Int.mul_comm y t] at f3 f4
        obtain ⟨m1, e1⟩ : ∃ m, u * x = m := ⟨_, rfl⟩
        obtain ⟨m2, e2⟩ : ∃ m, t * y = m := ⟨_, rfl⟩
        obtain ⟨r, e3⟩ : ∃ r, m1 - m2 = r := ⟨_, rfl⟩
        rw [e1] at f1 f3 f4
        rw [e2] at f2 f3 f4
        rw [e3] at f3 f4
        have w1 : IntKind.i64.wrap (u * x) = m1 := by rw [e1]; exact IntWalk.i64_in _ (by omega)
        have w2 : IntKind.i64.wrap (t * y) = m2 := by rw [e2]; exact IntWalk.i64_in _ (by omega)
        have w3 : IntKind.i64.wrap (m1 - m2) = r := by rw [e3]; exact IntWalk.i64_in _ (by omega)
        have HN : Hid ((combL zs ys k).getD j 0 = r) := Lib.hid (by
          show vec (combL zs ys k) j = r
          rw [combL_at (by rw [HL.out]; exact hjl), ← e3, ← e1, ← e2, hx, hy, HU.out, HT.out, Int.mul_comm (vec ys k), Int.mul_comm (vec zs k)])
        have hj0 : (0 : Int) ≤ (j : Int) := Int.natCast_nonneg _
        have hji : (j : Int) < (len : Int) := by omega
        clear hcs hfz ho hb hx hy e1 e2 e3 f1 f2
        go_wp2_with fail
        go_region_with (fail)
        all_goals (go_wp2)
        all_goals
          go_roundw
          case rel =>
            have hst := (HO.out.below (Below.refl _ _).drew).stored j r (WalkArith.wf_i64 (by omega))
            have e := over_set (combL zs ys k) zs j (by rw [combL_len]) (by rw [combL_len, HL.out]; exact hjl)
            rw [HN.out] at e
            rw [e] at hst
            exact ⟨j + 1, by omega, by go_num, hst.1, (HB.out.trans (Moved.drewN _ _ _ 1)).trans hst.2⟩
          case measure => simp [intOf]; omega
    · clear ho hb
      obtain rfl : j = len := by omega
      have e : over (combL zs ys k) zs j = combL zs ys k := by
        have := over_all (combL zs ys k) zs (by rw [combL_len])
        rwa [combL_len, HL.out] at this
      have HE := Lib.hid e
      clear e
      go_wp2_with (go_at_call 61; refine (shorten_any _ lo hi _ j cap (combL zs ys k) hl (by have h := HO.out; rw [HE.out] at h; exact h) (combL_fit HF.out HF2.out HZK.out HYK.out)).mono ?_; rintro e w' ⟨rfl, ho5, hb5⟩; have HO5 := Lib.hid ho5; have HB5 := Lib.hid hb5; clear ho5 hb5)
      go_end0
      exact ⟨rfl, HO5.out, HB.out.trans HB5.out⟩
end Go.Proofs.Ytbclnklejleobaa
