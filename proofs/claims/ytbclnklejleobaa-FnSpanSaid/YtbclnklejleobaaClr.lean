/- How the model clears a column of a row. -/
import Derived.Test.YtbclnklejleobaaLead
import Derived.Test.YtbclnklejleobaaStepSl
import Derived.Deep.RegionHeld3
namespace Go.Proofs.Ytbclnklejleobaa
open Go.RowKit
theorem mul_fit {x y A B C : Int} (hx : -A ≤ x ∧ x ≤ A) (hy : -B ≤ y ∧ y ≤ B) (hA : 0 ≤ A) (hB : 0 ≤ B) (hC : A * B = C) : -C ≤ x * y ∧ x * y ≤ C := by
  have h : (x * y).natAbs ≤ A.toNat * B.toNat := by
    rw [Int.natAbs_mul]
    exact Nat.mul_le_mul (by omega) (by omega)
  have h2 : ((A.toNat * B.toNat : Nat) : Int) = C := by
    rw [← hC, Int.natCast_mul]
    congr 1 <;> omega
  omega
/-- The products and their difference stay in range. -/
theorem comb_fit {x y u t : Int} (hx : -2000000000 ≤ x ∧ x ≤ 2000000000) (hy : -2000000000 ≤ y ∧ y ≤ 2000000000) (hu : -1000000000 ≤ u ∧ u ≤ 1000000000) (ht : -1000000000 ≤ t ∧ t ≤ 1000000000) :
    (-2000000000000000000 ≤ x * u ∧ x * u ≤ 2000000000000000000) ∧ (-2000000000000000000 ≤ y * t ∧ y * t ≤ 2000000000000000000) ∧ -4000000000000000000 ≤ x * u - y * t ∧ x * u - y * t ≤ 4000000000000000000 := by
  have h1 := mul_fit hx hu (by decide) (by decide) (C := 2000000000000000000) (by decide)
  have h2 := mul_fit hy ht (by decide) (by decide) (C := 2000000000000000000) (by decide)
  refine ⟨h1, h2, ?_, ?_⟩ <;> omega
theorem combL_fit {a p : List Int} {k : Nat} (ha : Fit 2000000000 a) (hp : Fit 2000000000 p) (hak : -1000000000 ≤ vec a k ∧ vec a k ≤ 1000000000) (hpk : -1000000000 ≤ vec p k ∧ vec p k ≤ 1000000000) : Fit 4000000000000000000 (combL a p k) := by
  intro j
  rcases Nat.lt_or_ge j a.length with hj | hj
  · rw [combL_at hj]
    exact (comb_fit (ha j) (hp j) hpk hak).2.2
  · rw [vec_beyond (by rw [combL_len]; exact hj)]
    decide
theorem combL_next {a p : List Int} {k j : Nat} (hj : j < a.length) : (combL a p k).take j ++ [vec a j * vec p k - vec p j * vec a k] = (combL a p k).take (j + 1) := by
  rw [List.take_succ_eq_append_getElem (by rw [combL_len]; exact hj)]
  have := combL_at (p := p) (k := k) hj
  rw [← this]
  simp [vec, List.getD, combL_len, hj]
set_option maxHeartbeats 1600000 in
theorem specClear_any (W : World) (a : Option Addr) (len ca : Nat) (b : Option Addr) (cb : Nat) (zs ys : List Int) (k : Nat) (hl : len ≤ 1073741824) (hk : k < len) (hs : Sees .i64 W a len zs) (hs2 : Sees .i64 W b len ys)
    (hf : Fit 2000000000 zs) (hf2 : Fit 2000000000 ys) (hzk : -1000000000 ≤ vec zs k ∧ vec zs k ≤ 1000000000) (hyk : -1000000000 ≤ vec ys k ∧ vec ys k ≤ 1000000000) :
    Calls Try.prog 55 #[.slice a len ca, .slice b len cb, .int .i64 (k : Int)] W (Made .i64 3 (clearL zs ys k) W) := by
  have HS := Lib.hid hs
  have HS2 := Lib.hid hs2
  have HL := Lib.hid hs.1
  have HF := Lib.hid hf
  have HF2 := Lib.hid hf2
  have HZK := Lib.hid hzk
  have HYK := Lib.hid hyk
  clear hs hs2 hf hf2 hzk hyk
  obtain ⟨i0, hi, hz0, hz1, hz2⟩ := info_parts info_i64
  go_enter Try.func55, Try.ntmps55
  go_wp2_with fail
  go_loopw [7, 8] (fun v i wr => ∃ (j : Nat) (a' : Option Addr) (l' c' : Nat), j ≤ len ∧ i = .int .i64 j ∧ v = .slice a' l' c' ∧ Own .i64 3 wr W.heap.size wr.heap.size a' l' c' ((combL zs ys k).take j) ∧ Below W.heap.size W wr) (fun _ i _ => len - (intOf i).toNat)
  case atStart => exact ⟨0, _, _, _, Nat.zero_le _, rfl, rfl, (own_nil _ _ _).wide (Nat.le_refl _) (by simp) (Nat.le_refl _), (Below.refl _ _).alloc (Nat.le_refl _) _⟩
  case round =>
    obtain ⟨j, a', l', c', hj, rfl, rfl, ho, hb⟩ := hrel
    have HO := Lib.hid ho
    have HB := Lib.hid hb
    have hsz := hb.size
    have hl' : l' ≤ 1073741824 := by have h := ho.1; rw [List.length_take, combL_len, HL.out] at h; have := Nat.min_le_left j len; omega
    by_cases hlt : j < len
    · rcases HS.out.2.2 with h0 | ⟨b1, o1, rfl, hb1, hcell1⟩
      · omega
      · rcases HS2.out.2.2 with h0 | ⟨b2, o2, rfl, hb2, hcell2⟩
        · omega
        · have c1 := (hb.cell (p := ⟨b1, o1 + j, none⟩) hb1).trans (hcell1 j hlt)
          have c2 := (hb.cell (p := ⟨b2, o2 + k, none⟩) hb2).trans (hcell2 k hk)
          have c3 := (hb.cell (p := ⟨b2, o2 + j, none⟩) hb2).trans (hcell2 j hlt)
          have c4 := (hb.cell (p := ⟨b1, o1 + k, none⟩) hb1).trans (hcell1 k hk)
          obtain ⟨f1, f2, f3, f4⟩ := comb_fit (HF.out j) (HF2.out j) HYK.out HZK.out
          have HN := Lib.hid (combL_next (p := ys) (k := k) (j := j) (a := zs) (by rw [HL.out]; exact hlt))
          obtain ⟨x, hx⟩ : ∃ x, x = vec zs j := ⟨_, rfl⟩
          obtain ⟨u, hu⟩ : ∃ u, u = vec ys k := ⟨_, rfl⟩
          obtain ⟨y, hy⟩ : ∃ y, y = vec ys j := ⟨_, rfl⟩
          obtain ⟨t, ht⟩ : ∃ t, t = vec zs k := ⟨_, rfl⟩
          rw [show zs.getD j 0 = x from hx.symm] at c1
          rw [show ys.getD k 0 = u from hu.symm] at c2
          rw [show ys.getD j 0 = y from hy.symm] at c3
          rw [show zs.getD k 0 = t from ht.symm] at c4
          rw [← hx, ← hu] at f1
          rw [← hy, ← ht] at f2
          rw [← hx, ← hu, ← hy, ← ht] at f3 f4 HN
          obtain ⟨m1, e1⟩ : ∃ m, x * u = m := ⟨_, rfl⟩
          obtain ⟨m2, e2⟩ : ∃ m, y * t = m := ⟨_, rfl⟩
          obtain ⟨r, e3⟩ : ∃ r, m1 - m2 = r := ⟨_, rfl⟩
          rw [e1] at f1 f3 f4 HN
          rw [e2] at f2 f3 f4 HN
          rw [e3] at f3 f4 HN
          have w1 : IntKind.i64.wrap (x * u) = m1 := by rw [e1]; exact IntWalk.i64_in _ (by omega)
          have w2 : IntKind.i64.wrap (y * t) = m2 := by rw [e2]; exact IntWalk.i64_in _ (by omega)
          have w3 : IntKind.i64.wrap (m1 - m2) = r := by rw [e3]; exact IntWalk.i64_in _ (by omega)
          have hj0 : (0 : Int) ≤ (j : Int) := Int.natCast_nonneg _
          have hk0 : (0 : Int) ≤ (k : Int) := Int.natCast_nonneg _
          have hji : (j : Int) < (len : Int) := by omega
          have hki : (k : Int) < (len : Int) := by omega
          clear hcell1 hcell2 ho hb hx hu hy ht e1 e2 e3 f1 f2
          go_wp2_with fail
          go_region_held3 (fun w' => w'.cell? ⟨b1, o1 + j, none⟩ = some (.int .i64 x) ∧ w'.cell? ⟨b2, o2 + k, none⟩ = some (.int .i64 u) ∧ w'.cell? ⟨b2, o2 + j, none⟩ = some (.int .i64 y) ∧ w'.cell? ⟨b1, o1 + k, none⟩ = some (.int .i64 t)) (go_keep) (first
            | (refine step_append_sees rfl _ _ 29 rfl 3 i0 .i64 8 Try.underlying29 hi hz0 hz1 hz2 _ _ _ _ rfl _ _ ((HO.out.alloc _).below (Below.refl _ _).drew) _ 1 1 [r] rfl ((sees_one (WalkArith.wf_i64 (by omega)) _ _).below (Below.refl _ _).drew) (by unfold maxLen; omega) (by omega) (by simp; omega) ?_; intro a4 len4 cap4 w4 hlen4 ho4 hm4; have hbb := hm4.below (B := W.heap.size) (Nat.le_refl _) (by simp; omega); have k1 : w4.cell? ⟨b1, o1 + j, none⟩ = some (.int .i64 x) := (hbb.cell (p := ⟨b1, o1 + j, none⟩) hb1).trans (by rw [World.cell?_drew, World.cell?_alloc_past _ _ _ (by omega)]; exact c1); have k2 : w4.cell? ⟨b2, o2 + k, none⟩ = some (.int .i64 u) := (hbb.cell (p := ⟨b2, o2 + k, none⟩) hb2).trans (by rw [World.cell?_drew, World.cell?_alloc_past _ _ _ (by omega)]; exact c2); have k3 : w4.cell? ⟨b2, o2 + j, none⟩ = some (.int .i64 y) := (hbb.cell (p := ⟨b2, o2 + j, none⟩) hb2).trans (by rw [World.cell?_drew, World.cell?_alloc_past _ _ _ (by omega)]; exact c3); have k4 : w4.cell? ⟨b1, o1 + k, none⟩ = some (.int .i64 t) := (hbb.cell (p := ⟨b1, o1 + k, none⟩) hb1).trans (by rw [World.cell?_drew, World.cell?_alloc_past _ _ _ (by omega)]; exact c4); clear hlen4 hbb; have HO4 := Lib.hid ho4; have HM4 := Lib.hid hm4; clear ho4 hm4))
          go_wp2
          go_roundw
          case rel => exact ⟨j + 1, _, _, _, by omega, by go_num, rfl, by rw [← HN.out]; exact HO4.out, below_moved ((HB.out.alloc hsz _).drew) HM4.out (Nat.le_refl _) (Nat.le_refl _)⟩
          case measure => simp [intOf]; omega
    · have HE : Hid ((combL zs ys k).take j = combL zs ys k) := Lib.hid (List.take_of_length_le (by rw [combL_len, HL.out]; omega))
      have HLL : Hid (l' = len) := Lib.hid (by have h := ho.1; rw [HE.out, combL_len, HL.out] at h; omega)
      clear ho hb
      go_wp2_with (go_at_call 72; refine (specTidy_any _ a' l' c' (combL zs ys k) hl' (by have h := HO.out.sees; rw [HE.out] at h; exact h) (combL_fit HF.out HF2.out HZK.out HYK.out)).mono ?_; rintro e w' ⟨a5, l5, c5, rfl, ho5, hb5⟩; have HO5 := Lib.hid (ho5.wide (lo2 := W.heap.size) hsz (Nat.le_refl _) (Nat.le_refl _)); have HB5 := Lib.hid (below_up HB.out hb5 (Nat.le_refl _)); clear ho5 hb5)
      go_ret
      exact ⟨_, _, _, rfl, HO5.out, HB5.out⟩
end Go.Proofs.Ytbclnklejleobaa
