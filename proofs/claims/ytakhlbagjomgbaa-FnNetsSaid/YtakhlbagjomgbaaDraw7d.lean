/- Draws of chapter 7: what the law draws. -/
import Derived.Test.YtakhlbagjomgbaaDraw7c
namespace Go.Proofs.Ytakhlbagjomgbaa
open Go.RowKit
def GotNet (w : World) (e : Ending) (w' : World) : Prop :=
  ∃ (n : Int) (a : Option Addr) (len cap : Nat) (ls : List (Int × Int)) (x y : Int), len ≤ 7 ∧ IsI64 x ∧ IsI64 y ∧ e = .returned (.tuple #[.agg #[.int .i64 n, .slice a len cap], .int .i64 x, .int .i64 y]) ∧ SeesL w' a len ls ∧ (∀ p, a = some p → w.heap.size < p.block) ∧ Below w.heap.size w w'
theorem OwnL.grown {w w' : World} {lo hi B : Nat} {a : Option Addr} {len cap : Nat} {ls : List (Int × Int)} (h : OwnL w lo hi a len cap ls) (hg : w.grownBy w' (some B)) (hB : B < lo) : OwnL w' lo hi a len cap ls :=
  h.moved (Moved.of_grown hg (lo := B) (hi := B + 1) (Nat.le_refl _) (Nat.lt_succ_self _)) (.inr hB)
set_option maxRecDepth 20000 in
set_option maxHeartbeats 1200000 in
theorem drawLk_any (W : World) (a0 : Option Addr) (len0 cap0 : Nat) (hl : len0 ≤ 1048576) (hc : CodeAt W W.heap.size a0 len0) : Calls Try.prog 33 #[.slice a0 len0 cap0] W (GotNet W) := by
  obtain ⟨V, hV⟩ : ∃ V, V = W.alloc (.cells #[.int .i64 0, .slice none 0 0] 26) := ⟨_, rfl⟩
  have hbV : Below W.heap.size W V := by rw [hV]; exact below_new _ _
  have hzV : V.heap.size = W.heap.size + 1 := by rw [hV]; simp
  have r0 : V.cell? ⟨W.heap.size, 0, none⟩ = some (.int .i64 0) := by rw [hV]; go_simp
  have r1 : V.cell? ⟨W.heap.size, 1, none⟩ = some (.slice none 0 0) := by rw [hV]; go_simp
  have g0 : V.frozen? ⟨W.heap.size, 0, none⟩ = false := by rw [hV]; go_simp
  have g1 : V.frozen? ⟨W.heap.size, 1, none⟩ = false := by rw [hV]; go_simp
  have HBV := Lib.hid hbV
  have hcV : CodeAt V V.heap.size a0 len0 := (hc.below hbV).mono (by omega)
  have HCV := Lib.hid hcV
  clear hbV hc hcV
  go_enter Try.func33, Try.ntmps33
  go_wp2_with fail
  rw [← hV]
  clear hV
  refine (new_any V a0 len0 cap0 hl HCV.out).mono ?_
  rintro e w1 ⟨rfl, hc1, hb1, hlt1⟩
  rw [hzV] at hc1 hlt1
  have HB1 := Lib.hid (below_up HBV.out hb1 (by omega))
  have r0 := (hb1.cell (p := ⟨W.heap.size, 0, none⟩) (by simp; omega)).trans r0
  have r1 := (hb1.cell (p := ⟨W.heap.size, 1, none⟩) (by simp; omega)).trans r1
  have g0 := (hb1.frozen (p := ⟨W.heap.size, 0, none⟩) (by simp; omega)).trans g0
  have g1 := (hb1.frozen (p := ⟨W.heap.size, 1, none⟩) (by simp; omega)).trans g1
  have HC1 := Lib.hid hc1
  clear hb1 hc1
  go_wp2_with fail
  refine (any7_any w1 (W.heap.size + 1) HC1.out).mono ?_
  rintro e w2 ⟨n, a, len, cap, ls, hn, hl7, rfl, ho2, hc2, hg2⟩
  have HB2 := Lib.hid (HB1.out.trans ((grown_below' hg2 (by omega)).mono (by omega)))
  have hbR := hg2.block W.heap.size (by omega) (by simp)
  have r0 := (World.cell?_of_block (a := ⟨W.heap.size, 0, none⟩) hbR).trans r0
  have r1 := (World.cell?_of_block (a := ⟨W.heap.size, 1, none⟩) hbR).trans r1
  have g0 := (World.frozen?_of_block (a := ⟨W.heap.size, 0, none⟩) hbR).trans g0
  have g1 := (World.frozen?_of_block (a := ⟨W.heap.size, 1, none⟩) hbR).trans g1
  have hsz2 := hg2.size
  have HO2 := Lib.hid ho2
  have HC2 := Lib.hid hc2
  clear hbR hg2 ho2 hc2
  go_wp2_with fail
  obtain ⟨V2, hV2⟩ : ∃ V2, V2 = w2.alloc (.cells #[.int .i64 n, .slice a len cap] 26) := ⟨_, rfl⟩
  have hb2 : Below w2.heap.size w2 V2 := by rw [hV2]; exact below_new _ _
  have hz2 : V2.heap.size = w2.heap.size + 1 := by rw [hV2]; simp
  have HB2b := Lib.hid (below_up HB2.out hb2 (by have := HB2.out.size; omega))
  have x0 : V2.cell? ⟨w2.heap.size, 0, none⟩ = some (.int .i64 n) := by rw [hV2]; go_simp
  have x1 : V2.cell? ⟨w2.heap.size, 1, none⟩ = some (.slice a len cap) := by rw [hV2]; go_simp
  have r0 := (hb2.cell (p := ⟨W.heap.size, 0, none⟩) (by simp; omega)).trans r0
  have r1 := (hb2.cell (p := ⟨W.heap.size, 1, none⟩) (by simp; omega)).trans r1
  have g0 := (hb2.frozen (p := ⟨W.heap.size, 0, none⟩) (by simp; omega)).trans g0
  have g1 := (hb2.frozen (p := ⟨W.heap.size, 1, none⟩) (by simp; omega)).trans g1
  have HO3 := Lib.hid (HO2.out.below hb2)
  have HC3 := Lib.hid (HC2.out.belowN hb2)
  rw [← hV2]
  clear hV2 hb2
  refine (below_any V2 (W.heap.size + 1) 9 (by decide) HC3.out).mono ?_
  rintro e w3 ⟨z, ⟨hz0, hz1⟩, rfl, hc4, hg4⟩
  have hz9 : z ≤ 9 := by omega
  have hbR := hg4.block W.heap.size (by omega) (by simp)
  have hbX := hg4.block w2.heap.size (by omega) (by simp; omega)
  have r0 := (World.cell?_of_block (a := ⟨W.heap.size, 0, none⟩) hbR).trans r0
  have r1 := (World.cell?_of_block (a := ⟨W.heap.size, 1, none⟩) hbR).trans r1
  have g0 := (World.frozen?_of_block (a := ⟨W.heap.size, 0, none⟩) hbR).trans g0
  have g1 := (World.frozen?_of_block (a := ⟨W.heap.size, 1, none⟩) hbR).trans g1
  have x0 := (World.cell?_of_block (a := ⟨w2.heap.size, 0, none⟩) hbX).trans x0
  have x1 := (World.cell?_of_block (a := ⟨w2.heap.size, 1, none⟩) hbX).trans x1
  have hsz4 := hg4.size
  have HO4 := Lib.hid (HO3.out.grown hg4 (by omega))
  have HC4 := Lib.hid (hc4.belowN (Below.refl w3.heap.size w3).drew)
  have HB4 := Lib.hid (HB2b.out.trans ((grown_below' hg4 (by omega)).mono (by omega)))
  have HRX : Hid (w3.cell? ⟨W.heap.size, 0, none⟩ = some (.int .i64 0) ∧ w3.cell? ⟨W.heap.size, 1, none⟩ = some (.slice none 0 0) ∧ w3.frozen? ⟨W.heap.size, 0, none⟩ = false ∧ w3.frozen? ⟨W.heap.size, 1, none⟩ = false ∧ w3.cell? ⟨w2.heap.size, 0, none⟩ = some (.int .i64 n) ∧ w3.cell? ⟨w2.heap.size, 1, none⟩ = some (.slice a len cap)) := Lib.hid ⟨r0, r1, g0, g1, x0, x1⟩
  clear hbR hbX hc4 hg4 hz1
  go_wp2_with fail
  go_region_law (first
    | (go_simp; go_at_call 49; refine (below_any _ (W.heap.size + 1) 9 (by decide) HC4.out).mono ?_; rintro e w5 ⟨y, ⟨hy0, hy1⟩, rfl, hc5, hg5⟩; have hy9 : y ≤ 9 := (by omega); have hwy : IntKind.i64.wrap (y - 1) = y - 1 := (IntWalk.i64_in _ (by omega)); have hbR := hg5.block W.heap.size (by simp; omega) (by simp); have hbX := hg5.block w2.heap.size (by simp; omega) (by simp; omega); have s0 := (World.cell?_of_block (a := ⟨W.heap.size, 0, none⟩) hbR).trans HRX.out.1; have s1 := (World.cell?_of_block (a := ⟨W.heap.size, 1, none⟩) hbR).trans HRX.out.2.1; have t0 := (World.frozen?_of_block (a := ⟨W.heap.size, 0, none⟩) hbR).trans HRX.out.2.2.1; have t1 := (World.frozen?_of_block (a := ⟨W.heap.size, 1, none⟩) hbR).trans HRX.out.2.2.2.1; have q0 := (World.cell?_of_block (a := ⟨w2.heap.size, 0, none⟩) hbX).trans HRX.out.2.2.2.2.1; have q1 := (World.cell?_of_block (a := ⟨w2.heap.size, 1, none⟩) hbX).trans HRX.out.2.2.2.2.2; have HG5 := Lib.hid hg5; clear hbR hbX hc5 hg5 hy1))
  all_goals
    go_wp2
    refine bodyPost_ret (v := .tuple #[.agg #[.int .i64 n, .slice a len cap], .int .i64 (z - 1), .int .i64 (y - 1)]) (by simp [results, Try.results33, go_sem, s0, s1]) rfl ⟨n, a, len, cap, ls, z - 1, y - 1, hl7, ⟨by omega, by omega⟩, ⟨by omega, by omega⟩, rfl, ?_, fun p hp => by have h := (HO2.out.2.2.2.2 p hp).1; omega, ?_⟩
    · have hm : Moved W.heap.size (W.heap.size + 1) w5 ((w5.setCell ⟨W.heap.size, 0, none⟩ (.int .i64 n)).setCell ⟨W.heap.size, 1, none⟩ (.slice a len cap)) := (moved_set _ _ _ _ (Nat.le_refl _) (Nat.lt_succ_self _)).trans (moved_set _ _ _ _ (Nat.le_refl _) (Nat.lt_succ_self _))
      exact (((HO4.out.below (Below.refl w3.heap.size w3).drew).grown HG5.out (by omega)).moved hm (.inr (by omega))).sees
    · have hm : Moved W.heap.size (W.heap.size + 1) w5 ((w5.setCell ⟨W.heap.size, 0, none⟩ (.int .i64 n)).setCell ⟨W.heap.size, 1, none⟩ (.slice a len cap)) := (moved_set _ _ _ _ (Nat.le_refl _) (Nat.lt_succ_self _)).trans (moved_set _ _ _ _ (Nat.le_refl _) (Nat.lt_succ_self _))
      have hb5 := (grown_below' HG5.out (by simp; omega)).mono (show W.heap.size ≤ W.heap.size + 1 by omega)
      exact below_moved ((HB4.out.drew).trans hb5) hm (Nat.le_refl _) (Nat.le_refl _)
set_option maxRecDepth 20000 in
set_option maxHeartbeats 1200000 in
theorem drawRt_any (W : World) (a0 : Option Addr) (len0 cap0 : Nat) (hl : len0 ≤ 1048576) (hc : CodeAt W W.heap.size a0 len0) : Calls Try.prog 11 #[.slice a0 len0 cap0] W (GotNet W) := by
  obtain ⟨V, hV⟩ : ∃ V, V = W.alloc (.cells #[.int .i64 0, .slice none 0 0] 26) := ⟨_, rfl⟩
  have hbV : Below W.heap.size W V := by rw [hV]; exact below_new _ _
  have hzV : V.heap.size = W.heap.size + 1 := by rw [hV]; simp
  have r0 : V.cell? ⟨W.heap.size, 0, none⟩ = some (.int .i64 0) := by rw [hV]; go_simp
  have r1 : V.cell? ⟨W.heap.size, 1, none⟩ = some (.slice none 0 0) := by rw [hV]; go_simp
  have g0 : V.frozen? ⟨W.heap.size, 0, none⟩ = false := by rw [hV]; go_simp
  have g1 : V.frozen? ⟨W.heap.size, 1, none⟩ = false := by rw [hV]; go_simp
  have HBV := Lib.hid hbV
  have HCV := Lib.hid (show CodeAt V V.heap.size a0 len0 from (hc.below hbV).mono (by omega))
  clear hbV hc
  go_enter Try.func11, Try.ntmps11
  go_wp2_with fail
  rw [← hV]
  clear hV
  refine (drawLk_any V a0 len0 cap0 hl HCV.out).mono ?_
  rintro e w1 ⟨n, a, len, cap, ls, x, y, hl7, hx, hy, rfl, hs1, hp1, hb1⟩
  have HB1 := Lib.hid (below_up HBV.out hb1 (by omega))
  have r0 := (hb1.cell (p := ⟨W.heap.size, 0, none⟩) (by simp; omega)).trans r0
  have r1 := (hb1.cell (p := ⟨W.heap.size, 1, none⟩) (by simp; omega)).trans r1
  have g0 := (hb1.frozen (p := ⟨W.heap.size, 0, none⟩) (by simp; omega)).trans g0
  have g1 := (hb1.frozen (p := ⟨W.heap.size, 1, none⟩) (by simp; omega)).trans g1
  have HS1 := Lib.hid hs1
  clear hb1 hs1
  go_wp2
  refine bodyPost_ret (v := .tuple #[.agg #[.int .i64 n, .slice a len cap], .int .i64 x, .int .i64 y]) (by simp [results, Try.results11, go_sem, r0, r1]) rfl ⟨n, a, len, cap, ls, x, y, hl7, hx, hy, rfl, ?_, fun p hp => by have h := hp1 p hp; omega, ?_⟩
  · have hm : Moved W.heap.size (W.heap.size + 1) w1 ((w1.setCell ⟨W.heap.size, 0, none⟩ (.int .i64 n)).setCell ⟨W.heap.size, 1, none⟩ (.slice a len cap)) := (moved_set _ _ _ _ (Nat.le_refl _) (Nat.lt_succ_self _)).trans (moved_set _ _ _ _ (Nat.le_refl _) (Nat.lt_succ_self _))
    exact HS1.out.moved hm (fun p hp => by have h := hp1 p hp; omega)
  · have hm : Moved W.heap.size (W.heap.size + 1) w1 ((w1.setCell ⟨W.heap.size, 0, none⟩ (.int .i64 n)).setCell ⟨W.heap.size, 1, none⟩ (.slice a len cap)) := (moved_set _ _ _ _ (Nat.le_refl _) (Nat.lt_succ_self _)).trans (moved_set _ _ _ _ (Nat.le_refl _) (Nat.lt_succ_self _))
    exact below_moved HB1.out hm (Nat.le_refl _) (Nat.le_refl _)
end Go.Proofs.Ytakhlbagjomgbaa
