/- Draws of chapter 7: a drawn network. -/
import Derived.Test.YtakhlbagjomgbaaDraw7
namespace Go.Proofs.Ytakhlbagjomgbaa
open Go.RowKit
theorem netD_new (W w1 : World) (B : Nat) (n : Int) (t t2 : TypeId) (hB : B < W.heap.size) (hg : (W.alloc (.cells #[.int .i64 0, .slice none 0 0] t)).grownBy w1 (some B)) (hc : Cur w1 B) : NetD W (w1.alloc (.cells #[.int .i64 n, .slice none 0 0] t2)) B w1.heap.size n none 0 0 [] := by
  have hs := hg.size
  simp at hs
  have hbR := hg.block W.heap.size (by simp) (by simp; omega)
  have hb := below_new w1 (.cells #[.int .i64 n, .slice none 0 0] t2)
  have cR : ∀ o, (w1.alloc (.cells #[.int .i64 n, .slice none 0 0] t2)).cell? ⟨W.heap.size, o, none⟩ = (W.alloc (.cells #[.int .i64 0, .slice none 0 0] t)).cell? ⟨W.heap.size, o, none⟩ := fun o => (hb.cell (p := ⟨W.heap.size, o, none⟩) (by simp; omega)).trans (World.cell?_of_block (a := ⟨W.heap.size, o, none⟩) hbR)
  have fR : ∀ o, (w1.alloc (.cells #[.int .i64 n, .slice none 0 0] t2)).frozen? ⟨W.heap.size, o, none⟩ = (W.alloc (.cells #[.int .i64 0, .slice none 0 0] t)).frozen? ⟨W.heap.size, o, none⟩ := fun o => (hb.frozen (p := ⟨W.heap.size, o, none⟩) (by simp; omega)).trans (World.frozen?_of_block (a := ⟨W.heap.size, o, none⟩) hbR)
  refine ⟨hB, by omega, by simp, by go_simp, by go_simp, by go_simp, by go_simp, (cR 0).trans (by go_simp), (cR 1).trans (by go_simp), (fR 0).trans (by go_simp), (fR 1).trans (by go_simp), ?_, (fun y hy => by cases hy), hc.alloc _, ?_⟩
  · exact ⟨rfl, (fun _ h => by cases h), Nat.le_refl _, ⟨rfl, .inl ⟨rfl, rfl⟩⟩, fun x hx => by cases hx⟩
  · exact grown_trans (grown_trans (World.grownBy_alloc W _ _) hg) (World.grownBy_alloc w1 _ _)
theorem NetD.cells {W w w' : World} {B X : Nat} {n : Int} {a : Option Addr} {len cap : Nat} {ls : List (Int × Int)} (h : NetD W w B X n a len cap ls) (hg : w.grownBy w' (a.map Addr.block)) : w'.cell? ⟨X, 1, none⟩ = some (.slice a len cap) ∧ w'.frozen? ⟨X, 1, none⟩ = false := by
  have hbX := hg.block X h.lt (fun e => by
    cases a with
    | none => simp at e
    | some x => simp at e; exact h.ne x rfl e.symm)
  exact ⟨(World.cell?_of_block (a := ⟨X, 1, none⟩) hbX).trans h.c1, (World.frozen?_of_block (a := ⟨X, 1, none⟩) hbX).trans h.f1⟩
set_option maxRecDepth 20000 in
set_option maxHeartbeats 3200000 in
theorem draw7_any (W : World) (B : Nat) (hc : Cur W B) : Calls Try.prog 55 #[.pointer (some ⟨B, 0, none⟩)] W (DrewNet B W) := by
  have HC := Lib.hid hc
  have hB := hc.lt
  clear hc
  obtain ⟨i0, hi, hz0, hz1, hz2⟩ := info_parts info_link
  go_enter Try.func55, Try.ntmps55
  go_wp2_with (go_at_call 49; refine (below_any _ B 4 (by decide) (HC.out.alloc _)).mono ?_; rintro e w1 ⟨x, ⟨hx0, hx1⟩, rfl, hc1, hg1⟩; have hx2 : x < 4 := (by omega); have HD1 := Lib.hid (netD_new W w1 B (4 + x) _ 26 hB hg1 hc1); clear hc1 hg1 hx1)
  obtain ⟨X, hX⟩ : ∃ X, X = w1.heap.size := ⟨_, rfl⟩
  rw [← hX] at HD1
  rw [← hX]
  obtain ⟨V, hV⟩ : ∃ V, V = w1.alloc (.cells #[.int .i64 (4 + x), .slice none 0 0] 26) := ⟨_, rfl⟩
  rw [← hV] at HD1
  rw [← hV]
  clear hV hX
  obtain ⟨n, hn⟩ : ∃ n, 4 + x = n := ⟨_, rfl⟩
  rw [hn] at HD1
  have hn4 : 4 ≤ n := by omega
  have hn7 : n ≤ 7 := by omega
  rw [hn]
  clear hn hx0 hx2
  go_loopw [4] (fun i wr => ∃ (l : Nat) (a' : Option Addr) (c' : Nat) (ls : List (Int × Int)), l ≤ 6 ∧ i = .int .i64 ((l : Int) + 1) ∧ Hid (NetD W wr B X n a' l c' ls)) (fun i _ => 8 - (intOf i).toNat)
  case atStart => exact ⟨0, none, 0, [], by omega, by simp, Lib.hid HD1.out⟩
  case round =>
    obtain ⟨l, a', c', ls, hl, rfl, HD⟩ := hrel
    have c0 := HD.out.c0
    have c1 := HD.out.c1
    by_cases h1 : (l : Int) + 1 < n
    · by_cases h2 : l < 6
      · have h3 : (l : Int) < 6 := by omega
        have f1 := HD.out.f1
        have HDD := Lib.hid (HD.out.below (Below.refl wr.heap.size wr).drew)
        go_wp2_with fail
        go_region_law (first
          | (refine step_append_lnk rfl _ _ 24 rfl i0 Try.underlying24 hi hz0 hz1 hz2 a' l c' ls rfl (W.heap.size + 1) _ (HD3.out.below (below_new _ _)).own _ _ (y, (l : Int) + 1) rfl (seesL_one (WalkArith.wf_i64 (by omega)) (WalkArith.wf_i64 (by omega)) _ _) (by omega) (by have h := HD3.out.hX; have h2 := HD3.out.lt; simp; omega) ?_; intro a7 c7 w7 ho7 hg7 hat7; have hcc := (HD3.out.below (below_new _ _)).cells hg7; have HN := Lib.hid ((HD3.out.below (below_new _ _)).more ho7 hg7 hat7); have c17 := hcc.1; have f17 := hcc.2; clear ho7 hg7 hat7 hcc)
          | (go_simp; go_at_call 49; refine (below_any _ B ((l : Int) + 1) (by omega) HDD.out.cur).mono ?_; rintro e w3 ⟨y, ⟨hy0, hy1⟩, rfl, hc3, hg3⟩; have hy2 : y ≤ 7 := (by omega); have HD3 := Lib.hid (HDD.out.draw hc3 hg3); have c13 := HD3.out.c1; have c13b := (HD3.out.below (below_new w3 (.cells #[.int .i64 y, .int .i64 ((l : Int) + 1)] 57))).c1; clear hc3 hg3 hy1))
        all_goals (go_wp2; go_roundw; (case rel => exact ⟨l + 1, a7, c7, _, by omega, by go_num, HN⟩); (case measure => simp [intOf]; omega))
      ·exfalso; omega
    · have HLL := Lib.hid (show 1 ≤ l ∧ l ≤ 6 by omega)
      clear hl
      go_wp2_with (go_at_call 49; refine (below_any _ B 3 (by decide) HD.out.cur).mono ?_; rintro e w4 ⟨z, ⟨hz0', hz1'⟩, rfl, hc4, hg4⟩; have hz3 : z < 3 := (by omega); have HD4 := Lib.hid (HD.out.draw hc4 hg4); clear hc4 hg4 hz1')
      obtain ⟨zn, rfl⟩ : ∃ k : Nat, z = k := ⟨z.toNat, by omega⟩
      clear c0 c1
      go_loopw [5, 6, 7] (fun i _ _ wr => ∃ (m l : Nat) (a' : Option Addr) (c' : Nat) (ls : List (Int × Int)), m ≤ 3 ∧ 1 ≤ l ∧ l ≤ 6 ∧ i = .int .i64 (m : Int) ∧ Hid (NetD W wr B X n a' l c' ls)) (fun i _ _ _ => (intOf i).toNat)
      case atStart => exact ⟨zn, l, a', c', ls, by omega, HLL.out.1, HLL.out.2, rfl, HD4⟩
      case round =>
        clear HD HD4
        obtain ⟨m, l, a', c', ls, hm3, hl1, hl6, rfl, HL⟩ := hrel
        by_cases h5 : 0 < m
        · have h5i : (0 : Int) < (m : Int) := by omega
          have c1 := HL.out.c1
          by_cases h6 : l < 6
          · have h6i : (l : Int) < 6 := by omega
            have c0 := HL.out.c0
            go_wp2_with fail
            go_at_call 49
            refine (below_any _ B n (by omega) HL.out.cur).mono ?_
            rintro e w5 ⟨u, ⟨hu0, hu1⟩, rfl, hc5, hg5⟩
            have hu2 : u ≤ 7 := by omega
            have HD5 := Lib.hid (HL.out.draw hc5 hg5)
            clear hc5 hg5 hu1
            have c0 := HD5.out.c0
            have c1 := HD5.out.c1
            go_wp2_with fail
            go_at_call 49
            refine (below_any _ B n (by omega) HD5.out.cur).mono ?_
            rintro e w6 ⟨v, ⟨hv0, hv1⟩, rfl, hc5, hg5⟩
            have hv2 : v ≤ 7 := by omega
            have HD6 := Lib.hid (HD5.out.draw hc5 hg5)
            clear hc5 hg5 hv1
            have c0 := HD6.out.c0
            have c1 := HD6.out.c1
            by_cases huv : u = v
            · subst huv
              go_wp2
              go_roundw
              case rel => exact ⟨m - 1, l, _, _, _, by omega, by omega, by omega, by go_num, HD6⟩
              case measure => simp [intOf]; omega
            · have huv2 : (u != v) = true := by simp [huv]
              obtain ⟨q, hq⟩ : ∃ q, lk ls u v = q := ⟨_, rfl⟩
              have HQ := Lib.hid hq
              clear hq
              by_cases hq0 : q < 0
              · go_wp2_with (first
                  | (go_at_call 22; refine (specLk_any _ n a' l c' ls u v (by omega) HD6.out.own.sees).mono ?_; rw [HQ.out]; rintro e w7 ⟨rfl, hb7⟩; have HD7 := Lib.hid (HD6.out.below hb7); have c1 := HD7.out.c1; clear hb7)
                  | (at_builtin; refine wp_append_lnk rfl _ _ 24 rfl i0 Try.underlying24 hi hz0 hz1 hz2 a' l c' ls rfl (W.heap.size + 1) _ (HD7.out.below (below_new _ _)).own _ _ (u, v) rfl (seesL_one (WalkArith.wf_i64 (by omega)) (WalkArith.wf_i64 (by omega)) _ _) (by omega) (by have h := HD7.out.hX; have h2 := HD7.out.lt; simp; omega) ?_; intro a8 c8 w8 ho8 hg8 hat8; have hcc := (HD7.out.below (below_new _ _)).cells hg8; have HN := Lib.hid ((HD7.out.below (below_new _ _)).more ho8 hg8 hat8); have c18 := hcc.1; have f18 := hcc.2; clear ho8 hg8 hat8 hcc))
                go_roundw
                case rel => exact ⟨m - 1, l + 1, _, _, _, by omega, by omega, by omega, by go_num, HN⟩
                case measure => simp [intOf]; omega
              · go_wp2_with (go_at_call 22; refine (specLk_any _ n a' l c' ls u v (by omega) HD6.out.own.sees).mono ?_; rw [HQ.out]; rintro e w7 ⟨rfl, hb7⟩; have HD7 := Lib.hid (HD6.out.below hb7); clear hb7)
                go_roundw
                case rel => exact ⟨m - 1, l, _, _, _, by omega, by omega, by omega, by go_num, HD7⟩
                case measure => simp [intOf]; omega
          · have h6i : ¬ (l : Int) < 6 := by omega
            have d0 := HL.out.c0
            have d1 := HL.out.c1
            have r0 := HL.out.r0
            have r1 := HL.out.r1
            have g0 := HL.out.g0
            have g1 := HL.out.g1
            have hXR := HL.out.hX
            go_wp2
            refine bodyPost_ret (v := .agg #[.int .i64 n, .slice a' l c']) (by simp [results, Try.results55, go_sem, r0, r1]) rfl ⟨n, a', l, c', ls, ⟨by omega, by omega⟩, ⟨hl1, hl6⟩, rfl, ?_, ?_, ?_⟩
            · have hm : Moved W.heap.size (W.heap.size + 1) wr ((wr.setCell ⟨W.heap.size, 0, none⟩ (.int .i64 n)).setCell ⟨W.heap.size, 1, none⟩ (.slice a' l c')) := (moved_set _ _ _ _ (Nat.le_refl _) (Nat.lt_succ_self _)).trans (moved_set _ _ _ _ (Nat.le_refl _) (Nat.lt_succ_self _))
              exact (HL.out.own.moved hm (.inr (Nat.le_refl _))).wide (Nat.le_refl _) hm.size (Nat.le_refl _)
            · exact (HL.out.cur.kept (grown_setCell _ _ _ _) (fun k e => by cases e; exact hB)).kept (grown_setCell _ _ _ _) (fun k e => by cases e; exact hB)
            · exact grown_newset (grown_newset HL.out.gr _ (Nat.le_refl _)) _ (Nat.le_refl _)
        · have h5i : ¬ (0 : Int) < (m : Int) := by omega
          have d0 := HL.out.c0
          have d1 := HL.out.c1
          have r0 := HL.out.r0
          have r1 := HL.out.r1
          have g0 := HL.out.g0
          have g1 := HL.out.g1
          have hXR := HL.out.hX
          go_wp2
          refine bodyPost_ret (v := .agg #[.int .i64 n, .slice a' l c']) (by simp [results, Try.results55, go_sem, r0, r1]) rfl ⟨n, a', l, c', ls, ⟨by omega, by omega⟩, ⟨hl1, hl6⟩, rfl, ?_, ?_, ?_⟩
          · have hm : Moved W.heap.size (W.heap.size + 1) wr ((wr.setCell ⟨W.heap.size, 0, none⟩ (.int .i64 n)).setCell ⟨W.heap.size, 1, none⟩ (.slice a' l c')) := (moved_set _ _ _ _ (Nat.le_refl _) (Nat.lt_succ_self _)).trans (moved_set _ _ _ _ (Nat.le_refl _) (Nat.lt_succ_self _))
            exact (HL.out.own.moved hm (.inr (Nat.le_refl _))).wide (Nat.le_refl _) hm.size (Nat.le_refl _)
          · exact (HL.out.cur.kept (grown_setCell _ _ _ _) (fun k e => by cases e; exact hB)).kept (grown_setCell _ _ _ _) (fun k e => by cases e; exact hB)
          · exact grown_newset (grown_newset HL.out.gr _ (Nat.le_refl _)) _ (Nat.le_refl _)
end Go.Proofs.Ytakhlbagjomgbaa
