/- Draws of chapter 7: networks that may have a fault, and two nodes. -/
import Derived.Test.YtakhlbagjomgbaaDraw7b
namespace Go.Proofs.Ytakhlbagjomgbaa
open Go.RowKit
theorem netD_from (W w1 : World) (B : Nat) (n : Int) (a : Option Addr) (len cap : Nat) (ls : List (Int × Int)) (t t2 : TypeId) (hB : B < W.heap.size) (hg : (W.alloc (.cells #[.int .i64 0, .slice none 0 0] t)).grownBy w1 (some B)) (hc : Cur w1 B) (ho : OwnL w1 (W.heap.size + 1) w1.heap.size a len cap ls) :
    NetD W (w1.alloc (.cells #[.int .i64 n, .slice a len cap] t2)) B w1.heap.size n a len cap ls := by
  have hs := hg.size
  simp at hs
  have hbR := hg.block W.heap.size (by simp) (by simp; omega)
  have hb := below_new w1 (.cells #[.int .i64 n, .slice a len cap] t2)
  have cR : ∀ o, (w1.alloc (.cells #[.int .i64 n, .slice a len cap] t2)).cell? ⟨W.heap.size, o, none⟩ = (W.alloc (.cells #[.int .i64 0, .slice none 0 0] t)).cell? ⟨W.heap.size, o, none⟩ := fun o => (hb.cell (p := ⟨W.heap.size, o, none⟩) (by simp; omega)).trans (World.cell?_of_block (a := ⟨W.heap.size, o, none⟩) hbR)
  have fR : ∀ o, (w1.alloc (.cells #[.int .i64 n, .slice a len cap] t2)).frozen? ⟨W.heap.size, o, none⟩ = (W.alloc (.cells #[.int .i64 0, .slice none 0 0] t)).frozen? ⟨W.heap.size, o, none⟩ := fun o => (hb.frozen (p := ⟨W.heap.size, o, none⟩) (by simp; omega)).trans (World.frozen?_of_block (a := ⟨W.heap.size, o, none⟩) hbR)
  refine ⟨hB, by omega, by simp, by go_simp, by go_simp, by go_simp, by go_simp, (cR 0).trans (by go_simp), (cR 1).trans (by go_simp), (fR 0).trans (by go_simp), (fR 1).trans (by go_simp), (ho.below hb).wide (Nat.le_refl _) hb.size (Nat.le_refl _), fun y hy => ?_, hc.alloc _, grown_trans (grown_trans (World.grownBy_alloc W _ _) hg) (World.grownBy_alloc w1 _ _)⟩
  have := (ho.2.2.2.2 y hy).2
  omega
/-- The number of nodes is put in its place. -/
theorem NetD.node {W w : World} {B X : Nat} {n : Int} {a : Option Addr} {len cap : Nat} {ls : List (Int × Int)} (h : NetD W w B X n a len cap ls) (n' : Int) : NetD W (w.setCell ⟨X, 0, none⟩ (.int .i64 n')) B X n' a len cap ls := by
  have hB := h.hB
  have hX := h.hX
  have far : ∀ o, (w.setCell ⟨X, 0, none⟩ (.int .i64 n')).cell? ⟨W.heap.size, o, none⟩ = w.cell? ⟨W.heap.size, o, none⟩ := fun o => World.cell?_setCell_other w _ _ _ (fun e => by have := congrArg Addr.block e; simp at this; omega)
  have hm : Moved X (X + 1) w (w.setCell ⟨X, 0, none⟩ (.int .i64 n')) := Moved.of_grown (grown_setCell _ _ _ _) (Nat.le_refl _) (Nat.lt_succ_self _)
  refine ⟨hB, hX, by simpa [World.setCell] using h.lt, World.cell?_setCell_same w _ _ h.c0, (World.cell?_setCell_other w _ _ _ (fun e => by have := congrArg Addr.off e; simp at this)).trans h.c1, by simp only [World.frozen?_setCell]; exact h.f0, by simp only [World.frozen?_setCell]; exact h.f1, (far 0).trans h.r0, (far 1).trans h.r1, by simp only [World.frozen?_setCell]; exact h.g0, by simp only [World.frozen?_setCell]; exact h.g1, ?_, h.ne, h.cur.kept (grown_setCell _ _ _ _) (fun k e => by cases e; omega), grown_newset h.gr _ (by omega)⟩
  obtain ⟨o1, o2, o3, o4, o5⟩ := h.own
  refine ⟨o1, o2, by simp [World.setCell], ⟨o4.1, ?_⟩, fun y hy => ⟨(o5 y hy).1, by simpa [World.setCell] using (o5 y hy).2⟩⟩
  rcases o4.2 with h3 | ⟨g, c, cur, hv, hlo, hgb, rest⟩
  · exact .inl h3
  · refine .inr ⟨g, c, cur, hv, hlo, ?_, rest⟩
    have hgs := (Array.getElem?_eq_some_iff.1 hgb).1
    simp only [Value.slice.injEq, true_and] at hv
    have hne := h.ne _ hv.1
    simp only at hne
    rw [hm.block g hgs (by omega)]
    exact hgb
/-- The first link's second end is put in its place. -/
theorem NetD.poke {W w : World} {B X g : Nat} {n : Int} {len cap : Nat} {ls : List (Int × Int)} (h : NetD W w B X n (some ⟨g, 0, none⟩) len cap ls) (hl : 1 ≤ len) (y : Int) (hy : (Lit.int .i64 y).wf = true) : ∃ ls', NetD W (w.setCell ⟨g, 1, none⟩ (.int .i64 y)) B X n (some ⟨g, 0, none⟩) len cap ls' := by
  have hB := h.hB
  have hX := h.hX
  have hgX := h.ne _ rfl
  simp only at hgX
  have hglo := (h.own.2.2.2.2 _ rfl).1
  simp only at hglo
  have hfit := h.own.2.1 _ (getL_mem (l := ls) (j := 0) (by rw [h.own.1]; exact hl))
  obtain ⟨o1, o2, o3, o4, o5⟩ := h.own
  have hst1 : ∃ ls', OwnL (w.setCell ⟨g, 1, none⟩ (.int .i64 y)) (W.heap.size + 1) w.heap.size (some ⟨g, 0, none⟩) len cap ls' := by
    cases ls with
    | nil => simp at o1; omega
    | cons p r =>
      have hs := (o4.stored 1 (.int .i64 y)).1
      refine ⟨(p.1, y) :: r, by simpa using o1, fun q hq => ?_, by simp [World.setCell], hs, o5⟩
      rcases List.mem_cons.1 hq with rfl | hq
      · exact ⟨hfit.1, hy⟩
      · exact o2 q (List.mem_cons_of_mem _ hq)
  obtain ⟨ls', hst1⟩ := hst1
  have far : ∀ b o, b ≠ g → (w.setCell ⟨g, 1, none⟩ (.int .i64 y)).cell? ⟨b, o, none⟩ = w.cell? ⟨b, o, none⟩ := fun b o hb => World.cell?_setCell_other w _ _ _ (fun e => by have := congrArg Addr.block e; simp at this; omega)
  refine ⟨_, hB, hX, by simpa [World.setCell] using h.lt, (far X 0 (Ne.symm hgX)).trans h.c0, (far X 1 (Ne.symm hgX)).trans h.c1, by simp only [World.frozen?_setCell]; exact h.f0, by simp only [World.frozen?_setCell]; exact h.f1, (far _ 0 (by omega)).trans h.r0, (far _ 1 (by omega)).trans h.r1, by simp only [World.frozen?_setCell]; exact h.g0, by simp only [World.frozen?_setCell]; exact h.g1, hst1.wide (Nat.le_refl _) (by simp [World.setCell]) (Nat.le_refl _), h.ne, h.cur.kept (grown_setCell _ _ _ _) (fun k e => by cases e; omega), grown_newset h.gr _ (by omega)⟩
def DrewAny (B : Nat) (W : World) (e : Ending) (w' : World) : Prop := ∃ (n : Int) (a : Option Addr) (len cap : Nat) (ls : List (Int × Int)), IsI64 n ∧ len ≤ 7 ∧ e = .returned (.agg #[.int .i64 n, .slice a len cap]) ∧ OwnL w' (W.heap.size + 1) w'.heap.size a len cap ls ∧ Cur w' B ∧ W.grownBy w' (some B)
set_option maxRecDepth 20000 in
set_option maxHeartbeats 6400000 in
theorem any7_any (W : World) (B : Nat) (hc : Cur W B) : Calls Try.prog 48 #[.pointer (some ⟨B, 0, none⟩)] W (DrewAny B W) := by
  have HC := Lib.hid hc
  have hB := hc.lt
  clear hc
  obtain ⟨i0, hi, hz0, hz1, hz2⟩ := info_parts info_link
  go_enter Try.func48, Try.ntmps48
  go_wp2_with fail
  refine (draw7_any _ B (HC.out.alloc _)).mono ?_
  rintro e w1 ⟨n, a, len, cap, ls, hn, ⟨hl1, hl6⟩, rfl, ho1, hc1, hg1⟩
  have HD1 := Lib.hid (netD_from W w1 B n a len cap ls _ 26 hB hg1 hc1 (by have h := ho1; simp at h; exact h.wide (by omega) (Nat.le_refl _) (Nat.le_refl _)))
  have HNI := Lib.hid hn
  clear hc1 hg1 ho1 hn
  go_wp2_with fail
  obtain ⟨X, hX⟩ : ∃ X, X = w1.heap.size := ⟨_, rfl⟩
  rw [← hX] at HD1
  rw [← hX]
  obtain ⟨V, hV⟩ : ∃ V, V = w1.alloc (.cells #[.int .i64 n, .slice a len cap] 26) := ⟨_, rfl⟩
  rw [← hV] at HD1
  rw [← hV]
  clear hV hX
  refine (below_any V B 10 (by decide) HD1.out.cur).mono ?_
  rintro e w2 ⟨z, ⟨hz0', hz1'⟩, rfl, hc2, hg2⟩
  have hz9 : z ≤ 9 := by omega
  have HD2 := Lib.hid (HD1.out.draw hc2 hg2)
  clear hc2 hg2 hz1'
  have c0 := HD2.out.c0
  have c1 := HD2.out.c1
  have f0 := HD2.out.f0
  have f1 := HD2.out.f1
  by_cases hq0 : z = 0
  · subst hq0
    go_wp2_with (go_at_call 56; refine (int_new w2 B 4 [0, 3, 8, 9] _ 3 rfl rfl (by decide) (by decide) HD2.out.cur).mono ?_; rintro e w3 ⟨y, hy, rfl, hc3, hg3⟩; have HY := Lib.hid ((show ∀ y ∈ [(0 : Int), 3, 8, 9], IsI64 y by intro y hy; simp at hy; unfold IsI64; omega) _ hy); have HD3 := Lib.hid (HD2.out.draw hc3 hg3); have d0 := HD3.out.c0; have d1 := HD3.out.c1; have e0 := HD3.out.f0; have HD4 := Lib.hid (HD3.out.node y); have hXR := HD3.out.hX; have s0 := HD3.out.r0; have s1 := HD3.out.r1; have t0 := HD3.out.g0; have t1 := HD3.out.g1; clear hc3 hg3 hy)
    have d0 := HD4.out.c0
    have d1 := HD4.out.c1
    have r0 := HD4.out.r0
    have r1 := HD4.out.r1
    have g0 := HD4.out.g0
    have g1 := HD4.out.g1
    have hXR := HD4.out.hX
    go_wp2
    refine bodyPost_ret (v := .agg #[.int .i64 y, .slice a (len) cap]) (by simp [results, Try.results48, go_sem, r0, r1]) rfl ⟨y, a, len, cap, ls, HY.out, by omega, rfl, ?_, ?_, ?_⟩
    · have hm : Moved W.heap.size (W.heap.size + 1) (w3.setCell ⟨X, 0, none⟩ (.int .i64 y)) (((w3.setCell ⟨X, 0, none⟩ (.int .i64 y)).setCell ⟨W.heap.size, 0, none⟩ (.int .i64 y)).setCell ⟨W.heap.size, 1, none⟩ (.slice a (len) cap)) := (moved_set _ _ _ _ (Nat.le_refl _) (Nat.lt_succ_self _)).trans (moved_set _ _ _ _ (Nat.le_refl _) (Nat.lt_succ_self _))
      exact (HD4.out.own.moved hm (.inr (Nat.le_refl _))).wide (Nat.le_refl _) hm.size (Nat.le_refl _)
    · exact (HD4.out.cur.kept (grown_setCell _ _ _ _) (fun k e => by cases e; exact hB)).kept (grown_setCell _ _ _ _) (fun k e => by cases e; exact hB)
    · exact grown_newset (grown_newset HD4.out.gr _ (Nat.le_refl _)) _ (Nat.le_refl _)
  by_cases hq1 : z = 1
  · subst hq1
    rcases HD2.out.own.spot with ⟨_, h0, _⟩ | ⟨g, rfl, _⟩
    · omega
    have hl0 : 0 < len := hl1
    have hl0i : (0 : Int) < (len : Int) := by omega
    have hne : w2.heap.size ≠ B := by have := HD2.out.cur.lt; omega
    have HDA : Hid (NetD W (w2.alloc (.cells #[.int .i64 (-1), .int .i64 0, .int .i64 8, .int .i64 9223372036854775807] 3)).drew B X n (some ⟨g, 0, none⟩) len cap ls) := Lib.hid ((HD2.out.below (below_new w2 (.cells #[.int .i64 (-1), .int .i64 0, .int .i64 8, .int .i64 9223372036854775807] 3))).below (Below.refl _ _).drew)
    have c1b := (HD2.out.below (below_new w2 (.cells #[.int .i64 (-1), .int .i64 0, .int .i64 8, .int .i64 9223372036854775807] 3))).c1
    go_wp2_with fail
    go_region_law (first
      | (go_simp; go_at_call 56; refine (int_any _ B w2.heap.size 4 [-1, 0, 8, 9223372036854775807] rfl (by decide) (by decide) (fun j hj => by rw [World.cell?_drew]; exact intsAt_new w2 [-1, 0, 8, 9223372036854775807] _ _ rfl j hj) hne HDA.out.cur).mono ?_; rintro e w3 ⟨y, hy, rfl, hc3, hg3⟩; have HYW := Lib.hid ((show ∀ y ∈ [(-1 : Int), 0, 8, 9223372036854775807], (Lit.int .i64 y).wf = true by decide) _ hy); have HD3 := Lib.hid (HDA.out.draw hc3 hg3); have d1 := HD3.out.c1; have hsp := HD3.out.own.spotAt 0 hl1; have k1 := hsp.2.1; have kf := hsp.2.2 1; simp only [Nat.zero_mul, Nat.zero_add] at k1; have hpk := HD3.out.poke hl1 y HYW.out; have HPK := Lib.hid hpk; clear hc3 hg3 hy hsp hpk))
    all_goals
      obtain ⟨ls2, HQ⟩ := HPK.out
      have d0 := HQ.c0
      have d1 := HQ.c1
      have r0 := HQ.r0
      have r1 := HQ.r1
      have g0 := HQ.g0
      have g1 := HQ.g1
      have hXR := HQ.hX
      go_wp2
      refine bodyPost_ret (v := .agg #[.int .i64 n, .slice (some ⟨g, 0, none⟩) (len) cap]) (by simp [results, Try.results48, go_sem, r0, r1]) rfl ⟨n, (some ⟨g, 0, none⟩), len, cap, ls2, HNI.out, by omega, rfl, ?_, ?_, ?_⟩
      · have hm : Moved W.heap.size (W.heap.size + 1) (w3.setCell ⟨g, 1, none⟩ (.int .i64 y)) (((w3.setCell ⟨g, 1, none⟩ (.int .i64 y)).setCell ⟨W.heap.size, 0, none⟩ (.int .i64 n)).setCell ⟨W.heap.size, 1, none⟩ (.slice (some ⟨g, 0, none⟩) (len) cap)) := (moved_set _ _ _ _ (Nat.le_refl _) (Nat.lt_succ_self _)).trans (moved_set _ _ _ _ (Nat.le_refl _) (Nat.lt_succ_self _))
        exact (HQ.own.moved hm (.inr (Nat.le_refl _))).wide (Nat.le_refl _) hm.size (Nat.le_refl _)
      · exact (HQ.cur.kept (grown_setCell _ _ _ _) (fun k e => by cases e; exact hB)).kept (grown_setCell _ _ _ _) (fun k e => by cases e; exact hB)
      · exact grown_newset (grown_newset HQ.gr _ (Nat.le_refl _)) _ (Nat.le_refl _)
  by_cases hq2 : z = 2
  · subst hq2
    rcases HD2.out.own.spot with ⟨_, h0, _⟩ | ⟨g, rfl, _⟩
    · omega
    have hl0 : 0 < len := hl1
    have hl0i : (0 : Int) < (len : Int) := by omega
    have HDA : Hid (NetD W w2.drew B X n (some ⟨g, 0, none⟩) len cap ls) := Lib.hid (HD2.out.below (Below.refl w2.heap.size w2).drew)
    have hsp := HDA.out.own.spotAt 0 hl1
    have hfit := HDA.out.own.2.1 _ (getL_mem (l := ls) (j := 0) (by rw [HDA.out.own.1]; exact hl1))
    obtain ⟨s, t, hst⟩ : ∃ s t, ls.getD 0 (0, 0) = (s, t) := ⟨_, _, rfl⟩
    rw [hst] at hsp hfit
    have k0 := hsp.1
    have k1 := hsp.2.1
    simp only [Nat.zero_mul, Nat.zero_add] at k0 k1
    have HFT := Lib.hid hfit
    have c1b := (HD2.out.below (below_new w2 (.cells #[.int .i64 s, .int .i64 t] 57))).c1
    have HDL : Hid (NetD W (w2.alloc (.cells #[.int .i64 s, .int .i64 t] 57)).drew B X n (some ⟨g, 0, none⟩) len cap ls) := Lib.hid ((HD2.out.below (below_new w2 (.cells #[.int .i64 s, .int .i64 t] 57))).below (Below.refl _ _).drew)
    have HSL : Hid (SeesL (w2.alloc (.cells #[.int .i64 s, .int .i64 t] 57)).drew (some ⟨w2.heap.size, 0, none⟩) 1 [(s, t)]) := Lib.hid ((seesL_one HFT.out.1 HFT.out.2 w2 57).below (Below.refl _ _).drew)
    clear hsp hfit hst
    go_wp2_with fail
    go_region_law (refine step_append_lnk rfl _ _ 24 rfl i0 Try.underlying24 hi hz0 hz1 hz2 (some ⟨g, 0, none⟩) len cap ls rfl (W.heap.size + 1) _ HDL.out.own _ _ (s, t) rfl HSL.out (by omega) (by have h := HDL.out.hX; have h2 := HDL.out.lt; omega) ?_; intro a7 c7 w7 ho7 hg7 hat7; have hcc := HDL.out.cells hg7; have HN := Lib.hid (HDL.out.more ho7 hg7 hat7); have c17 := hcc.1; have f17 := hcc.2; clear ho7 hg7 hat7 hcc)
    all_goals
      have d0 := HN.out.c0
      have d1 := HN.out.c1
      have r0 := HN.out.r0
      have r1 := HN.out.r1
      have g0 := HN.out.g0
      have g1 := HN.out.g1
      have hXR := HN.out.hX
      go_wp2
      refine bodyPost_ret (v := .agg #[.int .i64 n, .slice a7 (len + 1) c7]) (by simp [results, Try.results48, go_sem, r0, r1]) rfl ⟨n, a7, len + 1, c7, (ls ++ [(s, t)]), HNI.out, by omega, rfl, ?_, ?_, ?_⟩
      · have hm : Moved W.heap.size (W.heap.size + 1) (w7.setCell ⟨X, 1, none⟩ (.slice a7 (len + 1) c7)) (((w7.setCell ⟨X, 1, none⟩ (.slice a7 (len + 1) c7)).setCell ⟨W.heap.size, 0, none⟩ (.int .i64 n)).setCell ⟨W.heap.size, 1, none⟩ (.slice a7 (len + 1) c7)) := (moved_set _ _ _ _ (Nat.le_refl _) (Nat.lt_succ_self _)).trans (moved_set _ _ _ _ (Nat.le_refl _) (Nat.lt_succ_self _))
        exact (HN.out.own.moved hm (.inr (Nat.le_refl _))).wide (Nat.le_refl _) hm.size (Nat.le_refl _)
      · exact (HN.out.cur.kept (grown_setCell _ _ _ _) (fun k e => by cases e; exact hB)).kept (grown_setCell _ _ _ _) (fun k e => by cases e; exact hB)
      · exact grown_newset (grown_newset HN.out.gr _ (Nat.le_refl _)) _ (Nat.le_refl _)
  by_cases hq3 : z = 3
  · subst hq3
    have HD3 := Lib.hid (HD2.out.store (row := none) (a' := none) (len' := 0) (cap' := 0) (ls' := []) (grown_refl w2 none) (by simp) (by simp) ⟨rfl, (fun _ h => by cases h), Nat.le_refl _, ⟨rfl, .inl ⟨rfl, rfl⟩⟩, fun x hx => by cases hx⟩ (fun y hy => by cases hy))
    have d0 := HD3.out.c0
    have d1 := HD3.out.c1
    have r0 := HD3.out.r0
    have r1 := HD3.out.r1
    have g0 := HD3.out.g0
    have g1 := HD3.out.g1
    have hXR := HD3.out.hX
    go_wp2
    refine bodyPost_ret (v := .agg #[.int .i64 n, .slice none (0) 0]) (by simp [results, Try.results48, go_sem, r0, r1]) rfl ⟨n, none, 0, 0, [], HNI.out, by omega, rfl, ?_, ?_, ?_⟩
    · have hm : Moved W.heap.size (W.heap.size + 1) (w2.setCell ⟨X, 1, none⟩ (.slice none 0 0)) (((w2.setCell ⟨X, 1, none⟩ (.slice none 0 0)).setCell ⟨W.heap.size, 0, none⟩ (.int .i64 n)).setCell ⟨W.heap.size, 1, none⟩ (.slice none (0) 0)) := (moved_set _ _ _ _ (Nat.le_refl _) (Nat.lt_succ_self _)).trans (moved_set _ _ _ _ (Nat.le_refl _) (Nat.lt_succ_self _))
      exact (HD3.out.own.moved hm (.inr (Nat.le_refl _))).wide (Nat.le_refl _) hm.size (Nat.le_refl _)
    · exact (HD3.out.cur.kept (grown_setCell _ _ _ _) (fun k e => by cases e; exact hB)).kept (grown_setCell _ _ _ _) (fun k e => by cases e; exact hB)
    · exact grown_newset (grown_newset HD3.out.gr _ (Nat.le_refl _)) _ (Nat.le_refl _)
  · have d0 := HD2.out.c0
    have d1 := HD2.out.c1
    have r0 := HD2.out.r0
    have r1 := HD2.out.r1
    have g0 := HD2.out.g0
    have g1 := HD2.out.g1
    have hXR := HD2.out.hX
    go_wp2
    refine bodyPost_ret (v := .agg #[.int .i64 n, .slice a (len) cap]) (by simp [results, Try.results48, go_sem, r0, r1]) rfl ⟨n, a, len, cap, ls, HNI.out, by omega, rfl, ?_, ?_, ?_⟩
    · have hm : Moved W.heap.size (W.heap.size + 1) w2 ((w2.setCell ⟨W.heap.size, 0, none⟩ (.int .i64 n)).setCell ⟨W.heap.size, 1, none⟩ (.slice a (len) cap)) := (moved_set _ _ _ _ (Nat.le_refl _) (Nat.lt_succ_self _)).trans (moved_set _ _ _ _ (Nat.le_refl _) (Nat.lt_succ_self _))
      exact (HD2.out.own.moved hm (.inr (Nat.le_refl _))).wide (Nat.le_refl _) hm.size (Nat.le_refl _)
    · exact (HD2.out.cur.kept (grown_setCell _ _ _ _) (fun k e => by cases e; exact hB)).kept (grown_setCell _ _ _ _) (fun k e => by cases e; exact hB)
    · exact grown_newset (grown_newset HD2.out.gr _ (Nat.le_refl _)) _ (Nat.le_refl _)
end Go.Proofs.Ytakhlbagjomgbaa
