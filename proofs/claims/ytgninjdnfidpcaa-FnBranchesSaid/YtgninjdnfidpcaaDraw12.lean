/- Draws of chapter 12: branches. -/
import Derived.Test.YtgninjdnfidpcaaDrawB
import Derived.Test.YtgninjdnfidpcaaDrawNum
import Derived.Test.YtgninjdnfidpcaaStepSl
import Derived.Test.YtgninjdnfidpcaaBrL
import Derived.Deep.RegionHeld3
namespace Go.Proofs.Ytgninjdnfidpcaa
open Go.RowKit
/-- Block g holds a branch that is being drawn. -/
structure BrD (w : World) (g : Nat) (n : Int) (a : Option Addr) (l c : Nat) : Prop where
  c0 : w.cell? ⟨g, 0, none⟩ = some (.int .i64 n)
  c1 : w.cell? ⟨g, 1, none⟩ = some (.slice a l c)
  f0 : w.frozen? ⟨g, 0, none⟩ = false
  f1 : w.frozen? ⟨g, 1, none⟩ = false
  lt : g < w.heap.size
theorem brD_new (w : World) (n : Int) (a : Option Addr) (l c : Nat) (t : TypeId) : BrD (w.alloc (.cells #[.int .i64 n, .slice a l c] t)) w.heap.size n a l c := ⟨by go_simp, by go_simp, by go_simp, by go_simp, by simp⟩
theorem BrD.keep {w w' : World} {g : Nat} {n : Int} {a : Option Addr} {l c : Nat} (h : BrD w g n a l c) (hb : w'.heap[g]? = w.heap[g]?) (hs : w.heap.size ≤ w'.heap.size) : BrD w' g n a l c :=
  ⟨(World.cell?_of_block (w := w) (a := ⟨g, 0, none⟩) hb).trans h.c0, (World.cell?_of_block (w := w) (a := ⟨g, 1, none⟩) hb).trans h.c1, (World.frozen?_of_block (w := w) (a := ⟨g, 0, none⟩) hb).trans h.f0, (World.frozen?_of_block (w := w) (a := ⟨g, 1, none⟩) hb).trans h.f1, Nat.lt_of_lt_of_le h.lt hs⟩
theorem BrD.below {w w' : World} {g : Nat} {n : Int} {a : Option Addr} {l c : Nat} (h : BrD w g n a l c) (hb : Below w.heap.size w w') : BrD w' g n a l c := h.keep (hb.block g h.lt) hb.size
theorem BrD.alloc {w : World} {g : Nat} {n : Int} {a : Option Addr} {l c : Nat} (h : BrD w g n a l c) (o : Obj) : BrD (w.alloc o) g n a l c := h.below (below_newB _ _)
theorem BrD.grown {w w' : World} {g B : Nat} {n : Int} {a : Option Addr} {l c : Nat} (h : BrD w g n a l c) (hg : w.grownBy w' (some B)) (hne : g ≠ B) : BrD w' g n a l c := h.keep (hg.block g h.lt (by simpa using hne)) hg.size
theorem BrD.moved {w w' : World} {g lo hi : Nat} {n : Int} {a : Option Addr} {l c : Nat} (h : BrD w g n a l c) (hm : Moved lo hi w w') (ho : ¬ (lo ≤ g ∧ g < hi)) : BrD w' g n a l c := h.keep (hm.block g h.lt ho) hm.size
theorem BrD.put0 {w : World} {g : Nat} {n : Int} {a : Option Addr} {l c : Nat} (h : BrD w g n a l c) (m : Int) : BrD (w.setCell ⟨g, 0, none⟩ (.int .i64 m)) g m a l c := by
  obtain ⟨h0, h1, h2, h3, h4⟩ := h
  exact ⟨by go_simp, by go_simp, by go_simp, by go_simp, by simpa [World.setCell] using h4⟩
theorem BrD.put1 {w : World} {g : Nat} {n : Int} {a : Option Addr} {l c : Nat} (h : BrD w g n a l c) (a' : Option Addr) (l' c' : Nat) : BrD (w.setCell ⟨g, 1, none⟩ (.slice a' l' c')) g n a' l' c' := by
  obtain ⟨h0, h1, h2, h3, h4⟩ := h
  exact ⟨by go_simp, by go_simp, by go_simp, by go_simp, by simpa [World.setCell] using h4⟩
theorem Own.someI {k : IntKind} {e : TypeId} {w : World} {lo hi : Nat} {a : Option Addr} {len cap : Nat} {zs : List Int} (h : Own k e w lo hi a len cap zs) (hl : 0 < len) : ∃ g, a = some ⟨g, 0, none⟩ := by
  rcases h.spot with ⟨_, h0, _⟩ | ⟨g, hg, _⟩
  · omega
  · exact ⟨g, hg⟩
theorem Own.cellI {k : IntKind} {e : TypeId} {w : World} {lo hi g : Nat} {len cap : Nat} {zs : List Int} (h : Own k e w lo hi (some ⟨g, 0, none⟩) len cap zs) (hl : 0 < len) : w.cell? ⟨g, 0, none⟩ = some (.int k (zs.getD 0 0)) := by
  rcases h.spot with ⟨h0, _⟩ | ⟨g', hg, _, _, _, _, hc, _⟩
  · cases h0
  · cases hg; exact hc 0 hl
theorem Own.freeI {k : IntKind} {e : TypeId} {w : World} {lo hi g : Nat} {len cap : Nat} {zs : List Int} (h : Own k e w lo hi (some ⟨g, 0, none⟩) len cap zs) : w.frozen? ⟨g, 0, none⟩ = false := by
  rcases h.spot with ⟨h0, _⟩ | ⟨g', hg, _, _, _, _, _, hf⟩
  · cases h0
  · cases hg; exact hf 0
theorem grown_drewB (w : World) (row : Option Nat) : w.grownBy w.drew row := ⟨rfl, rfl, rfl, Nat.le_refl _, fun _ _ _ => rfl⟩
/-- What a draw of a branch leaves. -/
def DrewBr (B : Nat) (w : World) (e : Ending) (w' : World) : Prop := ∃ (n : Int) (a : Option Addr) (l c : Nat) (zs : List Int), (Lit.int .i64 n).wf = true ∧ l ≤ 5 ∧ l ≤ c ∧ e = .returned (.agg #[.int .i64 n, .slice a l c]) ∧ Own .i64 3 w' w.heap.size w'.heap.size a l c zs ∧ Cur w' B ∧ w.grownBy w' (some B)
set_option maxRecDepth 20000 in
set_option maxHeartbeats 3200000 in
theorem any12_any (W : World) (B : Nat) (hc : Cur W B) : Calls Try.prog 51 #[.pointer (some ⟨B, 0, none⟩)] W (DrewBr B W) := by
  have HC0 := Lib.hid hc
  have hB := hc.lt
  clear hc
  obtain ⟨i0, hi, hz0, hzs, hz2⟩ := info_parts info_i64
  go_enter Try.func51, Try.ntmps51
  go_wp2_with fail
  go_at_call 52
  refine (below_any _ B 8 (by decide) (HC0.out.alloc _)).mono ?_
  rintro e w1 ⟨n, ⟨hn0, hn1⟩, rfl, hc1, hg1⟩
  have HR1 := Lib.hid ((brD_new W 0 none 0 0 26).grown hg1 (by omega))
  have HG1 := Lib.hid (grown_trans (World.grownBy_alloc W _ _) hg1)
  have HNW : Hid ((Lit.int .i64 n).wf = true) := Lib.hid (WalkArith.wf_i64 ⟨by omega, by omega⟩)
  have hz1 := HR1.out.lt
  have HC1 := Lib.hid hc1
  clear hc1 hg1 hn0 hn1
  go_wp2_with fail
  obtain ⟨V, hV⟩ : ∃ V, V = w1.alloc (.cells #[.int .i64 n, .slice none 0 0] 26) := ⟨_, rfl⟩
  have HDV := Lib.hid (show BrD V w1.heap.size n none 0 0 by rw [hV]; exact brD_new _ _ _ _ _ _)
  have HRV := Lib.hid (show BrD V W.heap.size 0 none 0 0 by rw [hV]; exact HR1.out.alloc _)
  have HCV := Lib.hid (show Cur V B by rw [hV]; exact HC1.out.alloc _)
  have HGV := Lib.hid (show W.grownBy V (some B) by rw [hV]; exact grown_trans HG1.out (World.grownBy_alloc _ _ _))
  rw [← hV]
  clear hV
  go_at_call 52
  refine (below_any _ B 4 (by decide) HCV.out).mono ?_
  rintro e w2 ⟨m0, ⟨hm0, hm1⟩, rfl, hc2, hg2⟩
  obtain ⟨k0, rfl⟩ : ∃ k0 : Nat, m0 = (k0 : Int) := ⟨m0.toNat, by omega⟩
  obtain ⟨m, hm⟩ : ∃ m : Nat, m = k0 + 1 := ⟨_, rfl⟩
  have wm : IntKind.i64.wrap (1 + (k0 : Int)) = (m : Int) := (IntWalk.i64_in _ (by omega)).trans (by omega)
  have hm4 : m ≤ 4 := by omega
  have hmp : 0 < m := by omega
  have HD2 := Lib.hid (HDV.out.grown hg2 (by omega))
  have HR2 := Lib.hid (HRV.out.grown hg2 (by omega))
  have HG2 := Lib.hid (grown_trans HGV.out hg2)
  have HC2 := Lib.hid hc2
  clear hc2 hg2 hm hm0 hm1
  go_wp2_with fail
  go_at_call 52
  refine (below_any _ B 4 (by decide) HC2.out).mono ?_
  rintro e w3 ⟨q, ⟨hq0, hq1⟩, rfl, hc3, hg3⟩
  have hq3 : q ≤ 3 := by omega
  have HD3 := Lib.hid (HD2.out.grown hg3 (by omega))
  have HR3 := Lib.hid (HR2.out.grown hg3 (by omega))
  have HG3 := Lib.hid (grown_trans HG2.out hg3)
  have HC3 := Lib.hid hc3
  clear hc3 hg3 hq1 wm HC1 HCV HC2 HG1 HGV HG2 HD2 HDV HR2 HRV HR1
  obtain ⟨g, hg⟩ : ∃ g, g = w1.heap.size := ⟨_, rfl⟩
  rw [← hg] at HD3 hz1
  rw [← hg]
  clear hg
  have HF3 := Lib.hid HD3.out.lt
  go_wp2_with fail
  go_loopw [6] (fun s wr => ∃ (i c' : Nat) (a' : Option Addr) (zs : List Int), i ≤ m ∧ s = .int .i64 i ∧ BrD wr g n a' i c' ∧ Own .i64 3 wr (g + 1) wr.heap.size a' i c' zs ∧ BrD wr W.heap.size 0 none 0 0 ∧ Cur wr B ∧ W.grownBy wr (some B)) (fun s _ => m - (intOf s).toNat)
  case atStart => exact ⟨0, 0, none, [], Nat.zero_le _, rfl, HD3.out, own_none0 _ _ _ _ (Nat.le_refl _), HR3.out, HC3.out, HG3.out⟩
  case round =>
    obtain ⟨i, c', a', zs, hi', rfl, hd, ho, hr, hc, hg⟩ := hrel
    have HD := Lib.hid hd
    have HO := Lib.hid ho
    have HR := Lib.hid hr
    have HC := Lib.hid hc
    have HG := Lib.hid hg
    have hgl := hd.lt
    have hsz := hg.size
    have c0 := hd.c0
    have c1 := hd.c1
    have f0 := hd.f0
    have f1 := hd.f1
    clear hd ho hr hc hg HD3 HR3 HC3 HG3
    by_cases hlt : i < m
    · have hii : (i : Int) < (m : Int) := by omega
      have wq : IntKind.i64.wrap (q + (i : Int)) = q + (i : Int) := IntWalk.i64_in _ (by omega)
      have HQW : Hid ((Lit.int .i64 (q + (i : Int))).wf = true) := Lib.hid (WalkArith.wf_i64 ⟨by omega, by omega⟩)
      go_wp2_with (at_builtin; refine wp_append_sees rfl _ _ 24 rfl 3 i0 .i64 8 Try.underlying24 hi hz0 hzs hz2 _ _ _ _ rfl _ _ (HO.out.alloc _) _ 1 1 [q + (i : Int)] rfl (sees_one HQW.out _ _) (by unfold maxLen; omega) (by omega) (by simp; omega) ?_; intro a4 len4 cap4 w4 hlen4 ho4 hm4; subst hlen4; have HO4 := Lib.hid ho4; have HM4 := Lib.hid hm4; have HD4 := Lib.hid ((HD.out.alloc _).moved hm4 (by omega)); have HR4 := Lib.hid ((HR.out.alloc _).moved hm4 (by omega)); have c0 := HD4.out.c0; have c1 := HD4.out.c1; have f0 := HD4.out.f0; have f1 := HD4.out.f1; clear ho4 hm4)
      go_roundw
      case rel => exact ⟨i + 1, _, _, _, hlt, by go_num, HD4.out.put1 _ _ _, (HO4.out.moved (moved_setB (lo := g) (hi := g + 1) _ _ _ _ (Nat.le_refl _) (Nat.lt_succ_self _)) (.inr (Nat.le_refl _))).wide (Nat.le_refl _) (by simp [World.setCell]) (Nat.le_refl _), HR4.out.moved (moved_setB (lo := g) (hi := g + 1) _ _ _ _ (Nat.le_refl _) (Nat.lt_succ_self _)) (by omega), ((HC.out.alloc _).below (HM4.out.below (by omega) (by simp; omega))).below ((moved_setB (lo := g) (hi := g + 1) _ _ _ _ (Nat.le_refl _) (Nat.lt_succ_self _)).below (by omega) (by have := HM4.out.size; simp at this; omega)), grown_moved (grown_moved (grown_trans HG.out (World.grownBy_alloc _ _ _)) HM4.out (by omega)) (moved_setB (lo := g) (hi := g + 1) _ _ _ _ (Nat.le_refl _) (Nat.lt_succ_self _)) (by omega)⟩
      case measure => simp [intOf]; omega
    · obtain rfl : i = m := by omega
      go_wp2_with fail
      go_at_call 52
      refine (below_any _ B 9 (by decide) HC.out).mono ?_
      rintro e w4 ⟨s, ⟨hs0, hs1⟩, rfl, hc4, hg4⟩
      have HD4 := Lib.hid (HD.out.grown hg4 (by omega))
      have HO4 := Lib.hid ((HO.out.grown hg4 (by omega)).wide (Nat.le_refl _) hg4.size (Nat.le_refl _))
      have HR4 := Lib.hid (HR.out.grown hg4 (by omega))
      have HG4 := Lib.hid (grown_trans HG.out hg4)
      have HC4 := Lib.hid hc4
      have c0 := HD4.out.c0
      have c1 := HD4.out.c1
      have f0 := HD4.out.f0
      have f1 := HD4.out.f1
      have r0 := HR4.out.c0
      have r1 := HR4.out.c1
      have t0 := HR4.out.f0
      have t1 := HR4.out.f1
      have hgW : ¬ g = W.heap.size := by omega
      have hWg : ¬ W.heap.size = g := by omega
      have hBs : B < w4.heap.size := HC4.out.lt
      have hg4' := HD4.out.lt
      clear hc4 hg4 hs1
      by_cases e0 : s = 0
      · subst e0
        go_wp2_with fail
        go_at_call 57
        refine (int_new w4 B 2 [-1, 8] _ 3 rfl rfl (by decide) (by decide) HC4.out).mono ?_
        rintro e w5 ⟨y, hy, rfl, hc5, hg5⟩
        have HYW : Hid ((Lit.int .i64 y).wf = true) := Lib.hid ((show ∀ y ∈ ([-1, 8] : List Int), (Lit.int .i64 y).wf = true by decide) _ hy)
        have HD5 := Lib.hid (HD4.out.grown hg5 (by omega))
        have HO5 := Lib.hid ((HO4.out.grown hg5 (by omega)).wide (Nat.le_refl _) hg5.size (Nat.le_refl _))
        have HR5 := Lib.hid (HR4.out.grown hg5 (by omega))
        have HG5 := Lib.hid (grown_trans HG4.out hg5)
        have HC5 := Lib.hid hc5
        clear c0 c1 f0 f1 r0 r1 t0 t1 hc5 hg5 hy
        have c0 := HD5.out.c0
        have c1 := HD5.out.c1
        have f0 := HD5.out.f0
        have f1 := HD5.out.f1
        have r0 := HR5.out.c0
        have r1 := HR5.out.c1
        have t0 := HR5.out.f0
        have t1 := HR5.out.f1
        have hBg := HC5.out.lt
        go_wp2
        have HRF := Lib.hid (show BrD (w5.setCell ⟨g, 0, none⟩ (.int .i64 y)) W.heap.size 0 none 0 0 from HR5.out.moved (moved_setB (lo := g) (hi := g + 1) w5 g 0 _ (Nat.le_refl _) (Nat.lt_succ_self _)) (by omega))
        have HOF := Lib.hid (show Own .i64 3 (w5.setCell ⟨g, 0, none⟩ (.int .i64 y)) (g + 1) _ a' i c' zs from HO5.out.moved (moved_setB (lo := g) (hi := g + 1) w5 g 0 _ (Nat.le_refl _) (Nat.lt_succ_self _)) (.inr (Nat.le_refl _)))
        have HCF := Lib.hid (show Cur (w5.setCell ⟨g, 0, none⟩ (.int .i64 y)) B from HC5.out.below ((moved_setB (lo := g) (hi := g + 1) w5 g 0 _ (Nat.le_refl _) (Nat.lt_succ_self _)).below (by omega) (by omega)))
        have HGF := Lib.hid (show W.grownBy (w5.setCell ⟨g, 0, none⟩ (.int .i64 y)) (some B) from grown_moved HG5.out (moved_setB (lo := g) (hi := g + 1) w5 g 0 _ (Nat.le_refl _) (Nat.lt_succ_self _)) (by omega))
        have q0 := HRF.out.c0
        have q1 := HRF.out.c1
        have hWT := HRF.out.lt
        have hm2 : Moved W.heap.size (W.heap.size + 1) (w5.setCell ⟨g, 0, none⟩ (.int .i64 y)) (((w5.setCell ⟨g, 0, none⟩ (.int .i64 y)).setCell ⟨W.heap.size, 0, none⟩ (.int .i64 y)).setCell ⟨W.heap.size, 1, none⟩ (.slice a' i c')) := (moved_setB _ _ _ _ (Nat.le_refl _) (Nat.lt_succ_self _)).trans (moved_setB _ _ _ _ (Nat.le_refl _) (Nat.lt_succ_self _))
        refine bodyPost_ret (v := .agg #[.int .i64 y, .slice a' i c']) (by simp [results, Try.results51, go_sem, q0, q1]) rfl ⟨y, a', i, c', zs, HYW.out, by omega, HOF.out.cap, rfl, (HOF.out.moved hm2 (.inr (by omega))).wide (by omega) (Nat.le_trans HOF.out.2.2.1 hm2.size) (Nat.le_refl _), HCF.out.below (hm2.below (by omega) (by omega)), grown_moved HGF.out hm2 (Nat.le_refl _)⟩
      · by_cases e1 : s = 1
        · subst e1
          obtain ⟨ga, rfl⟩ := HO4.out.someI hmp
          have hx := HO4.out.cellI hmp
          obtain ⟨x, hxe⟩ : ∃ x, x = zs.getD 0 0 := ⟨_, rfl⟩
          have HXW : Hid ((Lit.int .i64 x).wf = true) := Lib.hid (by rw [hxe]; exact HO4.out.2.1 _ (getD_mem (by rw [HO4.out.1]; exact hmp)))
          rw [← hxe] at hx
          have hpi : (0 : Int) < (i : Int) := by omega
          have HO4D := Lib.hid (HO4.out.below (Below.refl _ _).drew)
          clear hxe
          go_wp2_with fail
          go_region_law (first
            | (refine step_append_sees rfl _ _ 24 rfl 3 i0 .i64 8 Try.underlying24 hi hz0 hzs hz2 _ _ _ _ rfl (g + 1) _ ((HO4.out.alloc _).below (Below.refl _ _).drew) _ 1 1 [x] rfl ((sees_one HXW.out _ _).below (Below.refl _ _).drew) (by unfold maxLen; omega) (by omega) (by simp; omega) ?_; intro a5 len5 cap5 w5 hlen5 ho5 hm5; subst hlen5; have HO5 := Lib.hid ho5; have HM5 := Lib.hid hm5; have HD5 := Lib.hid (((HD4.out.alloc _).below (Below.refl _ _).drew).moved hm5 (by omega)); have HR5 := Lib.hid (((HR4.out.alloc _).below (Below.refl _ _).drew).moved hm5 (by omega)); have c0 := HD5.out.c0; have c1 := HD5.out.c1; have f0 := HD5.out.f0; have f1 := HD5.out.f1; have r0 := HR5.out.c0; have r1 := HR5.out.c1; have t0 := HR5.out.f0; have t1 := HR5.out.f1; have HC5 := Lib.hid (((HC4.out.alloc _).below (Below.refl (B + 1) _).drew).below (hm5.below (by omega) (by simp; omega))); have HG5 := Lib.hid (grown_moved (grown_trans (grown_trans HG4.out (World.grownBy_alloc _ _ _)) (grown_drewB _ _)) hm5 (by omega)); have hBg := HC5.out.lt; clear ho5 hm5)
            | (refine step_append_sees rfl _ _ 24 rfl 3 i0 .i64 8 Try.underlying24 hi hz0 hzs hz2 _ _ _ _ rfl (g + 1) _ (HO4D.out.alloc _) _ 1 1 [x] rfl (sees_one HXW.out _ _) (by unfold maxLen; omega) (by omega) (by simp; omega) ?_; intro a5 len5 cap5 w5 hlen5 ho5 hm5; subst hlen5; have HO5 := Lib.hid ho5; have HM5 := Lib.hid hm5; have HD5 := Lib.hid (((HD4.out.below (Below.refl _ _).drew).alloc _).moved hm5 (by omega)); have HR5 := Lib.hid (((HR4.out.below (Below.refl _ _).drew).alloc _).moved hm5 (by omega)); have c0 := HD5.out.c0; have c1 := HD5.out.c1; have f0 := HD5.out.f0; have f1 := HD5.out.f1; have r0 := HR5.out.c0; have r1 := HR5.out.c1; have t0 := HR5.out.f0; have t1 := HR5.out.f1; have HC5 := Lib.hid (((HC4.out.below (Below.refl (B + 1) _).drew).alloc _).below (hm5.below (by omega) (by simp; omega))); have HG5 := Lib.hid (grown_moved (grown_trans (grown_trans HG4.out (grown_drewB _ _)) (World.grownBy_alloc _ _ _)) hm5 (by omega)); have hBg := HC5.out.lt; clear ho5 hm5))
          all_goals
            clear hx
            go_wp2
            have HRF := Lib.hid (show BrD (w5.setCell ⟨g, 1, none⟩ (.slice a5 (i + 1) cap5)) W.heap.size 0 none 0 0 from HR5.out.moved (moved_setB (lo := g) (hi := g + 1) w5 g 1 _ (Nat.le_refl _) (Nat.lt_succ_self _)) (by omega))
            have HOF := Lib.hid (show Own .i64 3 (w5.setCell ⟨g, 1, none⟩ (.slice a5 (i + 1) cap5)) (g + 1) _ a5 (i + 1) cap5 (zs ++ [x]) from HO5.out.moved (moved_setB (lo := g) (hi := g + 1) w5 g 1 _ (Nat.le_refl _) (Nat.lt_succ_self _)) (.inr (Nat.le_refl _)))
            have HCF := Lib.hid (show Cur (w5.setCell ⟨g, 1, none⟩ (.slice a5 (i + 1) cap5)) B from HC5.out.below ((moved_setB (lo := g) (hi := g + 1) w5 g 1 _ (Nat.le_refl _) (Nat.lt_succ_self _)).below (by omega) (by omega)))
            have HGF := Lib.hid (show W.grownBy (w5.setCell ⟨g, 1, none⟩ (.slice a5 (i + 1) cap5)) (some B) from grown_moved HG5.out (moved_setB (lo := g) (hi := g + 1) w5 g 1 _ (Nat.le_refl _) (Nat.lt_succ_self _)) (by omega))
            have q0 := HRF.out.c0
            have q1 := HRF.out.c1
            have hWT := HRF.out.lt
            have hm2 : Moved W.heap.size (W.heap.size + 1) (w5.setCell ⟨g, 1, none⟩ (.slice a5 (i + 1) cap5)) (((w5.setCell ⟨g, 1, none⟩ (.slice a5 (i + 1) cap5)).setCell ⟨W.heap.size, 0, none⟩ (.int .i64 n)).setCell ⟨W.heap.size, 1, none⟩ (.slice a5 (i + 1) cap5)) := (moved_setB _ _ _ _ (Nat.le_refl _) (Nat.lt_succ_self _)).trans (moved_setB _ _ _ _ (Nat.le_refl _) (Nat.lt_succ_self _))
            refine bodyPost_ret (v := .agg #[.int .i64 n, .slice a5 (i + 1) cap5]) (by simp [results, Try.results51, go_sem, q0, q1]) rfl ⟨n, a5, (i + 1), cap5, (zs ++ [x]), HNW.out, by omega, HOF.out.cap, rfl, (HOF.out.moved hm2 (.inr (by omega))).wide (by omega) (Nat.le_trans HOF.out.2.2.1 hm2.size) (Nat.le_refl _), HCF.out.below (hm2.below (by omega) (by omega)), grown_moved HGF.out hm2 (Nat.le_refl _)⟩
        · by_cases e2 : s = 2
          · subst e2
            go_wp2
            have HRF := Lib.hid (show BrD (w4.setCell ⟨g, 1, none⟩ (.slice none 0 0)) W.heap.size 0 none 0 0 from HR4.out.moved (moved_setB (lo := g) (hi := g + 1) w4 g 1 _ (Nat.le_refl _) (Nat.lt_succ_self _)) (by omega))
            have HOF := Lib.hid (show Own .i64 3 (w4.setCell ⟨g, 1, none⟩ (.slice none 0 0)) (g + 1) _ none 0 0 [] from own_none0 .i64 3 (w4.setCell ⟨g, 1, none⟩ (.slice none 0 0)) (g + 1) (hi := (w4.setCell ⟨g, 1, none⟩ (.slice none 0 0)).heap.size) (Nat.le_refl _))
            have HCF := Lib.hid (show Cur (w4.setCell ⟨g, 1, none⟩ (.slice none 0 0)) B from HC4.out.below ((moved_setB (lo := g) (hi := g + 1) w4 g 1 _ (Nat.le_refl _) (Nat.lt_succ_self _)).below (by omega) (by omega)))
            have HGF := Lib.hid (show W.grownBy (w4.setCell ⟨g, 1, none⟩ (.slice none 0 0)) (some B) from grown_moved HG4.out (moved_setB (lo := g) (hi := g + 1) w4 g 1 _ (Nat.le_refl _) (Nat.lt_succ_self _)) (by omega))
            have q0 := HRF.out.c0
            have q1 := HRF.out.c1
            have hWT := HRF.out.lt
            have hm2 : Moved W.heap.size (W.heap.size + 1) (w4.setCell ⟨g, 1, none⟩ (.slice none 0 0)) (((w4.setCell ⟨g, 1, none⟩ (.slice none 0 0)).setCell ⟨W.heap.size, 0, none⟩ (.int .i64 n)).setCell ⟨W.heap.size, 1, none⟩ (.slice none 0 0)) := (moved_setB _ _ _ _ (Nat.le_refl _) (Nat.lt_succ_self _)).trans (moved_setB _ _ _ _ (Nat.le_refl _) (Nat.lt_succ_self _))
            refine bodyPost_ret (v := .agg #[.int .i64 n, .slice none 0 0]) (by simp [results, Try.results51, go_sem, q0, q1]) rfl ⟨n, none, 0, 0, [], HNW.out, by omega, HOF.out.cap, rfl, (HOF.out.moved hm2 (.inr (by omega))).wide (by omega) (Nat.le_trans HOF.out.2.2.1 hm2.size) (Nat.le_refl _), HCF.out.below (hm2.below (by omega) (by omega)), grown_moved HGF.out hm2 (Nat.le_refl _)⟩
          · by_cases e3 : s = 3
            · subst e3
              obtain ⟨ga, rfl⟩ := HO4.out.someI hmp
              have hpi : (0 : Int) < (i : Int) := by omega
              have hgab := (HO4.out.2.2.2.2 _ rfl)
              simp only at hgab
              have C1 := Lib.hid c1
              have hBa : ¬ w4.heap.size = B := by omega
              go_wp2_with fail
              go_region_with (first
                | (go_at_call 57; refine (int_any _ B w4.heap.size 3 [-1, 8, 9223372036854775807] rfl (by decide) (by decide) (fun j hj => by rw [World.cell?_drew]; exact intsAt_new w4 [-1, 8, 9223372036854775807] _ _ rfl j hj) hBa ((HC4.out.alloc _).below (Below.refl (B + 1) _).drew)).mono ?_; rintro e w5 ⟨y, hy, rfl, hc5, hg5⟩; have HYW := Lib.hid ((show ∀ y ∈ ([-1, 8, 9223372036854775807] : List Int), (Lit.int .i64 y).wf = true by decide) _ hy); have HD5 := Lib.hid (((HD4.out.alloc _).below (Below.refl _ _).drew).grown hg5 (by omega)); have HO5 := Lib.hid (((HO4.out.alloc _).below (Below.refl _ _).drew).grown hg5 (by omega)); have HR5 := Lib.hid (((HR4.out.alloc _).below (Below.refl _ _).drew).grown hg5 (by omega)); have HG5 := Lib.hid (grown_trans (grown_trans (grown_trans HG4.out (World.grownBy_alloc _ _ _)) (grown_drewB _ _)) hg5); have HC5 := Lib.hid hc5; have x0 := HO5.out.cellI hmp; have x1 := HO5.out.freeI; have c0 := HD5.out.c0; have c1 := HD5.out.c1; have f0 := HD5.out.f0; have f1 := HD5.out.f1; have r0 := HR5.out.c0; have r1 := HR5.out.c1; have t0 := HR5.out.f0; have t1 := HR5.out.f1; have hBg := HC5.out.lt; have hgs5 := hg5.size; clear hc5 hg5 hy))
              all_goals
                obtain ⟨hso, hsm⟩ := HO5.out.stored 0 y HYW.out
                obtain ⟨U, hU⟩ : ∃ U, U = w5.setCell ⟨ga, 0, none⟩ (.int .i64 y) := ⟨_, rfl⟩
                rw [← hU] at hso hsm
                have HSO := Lib.hid hso
                have HDU := Lib.hid (HD5.out.moved hsm (by omega))
                have HRU := Lib.hid (HR5.out.moved hsm (by omega))
                have HCU := Lib.hid (HC5.out.below (hsm.below (by omega) (by omega)))
                have HGU := Lib.hid (grown_moved HG5.out hsm (by omega))
                rw [← hU]
                clear hU c0 c1 f0 f1 r0 r1 t0 t1 x0 x1 hso hsm
                have c0 := HDU.out.c0
                have c1 := HDU.out.c1
                have r0 := HRU.out.c0
                have r1 := HRU.out.c1
                have t0 := HRU.out.f0
                have t1 := HRU.out.f1
                have hBu := HCU.out.lt
                go_wp2
                have HRF := Lib.hid (show BrD (U) W.heap.size 0 none 0 0 from HRU.out)
                have HOF := Lib.hid (show Own .i64 3 (U) (g + 1) _ (some ⟨ga, 0, none⟩) i c' (zs.set 0 y) from HSO.out)
                have HCF := Lib.hid (show Cur (U) B from HCU.out)
                have HGF := Lib.hid (show W.grownBy (U) (some B) from HGU.out)
                have q0 := HRF.out.c0
                have q1 := HRF.out.c1
                have hWT := HRF.out.lt
                have hm2 : Moved W.heap.size (W.heap.size + 1) (U) (((U).setCell ⟨W.heap.size, 0, none⟩ (.int .i64 n)).setCell ⟨W.heap.size, 1, none⟩ (.slice (some ⟨ga, 0, none⟩) i c')) := (moved_setB _ _ _ _ (Nat.le_refl _) (Nat.lt_succ_self _)).trans (moved_setB _ _ _ _ (Nat.le_refl _) (Nat.lt_succ_self _))
                refine bodyPost_ret (v := .agg #[.int .i64 n, .slice (some ⟨ga, 0, none⟩) i c']) (by simp [results, Try.results51, go_sem, q0, q1]) rfl ⟨n, (some ⟨ga, 0, none⟩), i, c', (zs.set 0 y), HNW.out, by omega, HOF.out.cap, rfl, (HOF.out.moved hm2 (.inr (by omega))).wide (by omega) (Nat.le_trans HOF.out.2.2.1 hm2.size) (Nat.le_refl _), HCF.out.below (hm2.below (by omega) (by omega)), grown_moved HGF.out hm2 (Nat.le_refl _)⟩
            · go_wp2
              have HRF := Lib.hid (show BrD (w4) W.heap.size 0 none 0 0 from HR4.out)
              have HOF := Lib.hid (show Own .i64 3 (w4) (g + 1) _ a' i c' zs from HO4.out)
              have HCF := Lib.hid (show Cur (w4) B from HC4.out)
              have HGF := Lib.hid (show W.grownBy (w4) (some B) from HG4.out)
              have q0 := HRF.out.c0
              have q1 := HRF.out.c1
              have hWT := HRF.out.lt
              have hm2 : Moved W.heap.size (W.heap.size + 1) (w4) (((w4).setCell ⟨W.heap.size, 0, none⟩ (.int .i64 n)).setCell ⟨W.heap.size, 1, none⟩ (.slice a' i c')) := (moved_setB _ _ _ _ (Nat.le_refl _) (Nat.lt_succ_self _)).trans (moved_setB _ _ _ _ (Nat.le_refl _) (Nat.lt_succ_self _))
              refine bodyPost_ret (v := .agg #[.int .i64 n, .slice a' i c']) (by simp [results, Try.results51, go_sem, q0, q1]) rfl ⟨n, a', i, c', zs, HNW.out, by omega, HOF.out.cap, rfl, (HOF.out.moved hm2 (.inr (by omega))).wide (by omega) (Nat.le_trans HOF.out.2.2.1 hm2.size) (Nat.le_refl _), HCF.out.below (hm2.below (by omega) (by omega)), grown_moved HGF.out hm2 (Nat.le_refl _)⟩
end Go.Proofs.Ytgninjdnfidpcaa
