/- Draws of chapter 12: a branch with flows, and tries. -/
import Derived.Test.YtgninjdnfidpcaaDraw12
namespace Go.Proofs.Ytgninjdnfidpcaa
open Go.RowKit
/-- What the law's draw of a branch and flows leaves. -/
def GotBr (w : World) (e : Ending) (w' : World) : Prop :=
  ∃ (n : Int) (a : Option Addr) (len cap : Nat) (zs : List Int) (q : Option Addr) (lh ch : Nat) (fl : List Int), (Lit.int .i64 n).wf = true ∧ len ≤ 5 ∧ len ≤ cap ∧ lh ≤ 6 ∧ e = .returned (.tuple #[.agg #[.int .i64 n, .slice a len cap], .slice q lh ch]) ∧ Sees .i64 w' a len zs ∧ Sees .i64 w' q lh fl ∧ Below w.heap.size w w'
set_option maxRecDepth 20000 in
set_option maxHeartbeats 3200000 in
theorem drawBr_any (W : World) (a0 : Option Addr) (len0 cap0 : Nat) (hl : len0 ≤ 1048576) (hc : CodeAt W W.heap.size a0 len0) : Calls Try.prog 13 #[.slice a0 len0 cap0] W (GotBr W) := by
  obtain ⟨V, hV⟩ : ∃ V, V = W.alloc (.cells #[.int .i64 0, .slice none 0 0] 26) := ⟨_, rfl⟩
  have hbV : Below W.heap.size W V := by rw [hV]; exact below_newB _ _
  have hzV : V.heap.size = W.heap.size + 1 := by rw [hV]; simp
  have HRV := Lib.hid (show BrD V W.heap.size 0 none 0 0 by rw [hV]; exact brD_new _ _ _ _ _ _)
  have HBV := Lib.hid hbV
  have HCV := Lib.hid (show CodeAt V V.heap.size a0 len0 from (hc.below hbV).mono (by omega))
  clear hbV hc
  obtain ⟨i0, hi, hi0, hi1, hi2⟩ := info_parts info_i64
  go_enter Try.func13, Try.ntmps13
  go_wp2_with fail
  rw [← hV]
  clear hV
  refine (new_any V a0 len0 cap0 hl HCV.out).mono ?_
  rintro e w1 ⟨rfl, hc1, hb1, hlt1⟩
  rw [hzV] at hc1 hlt1
  have HB1 := Lib.hid (below_up HBV.out hb1 (by omega))
  have HR1 := Lib.hid (HRV.out.below hb1)
  have HC1 := Lib.hid hc1
  clear hb1 hc1
  go_wp2_with fail
  refine (any12_any w1 (W.heap.size + 1) HC1.out).mono ?_
  rintro e w2 ⟨n, a, l, c, zs, hn, hl5, hlc, rfl, ho2, hc2, hg2⟩
  have HNW := Lib.hid hn
  have HB2 := Lib.hid (HB1.out.trans ((grown_below' hg2 (by omega)).mono (by omega)))
  have HR2 := Lib.hid (HR1.out.grown hg2 (by omega))
  have HO2 := Lib.hid ho2
  have HC2 := Lib.hid hc2
  have hsz2 := hg2.size
  clear hn ho2 hc2 hg2 HR1
  go_wp2_with fail
  obtain ⟨V2, hV2⟩ : ∃ V2, V2 = (w2.alloc (.cells #[.int .i64 n, .slice a l c] 26)).alloc (.cells #[] 3) := ⟨_, rfl⟩
  have HX2 := Lib.hid (show BrD V2 w2.heap.size n a l c by rw [hV2]; exact (brD_new _ _ _ _ _ _).alloc _)
  have HR3 := Lib.hid (show BrD V2 W.heap.size 0 none 0 0 by rw [hV2]; exact (HR2.out.alloc _).alloc _)
  have HO3 := Lib.hid (show Own .i64 3 V2 w1.heap.size w2.heap.size a l c zs by rw [hV2]; exact (HO2.out.alloc _).alloc _)
  have HC3 := Lib.hid (show Cur V2 (W.heap.size + 1) by rw [hV2]; exact (HC2.out.alloc _).alloc _)
  have HB3 := Lib.hid (show Below W.heap.size W V2 by rw [hV2]; exact (HB2.out.alloc HB2.out.size _).alloc (by have := HB2.out.size; simp; omega) _)
  have HF3 := Lib.hid (show Own .i64 3 V2 (w2.heap.size + 1) V2.heap.size (some ⟨w2.heap.size + 1, 0, none⟩) 0 0 [] by
    rw [hV2]
    have h := own_nil .i64 3 (w2.alloc (.cells #[.int .i64 n, .slice a l c] 26))
    rw [World.size_alloc] at h
    exact h.wide (Nat.le_refl _) (by simp) (Nat.le_refl _))
  have hz2 : V2.heap.size = w2.heap.size + 2 := by rw [hV2]; simp
  rw [← hV2]
  clear hV2 HR2
  refine (below_any V2 (W.heap.size + 1) 7 (by decide) HC3.out).mono ?_
  rintro e w3 ⟨z, ⟨hz0', hz1'⟩, rfl, hc4, hg4⟩
  have hz4 : z ≤ 6 := by omega
  obtain ⟨m, rfl⟩ : ∃ m : Nat, z = m := ⟨z.toNat, by omega⟩
  have HX4 := Lib.hid (HX2.out.grown hg4 (by omega))
  have HR4 := Lib.hid (HR3.out.grown hg4 (by omega))
  have HO4 := Lib.hid (HO3.out.grown hg4 (by omega))
  have HF4 := Lib.hid ((HF3.out.grown hg4 (by omega)).wide (Nat.le_refl _) hg4.size (Nat.le_refl _))
  have HC4 := Lib.hid hc4
  have HB4 := Lib.hid (HB3.out.trans ((grown_below' hg4 (by omega)).mono (by omega)))
  have hsz4 := hg4.size
  clear hc4 hg4 hz1' HX2 HR3 HO3 HF3 HC3 HB3
  go_wp2_with fail
  go_loopw [6, 7] (fun v i wr => ∃ (k l' : Nat) (fl : List Int) (a' : Option Addr) (c' : Nat), l' + k ≤ 6 ∧ i = .int .i64 (k : Int) ∧ v = .slice a' l' c' ∧ Own .i64 3 wr (w2.heap.size + 1) wr.heap.size a' l' c' fl ∧ BrD wr w2.heap.size n a l c ∧ BrD wr W.heap.size 0 none 0 0 ∧ Own .i64 3 wr w1.heap.size w2.heap.size a l c zs ∧ Cur wr (W.heap.size + 1) ∧ Below W.heap.size W wr) (fun _ i _ => (intOf i).toNat)
  case atStart => exact ⟨m, 0, [], _, _, by omega, rfl, rfl, HF4.out, HX4.out, HR4.out, HO4.out, HC4.out, HB4.out⟩
  case round =>
    clear HX4 HR4 HO4 HF4 HC4 HB4
    obtain ⟨k, l', fl, a', c', hkl, rfl, rfl, hf, hx, hr, ho, hc, hb⟩ := hrel
    have HF := Lib.hid hf
    have HX := Lib.hid hx
    have HR := Lib.hid hr
    have HO := Lib.hid ho
    have HC := Lib.hid hc
    have HB := Lib.hid hb
    have hX := hx.lt
    clear hf hx hr ho hc hb
    by_cases hk : 0 < k
    · have hki : (0 : Int) < (k : Int) := by omega
      go_wp2_with fail
      go_at_call 52
      refine (below_any _ (W.heap.size + 1) 50 (by decide) HC.out).mono ?_
      rintro e w5 ⟨y, ⟨hy0, hy1⟩, rfl, hc5, hg5⟩
      have wy : IntKind.i64.wrap (y - 1) = y - 1 := IntWalk.i64_in _ (by omega)
      have HYW : Hid ((Lit.int .i64 (y - 1)).wf = true) := Lib.hid (WalkArith.wf_i64 ⟨by omega, by omega⟩)
      have HF5 := Lib.hid (HF.out.grown hg5 (by omega))
      have HX5 := Lib.hid (HX.out.grown hg5 (by omega))
      have HR5 := Lib.hid (HR.out.grown hg5 (by omega))
      have HO5 := Lib.hid (HO.out.grown hg5 (by omega))
      have HC5 := Lib.hid hc5
      have HB5 := Lib.hid (HB.out.trans ((grown_below' hg5 (by omega)).mono (by omega)))
      have hsz5 := hg5.size
      clear hc5 hg5 hy0 hy1
      go_wp2_with (at_builtin; refine wp_append_sees rfl _ _ 24 rfl 3 i0 .i64 8 Try.underlying24 hi hi0 hi1 hi2 _ _ _ _ rfl _ _ (HF5.out.alloc _) _ 1 1 [y - 1] rfl (sees_one HYW.out _ _) (by unfold maxLen; omega) (by omega) (by simp; omega) ?_; intro a6 len6 cap6 w6 hlen6 ho6 hm6; subst hlen6; have HF6 := Lib.hid ho6; have HM6 := Lib.hid hm6; clear ho6 hm6)
      go_roundw
      case rel =>
        obtain ⟨k, rfl⟩ : ∃ j, k = j + 1 := ⟨k - 1, by omega⟩
        exact ⟨k, l' + 1, _, _, _, by omega, by go_num, rfl, HF6.out, (HX5.out.alloc _).moved HM6.out (by omega), (HR5.out.alloc _).moved HM6.out (by omega), (HO5.out.alloc _).moved HM6.out (.inl (by omega)), (HC5.out.alloc _).below (HM6.out.below (by omega) (by simp; omega)), below_moved (HB5.out.alloc HB5.out.size _) HM6.out (Nat.le_refl _) (by omega)⟩
      case measure => simp [intOf]; omega
    · obtain rfl : k = 0 := by omega
      have x0 := HX.out.c0
      have x1 := HX.out.c1
      have r0 := HR.out.c0
      have r1 := HR.out.c1
      have t0 := HR.out.f0
      have t1 := HR.out.f1
      have hWX : ¬ W.heap.size = w2.heap.size := by omega
      have hXW : ¬ w2.heap.size = W.heap.size := by omega
      have hRl := HR.out.lt
      go_wp2_with fail
      have hm2 : Moved W.heap.size (W.heap.size + 1) wr ((wr.setCell ⟨W.heap.size, 0, none⟩ (.int .i64 n)).setCell ⟨W.heap.size, 1, none⟩ (.slice a l c)) := (moved_setB _ _ _ _ (Nat.le_refl _) (Nat.lt_succ_self _)).trans (moved_setB _ _ _ _ (Nat.le_refl _) (Nat.lt_succ_self _))
      refine bodyPost_ret (v := .tuple #[.agg #[.int .i64 n, .slice a l c], .slice a' l' c']) (by simp [results, Try.results13, go_sem, r0, r1]) rfl ⟨n, a, l, c, zs, a', l', c', fl, HNW.out, hl5, HO.out.cap, by omega, rfl, (HO.out.moved hm2 (.inr (by omega))).sees, (HF.out.moved hm2 (.inr (by omega))).sees, below_moved HB.out hm2 (Nat.le_refl _) (Nat.le_refl _)⟩
/-- What the law's draw of tries leaves. -/
def GotTr (w : World) (e : Ending) (w' : World) : Prop := ∃ n p : Int, (Lit.int .i64 n).wf = true ∧ (Lit.int .i64 p).wf = true ∧ -1 ≤ p ∧ p ≤ 101 ∧ e = .returned (.tuple #[.int .i64 n, .int .i64 p]) ∧ Below w.heap.size w w'
set_option maxHeartbeats 1600000 in
theorem drawTr_any (W : World) (a0 : Option Addr) (len0 cap0 : Nat) (hl : len0 ≤ 1048576) (hc : CodeAt W W.heap.size a0 len0) : Calls Try.prog 17 #[.slice a0 len0 cap0] W (GotTr W) := by
  have HC0 := Lib.hid hc
  clear hc
  go_enter Try.func17, Try.ntmps17
  go_wp2_with fail
  go_at_call 50
  refine (new_any W a0 len0 cap0 hl HC0.out).mono ?_
  rintro e w1 ⟨rfl, hc1, hb1, hlt1⟩
  have HC1 := Lib.hid hc1
  have HB1 := Lib.hid hb1
  clear hc1 hb1
  go_wp2_with fail
  go_at_call 52
  refine (below_any _ W.heap.size 7 (by decide) HC1.out).mono ?_
  rintro e w2 ⟨x, ⟨hx0, hx1⟩, rfl, hc2, hg2⟩
  have wx : IntKind.i64.wrap (x - 1) = x - 1 := IntWalk.i64_in _ (by omega)
  have HXW : Hid ((Lit.int .i64 (x - 1)).wf = true) := Lib.hid (WalkArith.wf_i64 ⟨by omega, by omega⟩)
  have HC2 := Lib.hid hc2
  have HB2 := Lib.hid (HB1.out.trans (grown_below' hg2 (by omega)))
  clear hc2 hg2 hx0 hx1
  go_wp2_with fail
  go_at_call 57
  refine (int_new w2 W.heap.size 7 [-1, 0, 1, 5, 50, 100, 101] _ 3 rfl rfl (by decide) (by decide) HC2.out).mono ?_
  rintro e w3 ⟨y, hy, rfl, hc3, hg3⟩
  have HYW := Lib.hid ((show ∀ y ∈ ([-1, 0, 1, 5, 50, 100, 101] : List Int), (Lit.int .i64 y).wf = true ∧ -1 ≤ y ∧ y ≤ 101 by decide) _ hy)
  have HB3 := Lib.hid (HB2.out.trans (grown_below' hg3 (by have := HC2.out.lt; omega)))
  clear hc3 hg3 hy
  go_wp2
  go_ret2
  exact ⟨x - 1, y, HXW.out, HYW.out.1, HYW.out.2.1, HYW.out.2.2, rfl, HB3.out⟩
end Go.Proofs.Ytgninjdnfidpcaa
