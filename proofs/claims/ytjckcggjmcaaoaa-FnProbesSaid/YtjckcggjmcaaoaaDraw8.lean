/- Draws of chapter 8: hosts of a network. -/
import Derived.Test.YtjckcggjmcaaoaaDraw7
import Derived.Test.YtjckcggjmcaaoaaDrawB
namespace Go.Proofs.Ytjckcggjmcaaoaa
open Go.RowKit
theorem own_nilB {k : IntKind} {e : TypeId} {w : World} {B : Nat} (h : B = w.heap.size) : Own k e (w.alloc (.cells #[] e)) w.heap.size (w.alloc (.cells #[] e)).heap.size (some ⟨B, 0, none⟩) 0 0 [] := by
  subst h
  exact (own_nil k e w).wide (Nat.le_refl _) (own_nil k e w).2.2.1 (Nat.le_refl _)
/-- What a draw of hosts leaves. -/
def DrewH (B : Nat) (W : World) (e : Ending) (w' : World) : Prop := ∃ (hs : List Int) (a : Option Addr) (len cap : Nat), len ≤ 9 ∧ e = .returned (.slice a len cap) ∧ Own .i64 3 w' W.heap.size w'.heap.size a len cap hs ∧ Cur w' B ∧ W.grownBy w' (some B)
set_option maxRecDepth 20000 in
set_option maxHeartbeats 1600000 in
theorem hosts_any (W : World) (B : Nat) (n : Int) (a : Option Addr) (len cap : Nat) (hn : IsNd n) (hc : Cur W B) : Calls Try.prog 24 #[.pointer (some ⟨B, 0, none⟩), .agg #[.int .i64 n, .slice a len cap]] W (DrewH B W) := by
  obtain ⟨V, hV⟩ : ∃ V, V = W.alloc (.cells #[.int .i64 n, .slice a len cap] 26) := ⟨_, rfl⟩
  have hB := hc.lt
  have HN := Lib.hid (show NetAt V W.heap.size n a len cap by rw [hV]; exact net_new _ _ _ _ _ _)
  have HC := Lib.hid (show Cur V B by rw [hV]; exact hc.alloc _)
  have HGV : Hid (W.grownBy V (some B)) := Lib.hid (by rw [hV]; exact World.grownBy_alloc W _ _)
  have hzV : V.heap.size = W.heap.size + 1 := by rw [hV]; simp
  obtain ⟨hn0, hn9⟩ := hn
  clear hc
  obtain ⟨i0, hi, hz0, hz1, hz2⟩ := info_parts info_i64
  go_enter Try.func24, Try.ntmps24
  go_wp2_with fail
  rw [← hV]
  clear hV
  go_wp2_with fail
  go_loopw [5, 6] (fun v i wr => ∃ (k l : Nat) (xs : List Int) (a' : Option Addr) (c' : Nat), (k : Int) ≤ n ∧ l ≤ k ∧ i = .int .i64 k ∧ v = .slice a' l c' ∧ Own .i64 3 wr V.heap.size wr.heap.size a' l c' xs ∧ Cur wr B ∧ V.grownBy wr (some B) ∧ wr.cell? ⟨W.heap.size, 0, none⟩ = some (.int .i64 n)) (fun _ i _ => n.toNat - (intOf i).toNat)
  case atStart =>
    exact ⟨0, 0, [], _, _, hn0, Nat.le_refl _, rfl, rfl, own_nilB (by omega), HC.out.alloc _, World.grownBy_alloc V _ _, (HN.out.below (below_new _ _)).c0⟩
  case round =>
    obtain ⟨k, l, xs, a', c', hk, hlk, rfl, rfl, ho, hc, hg, c0⟩ := hrel
    have HO := Lib.hid ho
    have HCC := Lib.hid hc
    have HG := Lib.hid hg
    have hsz := hg.size
    have HW : Hid (W.heap.size < wr.heap.size) := Lib.hid (by omega)
    clear ho hc hg
    by_cases hlt : (k : Int) < n
    · go_wp2_with fail
      go_at_call 25
      refine (once_any _ B 3 (by decide) HCC.out).mono ?_
      rintro e w2 ⟨x, rfl, hc2, hg2⟩
      have HC2 := Lib.hid hc2
      have HO2 := Lib.hid (HO.out.grown hg2 (by omega))
      have HG2 := Lib.hid (grown_trans HG.out hg2)
      have c02 := hg2.cell c0 (by simp; omega)
      have hsz2 := hg2.size
      have HC0 := Lib.hid c02
      clear hc2 hg2 c0
      cases x
      · go_wp2_with (at_builtin; refine wp_append_sees rfl _ _ 27 rfl 3 i0 .i64 8 Try.underlying27 hi hz0 hz1 hz2 _ _ _ _ rfl _ _ (HO2.out.below (below_new _ _)) _ _ _ _ rfl (sees_one (x := (k : Int)) (WalkArith.wf_i64 (by omega)) _ _) (by unfold maxLen; omega) (by omega) (by simp; omega) ?_; intro a2 len2 cap2 w3 hlen2 ho2 hm2; subst hlen2; have HO3 := Lib.hid ho2; have HM3 := Lib.hid hm2; clear ho2 hm2)
        go_roundw
        case rel =>
          have hb3 := HM3.out.below (B := V.heap.size) (Nat.le_refl _) (by simp; omega)
          exact ⟨k + 1, l + 1, _, _, _, by omega, by omega, by go_num, rfl, HO3.out, (HC2.out.alloc _).below (hb3.mono (by omega)), grown_moved (grown_trans HG2.out (World.grownBy_alloc w2 _ _)) HM3.out (Nat.le_refl _), (hb3.cell (p := ⟨W.heap.size, 0, none⟩) (by simp; omega)).trans (((below_new w2 _).cell (p := ⟨W.heap.size, 0, none⟩) (by simp; omega)).trans HC0.out)⟩
        case measure => simp [intOf]; omega
      · go_wp2_with fail
        go_roundw
        case rel => exact ⟨k + 1, l, _, _, _, by omega, by omega, by go_num, rfl, HO2.out.wide (Nat.le_refl _) hsz2 (Nat.le_refl _), HC2.out, HG2.out, HC0.out⟩
        case measure => simp [intOf]; omega
    · go_wp2_with fail
      go_ret
      exact ⟨xs, _, _, _, by omega, rfl, HO.out.wide (by omega) (Nat.le_refl _) (Nat.le_refl _), HCC.out, grown_trans HGV.out HG.out⟩
/-- What the law's draw of a network and hosts leaves. -/
def GotPs (w : World) (e : Ending) (w' : World) : Prop :=
  ∃ (n : Int) (a : Option Addr) (len cap : Nat) (ls : List (Int × Int)) (hs : List Int) (q : Option Addr) (lh ch : Nat), len ≤ 7 ∧ lh ≤ 10 ∧ lh ≤ ch ∧ e = .returned (.tuple #[.agg #[.int .i64 n, .slice a len cap], .slice q lh ch]) ∧ SeesL w' a len ls ∧ Sees .i64 w' q lh hs ∧ Below w.heap.size w w'
set_option maxRecDepth 20000 in
set_option maxHeartbeats 1600000 in
theorem drawPs_any (W : World) (a0 : Option Addr) (len0 cap0 : Nat) (hl : len0 ≤ 1048576) (hc : CodeAt W W.heap.size a0 len0) : Calls Try.prog 6 #[.slice a0 len0 cap0] W (GotPs W) := by
  obtain ⟨V, hV⟩ : ∃ V, V = W.alloc (.cells #[.int .i64 0, .slice none 0 0] 26) := ⟨_, rfl⟩
  have hbV : Below W.heap.size W V := by rw [hV]; exact below_new _ _
  have hzV : V.heap.size = W.heap.size + 1 := by rw [hV]; simp
  have r0 : V.cell? ⟨W.heap.size, 0, none⟩ = some (.int .i64 0) := by rw [hV]; go_simp
  have r1 : V.cell? ⟨W.heap.size, 1, none⟩ = some (.slice none 0 0) := by rw [hV]; go_simp
  have g0 : V.frozen? ⟨W.heap.size, 0, none⟩ = false := by rw [hV]; go_simp
  have g1 : V.frozen? ⟨W.heap.size, 1, none⟩ = false := by rw [hV]; go_simp
  have HBV := Lib.hid hbV
  have hcV : CodeAt V V.heap.size a0 len0 := (hc.below hbV).mono (by omega)
  have HCV := Lib.hid hcV
  clear hbV hc hcV
  obtain ⟨i0, hi, hi0, hi1, hi2⟩ := info_parts info_i64
  go_enter Try.func6, Try.ntmps6
  go_wp2_with fail
  rw [← hV]
  clear hV
  refine (new_any V a0 len0 cap0 hl HCV.out).mono ?_
  rintro e w1 ⟨rfl, hc1, hb1, hlt1⟩
  rw [hzV] at hc1 hlt1
  have HB1 := Lib.hid (below_up HBV.out hb1 (by omega))
  have r0 := (hb1.cell (p := ⟨W.heap.size, 0, none⟩) (by simp; omega)).trans r0
  have r1 := (hb1.cell (p := ⟨W.heap.size, 1, none⟩) (by simp; omega)).trans r1
  have g0 := (hb1.frozen (p := ⟨W.heap.size, 0, none⟩) (by simp; omega)).trans g0
  have g1 := (hb1.frozen (p := ⟨W.heap.size, 1, none⟩) (by simp; omega)).trans g1
  have HC1 := Lib.hid hc1
  clear hb1 hc1
  go_wp2_with fail
  refine (any7_any w1 (W.heap.size + 1) HC1.out).mono ?_
  rintro e w2 ⟨n, a, len, cap, ls, hn, hl7, rfl, ho2, hc2, hg2⟩
  have HB2 := Lib.hid (HB1.out.trans ((grown_below' hg2 (by omega)).mono (by omega)))
  have hbR := hg2.block W.heap.size (by omega) (by simp)
  have r0 := (World.cell?_of_block (a := ⟨W.heap.size, 0, none⟩) hbR).trans r0
  have r1 := (World.cell?_of_block (a := ⟨W.heap.size, 1, none⟩) hbR).trans r1
  have g0 := (World.frozen?_of_block (a := ⟨W.heap.size, 0, none⟩) hbR).trans g0
  have g1 := (World.frozen?_of_block (a := ⟨W.heap.size, 1, none⟩) hbR).trans g1
  have hsz2 := hg2.size
  have HO2 := Lib.hid ho2
  have HC2 := Lib.hid hc2
  clear hbR hg2 ho2 hc2
  go_wp2_with fail
  obtain ⟨V2, hV2⟩ : ∃ V2, V2 = w2.alloc (.cells #[.int .i64 n, .slice a len cap] 26) := ⟨_, rfl⟩
  have hb2 : Below w2.heap.size w2 V2 := by rw [hV2]; exact below_new _ _
  have hz2 : V2.heap.size = w2.heap.size + 1 := by rw [hV2]; simp
  have HB2b := Lib.hid (below_up HB2.out hb2 (by have := HB2.out.size; omega))
  have x0 : V2.cell? ⟨w2.heap.size, 0, none⟩ = some (.int .i64 n) := by rw [hV2]; go_simp
  have x1 : V2.cell? ⟨w2.heap.size, 1, none⟩ = some (.slice a len cap) := by rw [hV2]; go_simp
  have r0 := (hb2.cell (p := ⟨W.heap.size, 0, none⟩) (by simp; omega)).trans r0
  have r1 := (hb2.cell (p := ⟨W.heap.size, 1, none⟩) (by simp; omega)).trans r1
  have g0 := (hb2.frozen (p := ⟨W.heap.size, 0, none⟩) (by simp; omega)).trans g0
  have g1 := (hb2.frozen (p := ⟨W.heap.size, 1, none⟩) (by simp; omega)).trans g1
  have HO3 := Lib.hid (HO2.out.below hb2)
  have HC3 := Lib.hid (HC2.out.belowN hb2)
  rw [← hV2]
  clear hV2 hb2
  refine (hosts_any V2 (W.heap.size + 1) n a len cap hn HC3.out).mono ?_
  rintro e w3 ⟨hs, q, lh, ch, hlh, rfl, hoh, hc4, hg4⟩
  have hbR := hg4.block W.heap.size (by omega) (by simp)
  have hbX := hg4.block w2.heap.size (by omega) (by simp; omega)
  have r0 := (World.cell?_of_block (a := ⟨W.heap.size, 0, none⟩) hbR).trans r0
  have r1 := (World.cell?_of_block (a := ⟨W.heap.size, 1, none⟩) hbR).trans r1
  have g0 := (World.frozen?_of_block (a := ⟨W.heap.size, 0, none⟩) hbR).trans g0
  have g1 := (World.frozen?_of_block (a := ⟨W.heap.size, 1, none⟩) hbR).trans g1
  have x0 := (World.cell?_of_block (a := ⟨w2.heap.size, 0, none⟩) hbX).trans x0
  have x1 := (World.cell?_of_block (a := ⟨w2.heap.size, 1, none⟩) hbX).trans x1
  have hsz4 := hg4.size
  have HO4 := Lib.hid (HO3.out.grown hg4 (by omega))
  have HH4 := Lib.hid hoh
  have HB4 := Lib.hid (HB2b.out.trans ((grown_below' hg4 (by omega)).mono (by omega)))
  have HC4 := Lib.hid hc4
  clear hbR hbX hc4 hg4 hoh
  go_wp2_with fail
  go_at_call 25
  refine (once_any _ (W.heap.size + 1) 6 (by decide) HC4.out).mono ?_
  rintro e w4 ⟨z, rfl, hc5, hg5⟩
  have hbR := hg5.block W.heap.size (by omega) (by simp)
  have hbX := hg5.block w2.heap.size (by omega) (by simp; omega)
  have r0 := (World.cell?_of_block (a := ⟨W.heap.size, 0, none⟩) hbR).trans r0
  have r1 := (World.cell?_of_block (a := ⟨W.heap.size, 1, none⟩) hbR).trans r1
  have g0 := (World.frozen?_of_block (a := ⟨W.heap.size, 0, none⟩) hbR).trans g0
  have g1 := (World.frozen?_of_block (a := ⟨W.heap.size, 1, none⟩) hbR).trans g1
  have x0 := (World.cell?_of_block (a := ⟨w2.heap.size, 0, none⟩) hbX).trans x0
  have x1 := (World.cell?_of_block (a := ⟨w2.heap.size, 1, none⟩) hbX).trans x1
  have hsz5 := hg5.size
  have HO5 := Lib.hid (HO4.out.grown hg5 (by omega))
  have HH5 := Lib.hid (HH4.out.grown hg5 (by omega))
  have HB5 := Lib.hid (HB4.out.trans ((grown_below' hg5 (by omega)).mono (by omega)))
  have HC5 := Lib.hid hc5
  clear hbR hbX hc5 hg5
  cases z
  · go_wp2
    have hm : Moved W.heap.size (W.heap.size + 1) w4 ((w4.setCell ⟨W.heap.size, 0, none⟩ (.int .i64 n)).setCell ⟨W.heap.size, 1, none⟩ (.slice a len cap)) := (moved_set _ _ _ _ (Nat.le_refl _) (Nat.lt_succ_self _)).trans (moved_set _ _ _ _ (Nat.le_refl _) (Nat.lt_succ_self _))
    refine bodyPost_ret (v := .tuple #[.agg #[.int .i64 n, .slice a len cap], .slice q lh ch]) (by simp [results, Try.results6, go_sem, r0, r1]) rfl ⟨n, a, len, cap, ls, hs, q, lh, ch, hl7, by omega, HH5.out.cap, rfl, ?_, ?_, ?_⟩
    · exact (HO5.out.moved hm (.inr (by omega))).sees
    · exact (HH5.out.moved hm (.inr (by omega))).sees
    · exact below_moved HB5.out hm (Nat.le_refl _) (Nat.le_refl _)
  · go_wp2_with fail
    go_at_call 26
    refine (below_any _ (W.heap.size + 1) 9 (by decide) HC5.out).mono ?_
    rintro e w5 ⟨y, ⟨hy0, hy1⟩, rfl, hc6, hg6⟩
    have hy9 : y ≤ 9 := by omega
    have hwy : IntKind.i64.wrap (y - 1) = y - 1 := IntWalk.i64_in _ (by omega)
    have hbR := hg6.block W.heap.size (by omega) (by simp)
    have hbX := hg6.block w2.heap.size (by omega) (by simp; omega)
    have r0 := (World.cell?_of_block (a := ⟨W.heap.size, 0, none⟩) hbR).trans r0
    have r1 := (World.cell?_of_block (a := ⟨W.heap.size, 1, none⟩) hbR).trans r1
    have g0 := (World.frozen?_of_block (a := ⟨W.heap.size, 0, none⟩) hbR).trans g0
    have g1 := (World.frozen?_of_block (a := ⟨W.heap.size, 1, none⟩) hbR).trans g1
    have x0 := (World.cell?_of_block (a := ⟨w2.heap.size, 0, none⟩) hbX).trans x0
    have x1 := (World.cell?_of_block (a := ⟨w2.heap.size, 1, none⟩) hbX).trans x1
    have hsz6 := hg6.size
    have HO6 := Lib.hid (HO5.out.grown hg6 (by omega))
    have HH6 := Lib.hid (HH5.out.grown hg6 (by omega))
    have HB6 := Lib.hid (HB5.out.trans ((grown_below' hg6 (by omega)).mono (by omega)))
    clear hbR hbX hc6 hg6 hy1
    have HR : Hid (∀ w, Below V2.heap.size w5 w → w.cell? ⟨W.heap.size, 0, none⟩ = some (.int .i64 0) ∧ w.cell? ⟨W.heap.size, 1, none⟩ = some (.slice none 0 0) ∧ w.frozen? ⟨W.heap.size, 0, none⟩ = false ∧ w.frozen? ⟨W.heap.size, 1, none⟩ = false ∧ w.cell? ⟨w2.heap.size, 0, none⟩ = some (.int .i64 n) ∧ w.cell? ⟨w2.heap.size, 1, none⟩ = some (.slice a len cap)) := Lib.hid (fun w hb =>
      ⟨(hb.cell (p := ⟨W.heap.size, 0, none⟩) (by simp; omega)).trans r0, (hb.cell (p := ⟨W.heap.size, 1, none⟩) (by simp; omega)).trans r1, (hb.frozen (p := ⟨W.heap.size, 0, none⟩) (by simp; omega)).trans g0, (hb.frozen (p := ⟨W.heap.size, 1, none⟩) (by simp; omega)).trans g1, (hb.cell (p := ⟨w2.heap.size, 0, none⟩) (by simp; omega)).trans x0, (hb.cell (p := ⟨w2.heap.size, 1, none⟩) (by simp; omega)).trans x1⟩)
    clear r0 r1 g0 g1 x0 x1
    go_wp2_with (at_builtin; refine wp_append_sees rfl _ _ 27 rfl 3 i0 .i64 8 Try.underlying27 hi hi0 hi1 hi2 _ _ _ _ rfl _ _ (HH6.out.below (below_new _ _)) _ _ _ _ rfl (sees_one (x := y - 1) (WalkArith.wf_i64 (by omega)) _ _) (by unfold maxLen; omega) (by omega) (by simp; omega) ?_; intro a2 len2 cap2 w6 hlen2 ho2 hm2; subst hlen2; have hb6 := hm2.below (B := V2.heap.size) (Nat.le_refl _) (by simp; omega); have hb7 := ((below_new w5 (.cells #[.int .i64 (y - 1)] 3)).mono (show V2.heap.size ≤ w5.heap.size by omega)).trans hb6; obtain ⟨r0, r1, g0, g1, x0, x1⟩ := HR.out _ hb7; have HH7 := Lib.hid ho2; have HO7 := Lib.hid ((HO6.out.below (below_new _ _)).moved hm2 (.inl (by omega))); have HB7 := Lib.hid (HB6.out.trans (hb7.mono (by omega))); clear ho2 hm2 hb6 hb7)
    have hm : Moved W.heap.size (W.heap.size + 1) w6 ((w6.setCell ⟨W.heap.size, 0, none⟩ (.int .i64 n)).setCell ⟨W.heap.size, 1, none⟩ (.slice a len cap)) := (moved_set _ _ _ _ (Nat.le_refl _) (Nat.lt_succ_self _)).trans (moved_set _ _ _ _ (Nat.le_refl _) (Nat.lt_succ_self _))
    refine bodyPost_ret (v := .tuple #[.agg #[.int .i64 n, .slice a len cap], .slice a2 (lh + 1) cap2]) (by simp [results, Try.results6, go_sem, r0, r1]) rfl ⟨n, a, len, cap, ls, hs ++ [y - 1], a2, lh + 1, cap2, hl7, by omega, HH7.out.cap, rfl, ?_, ?_, ?_⟩
    · exact (HO7.out.moved hm (.inr (by omega))).sees
    · exact (HH7.out.moved hm (.inr (by omega))).sees
    · exact below_moved HB7.out hm (Nat.le_refl _) (Nat.le_refl _)
end Go.Proofs.Ytjckcggjmcaaoaa
