/- Draws of chapter 11: replies that may not be valid. -/
import Derived.Test.YtgninjdnfidpcaaDraw11
import Derived.Test.YtgninjdnfidpcaaRaw9
namespace Go.Proofs.Ytgninjdnfidpcaa
open Go.RowKit
theorem unflatY : ∀ (n : Nat) (l : List Int), l.length = n * 3 → ∃ xs : List (Int × Int × Int), flatY xs = l ∧ xs.length = n
  | 0, l, h => ⟨[], (List.eq_nil_of_length_eq_zero (by omega)).symm, rfl⟩
  | n + 1, l, h => by
    match l, h with
    | a :: b :: c :: r, h =>
      obtain ⟨xs, h1, h2⟩ := unflatY n r (by simp at h; omega)
      exact ⟨(a, b, c) :: xs, by rw [← h1]; rfl, by simp [h2]⟩
    | [], h => simp at h
    | [a], h => simp at h; omega
    | [a, b], h => simp at h; omega
theorem fitY_flat : ∀ xs : List (Int × Int × Int), (∀ n, n ∈ flatY xs → (Lit.int .i64 n).wf = true) → FitY xs
  | [], _ => fun p hp => by cases hp
  | (a, b, c) :: r, h => fun p hp => by
    rcases List.mem_cons.1 hp with rfl | hp
    · exact ⟨h a (by simp [flatY]), h b (by simp [flatY]), h c (by simp [flatY])⟩
    · exact fitY_flat r (fun n hn => h n (by simp [flatY, hn])) p hp
theorem flat_fitY : ∀ {xs : List (Int × Int × Int)}, FitY xs → ∀ n, n ∈ flatY xs → (Lit.int .i64 n).wf = true
  | [], _, n, hn => by cases hn
  | (a, b, c) :: r, h, n, hn => by
    simp only [flatY, List.mem_cons] at hn
    have h0 := h (a, b, c) (List.mem_cons_self ..)
    rcases hn with rfl | rfl | rfl | hn
    · exact h0.1
    · exact h0.2.1
    · exact h0.2.2
    · exact flat_fitY (fun p hp => h p (List.mem_cons_of_mem _ hp)) n hn
def lenOf : Value → Nat
  | .slice _ l _ => l
  | _ => 0
/-- One number of a reply is stored. -/
theorem OwnY.field {w : World} {lo hi g len cap : Nat} {xs : List (Int × Int × Int)} (h : OwnY w lo hi (some ⟨g, 0, none⟩) len cap xs) (o : Nat) (v : Int) (hv : (Lit.int .i64 v).wf = true) :
    (∃ xs', OwnY (w.setCell ⟨g, o, none⟩ (.int .i64 v)) lo hi (some ⟨g, 0, none⟩) len cap xs') ∧ Moved g (g + 1) w (w.setCell ⟨g, o, none⟩ (.int .i64 v)) := by
  obtain ⟨h1, h2, h3, h4, h5⟩ := h
  obtain ⟨s1, s2⟩ := h4.stored o (.int .i64 v)
  obtain ⟨xs', e1, e2⟩ := unflatY len ((flatY xs).set o v) (by rw [List.length_set, flatY_len, h1])
  refine ⟨⟨xs', e2, fitY_flat _ (fun n hn => ?_), by simpa [World.setCell] using h3, ?_, h5⟩, Moved.of_grown s2 (Nat.le_refl _) (Nat.lt_succ_self _)⟩
  · rw [e1] at hn
    rcases List.mem_or_eq_of_mem_set hn with hm | rfl
    · exact flat_fitY h2 n hm
    · exact hv
  · rw [e1, List.map_set]
    exact s1
theorem OwnY.cellF {w : World} {lo hi g len cap : Nat} {xs : List (Int × Int × Int)} (h : OwnY w lo hi (some ⟨g, 0, none⟩) len cap xs) {o : Nat} (ho : o < len * 3) : (∃ v, w.cell? ⟨g, o, none⟩ = some v) ∧ w.frozen? ⟨g, o, none⟩ = false := by
  obtain ⟨h1, h2, h3, h4, h5⟩ := h
  have hl : ((flatY xs).map (Value.int .i64)).length = len * 3 := by rw [List.length_map, flatY_len, h1]
  refine ⟨⟨_, (h4.cellAt o ho).trans (List.getElem?_eq_getElem (by omega))⟩, h4.frozenAt o⟩
set_option maxRecDepth 20000 in
set_option maxHeartbeats 3200000 in
theorem any11_any (W : World) (B : Nat) (hc : Cur W B) : Calls Try.prog 94 #[.pointer (some ⟨B, 0, none⟩)] W (DrewYs B 13 W) := by
  have HC0 := Lib.hid hc
  have hB := hc.lt
  clear hc
  obtain ⟨i0, hi, hz0, hz1, hz2⟩ := info_parts info_rep
  go_enter Try.func94, Try.ntmps94
  go_wp2_with fail
  go_at_call 108
  refine (draw11_any _ B HC0.out).mono ?_
  rintro e w1 ⟨xs, a, len, cap, hl, rfl, ho, hc1, hg1⟩
  have HY1 := Lib.hid ho
  have HC1 := Lib.hid hc1
  have HG1 := Lib.hid hg1
  have hs1 := hg1.size
  clear ho hc1 hg1
  by_cases h0 : len = 0
  · subst h0
    go_wp2
    go_ret
    exact ⟨xs, _, _, _, by omega, rfl, HY1.out, HC1.out, HG1.out⟩
  · have h0i : ¬ (len : Int) = 0 := by omega
    obtain ⟨g, rfl⟩ := HY1.out.someA (by omega)
    have hgW := (HY1.out.2.2.2.2 _ rfl).1
    simp only at hgW
    go_wp2_with fail
    go_at_call 52
    refine (below_any _ B (len : Int) (by omega) HC1.out).mono ?_
    rintro e w2 ⟨q, ⟨hq0, hq1⟩, rfl, hc2, hg2⟩
    obtain ⟨j, rfl⟩ : ∃ j : Nat, q = (j : Int) := ⟨q.toNat, by omega⟩
    have hj : j < len := by omega
    have HY2 := Lib.hid (HY1.out.grown hg2 hB)
    have HC2 := Lib.hid hc2
    have HG2 := Lib.hid (grown_trans HG1.out hg2)
    clear hc2 hg2 hq0 hq1
    go_wp2_with fail
    go_at_call 52
    refine (below_any _ B 8 (by decide) HC2.out).mono ?_
    rintro e w3 ⟨s, ⟨hs0, hs1⟩, rfl, hc3, hg3⟩
    have HY3 := Lib.hid (HY2.out.grown hg3 hB)
    have HC3 := Lib.hid hc3
    have HG3 := Lib.hid (grown_trans HG2.out hg3)
    clear hc3 hg3 hs1
    have j0 : (0 : Int) ≤ (j : Int) := by omega
    have j1 : (j : Int) < (len : Int) := by omega
    by_cases e0 : s = 0
    · subst e0
      go_wp2_with fail
      go_at_call 109
      refine (raw9_any _ B HC3.out).mono ?_
      rintro e w4 ⟨v, hv, rfl, hc4, hg4⟩
      have hvw : (Lit.int .i64 v).wf = true := WalkArith.wf_i64 hv
      clear hv
      have HY4 := Lib.hid (HY3.out.grown hg4 hB)
      have HC4 := Lib.hid hc4
      have HG4 := Lib.hid (grown_trans HG3.out hg4)
      obtain ⟨⟨ys, hy5⟩, hm5⟩ := HY4.out.field (j * 3 + 1) v hvw
      obtain ⟨⟨u, cu⟩, fu⟩ := HY4.out.cellF (o := j * 3 + 1) (by omega)
      have HY5 := Lib.hid hy5
      have HM5 := Lib.hid hm5
      clear hy5 hm5 hc4 hg4 hvw
      go_wp2
      go_ret
      exact ⟨ys, _, _, _, by omega, rfl, HY5.out.wide (Nat.le_refl _) HY5.out.2.2.1 (Nat.le_refl _), HC4.out.below (HM5.out.below (by omega) (by have := HY4.out.2.2.1; omega)), grown_moved HG4.out HM5.out (by omega)⟩
    · by_cases e1 : s = 1
      · subst e1
        go_wp2_with fail
        go_at_call 109
        refine (raw9_any _ B HC3.out).mono ?_
        rintro e w4 ⟨v, hv, rfl, hc4, hg4⟩
        have hvw : (Lit.int .i64 v).wf = true := WalkArith.wf_i64 hv
        clear hv
        have HY4 := Lib.hid (HY3.out.grown hg4 hB)
        have HC4 := Lib.hid hc4
        have HG4 := Lib.hid (grown_trans HG3.out hg4)
        obtain ⟨⟨ys, hy5⟩, hm5⟩ := HY4.out.field (j * 3 + 2) v hvw
        obtain ⟨⟨u, cu⟩, fu⟩ := HY4.out.cellF (o := j * 3 + 2) (by omega)
        have HY5 := Lib.hid hy5
        have HM5 := Lib.hid hm5
        clear hy5 hm5 hc4 hg4 hvw
        go_wp2
        go_ret
        exact ⟨ys, _, _, _, by omega, rfl, HY5.out.wide (Nat.le_refl _) HY5.out.2.2.1 (Nat.le_refl _), HC4.out.below (HM5.out.below (by omega) (by have := HY4.out.2.2.1; omega)), grown_moved HG4.out HM5.out (by omega)⟩
      · by_cases e2 : s = 2
        · subst e2
          go_wp2_with fail
          go_at_call 57
          refine (int_new w3 B 3 [-1, 20, 21] _ 3 rfl rfl (by decide) (by decide) HC3.out).mono ?_
          rintro e w4 ⟨v, hv, rfl, hc4, hg4⟩
          have hvw : (Lit.int .i64 v).wf = true := (show ∀ y ∈ ([-1, 20, 21] : List Int), (Lit.int .i64 y).wf = true by decide) _ hv
          clear hv
          have HY4 := Lib.hid (HY3.out.grown hg4 hB)
          have HC4 := Lib.hid hc4
          have HG4 := Lib.hid (grown_trans HG3.out hg4)
          obtain ⟨⟨ys, hy5⟩, hm5⟩ := HY4.out.field (j * 3) v hvw
          obtain ⟨⟨u, cu⟩, fu⟩ := HY4.out.cellF (o := j * 3) (by omega)
          have HY5 := Lib.hid hy5
          have HM5 := Lib.hid hm5
          clear hy5 hm5 hc4 hg4 hvw
          go_wp2
          go_ret
          exact ⟨ys, _, _, _, by omega, rfl, HY5.out.wide (Nat.le_refl _) HY5.out.2.2.1 (Nat.le_refl _), HC4.out.below (HM5.out.below (by omega) (by have := HY4.out.2.2.1; omega)), grown_moved HG4.out HM5.out (by omega)⟩
        · by_cases e3 : s = 3
          · subst e3
            go_wp2_with fail
            go_loopw [3] (fun v wr => ∃ (l g c' : Nat) (ys : List (Int × Int × Int)), 0 < l ∧ l ≤ 13 ∧ v = .slice (some ⟨g, 0, none⟩) l c' ∧ OwnY wr W.heap.size wr.heap.size (some ⟨g, 0, none⟩) l c' ys ∧ Cur wr B ∧ W.grownBy wr (some B)) (fun v _ => 13 - lenOf v)
            case atStart => exact ⟨len, g, _, _, by omega, by omega, rfl, HY3.out.wide (Nat.le_refl _) HY3.out.2.2.1 (Nat.le_refl _), HC3.out, HG3.out⟩
            case round =>
              clear HY3 HC3 HG3 HY2 HC2 HG2 HY1 HC1 HG1
              obtain ⟨l, g, c', ys, hl0, hl1, rfl, hy, hc, hg⟩ := hrel
              have HY := Lib.hid hy
              have HC := Lib.hid hc
              have HG := Lib.hid hg
              have hsz := hg.size
              clear hy hc hg
              by_cases hlt : l < 13
              · have hli : (l : Int) < 13 := by omega
                have hw : IntKind.i64.wrap (1000 + (l : Int)) = 1000 + (l : Int) := IntWalk.i64_in _ (by omega)
                have HWL : Hid ((Lit.int .i64 (1000 + (l : Int))).wf = true) := Lib.hid (WalkArith.wf_i64 ⟨by omega, by omega⟩)
                have HWM : Hid ((Lit.int .i64 (l : Int)).wf = true) := Lib.hid (WalkArith.wf_i64 ⟨by omega, by omega⟩)
                go_wp2_with (at_builtin; refine wp_append_seesY rfl _ _ 48 rfl i0 Try.underlying48 hi hz0 hz1 hz2 _ _ _ _ rfl _ _ (HY.out.alloc _) _ 1 1 [(7, 1000 + (l : Int), (l : Int))] rfl (seesY_one (by decide) HWL.out HWM.out _ _) (by unfold maxLen; omega) (by omega) (by simp; omega) ?_; intro a6 len6 cap6 w6 hlen6 ho6 hm6; subst hlen6; have HO6 := Lib.hid ho6; have HM6 := Lib.hid hm6; clear ho6 hm6)
                go_roundw
                case rel =>
                  obtain ⟨g6, rfl⟩ := HO6.out.someA (by omega)
                  exact ⟨l + 1, g6, _, _, by omega, by omega, rfl, HO6.out, (HC.out.alloc _).below (HM6.out.below (by omega) (by simp; omega)), grown_moved (grown_trans HG.out (World.grownBy_alloc _ _ _)) HM6.out (Nat.le_refl _)⟩
                case measure => simp [lenOf]; omega
              · have hli : ¬ (l : Int) < 13 := by omega
                go_wp2
                go_ret
                exact ⟨ys, _, _, _, hl1, rfl, HY.out, HC.out, HG.out⟩
          · go_wp2
            go_ret
            exact ⟨xs, _, _, _, by omega, rfl, HY3.out.wide (Nat.le_refl _) (HY3.out.2.2.1) (Nat.le_refl _), HC3.out, HG3.out⟩
/-- What the law's draw of replies leaves. -/
def GotYs (W : World) (e : Ending) (w' : World) : Prop := ∃ (xs : List (Int × Int × Int)) (a : Option Addr) (len cap : Nat), len ≤ 13 ∧ e = .returned (.slice a len cap) ∧ SeesY w' a len xs ∧ Below W.heap.size W w'
theorem drawRep_any (W : World) (a0 : Option Addr) (len0 cap0 : Nat) (hl : len0 ≤ 1048576) (hc : CodeAt W W.heap.size a0 len0) : Calls Try.prog 68 #[.slice a0 len0 cap0] W (GotYs W) := by
  have HC0 := Lib.hid hc
  clear hc
  go_enter Try.func68, Try.ntmps68
  go_wp2_with fail
  go_at_call 50
  refine (new_any W a0 len0 cap0 hl HC0.out).mono ?_
  rintro e w1 ⟨rfl, hc1, hb1, hlt1⟩
  have HC1 := Lib.hid hc1
  have HB1 := Lib.hid hb1
  clear hc1 hb1
  go_wp2_with fail
  go_at_call 94
  refine (any11_any _ W.heap.size HC1.out).mono ?_
  rintro e w2 ⟨xs, a, len, cap, hl2, rfl, ho, hc2, hg2⟩
  have HY2 := Lib.hid ho
  have HG2 := Lib.hid hg2
  clear ho hc2 hg2
  go_wp2
  go_ret
  exact ⟨xs, _, _, _, hl2, rfl, HY2.out.sees, HB1.out.trans (grown_below' HG2.out (by omega))⟩
theorem drawGrp_any (W : World) (a0 : Option Addr) (len0 cap0 : Nat) (hl : len0 ≤ 1048576) (hc : CodeAt W W.heap.size a0 len0) : Calls Try.prog 34 #[.slice a0 len0 cap0] W (GotYs W) := by
  have HC0 := Lib.hid hc
  clear hc
  go_enter Try.func34, Try.ntmps34
  go_wp2_with (go_at_call 68; refine (drawRep_any W a0 len0 cap0 hl HC0.out).mono ?_; rintro e w1 ⟨xs, a, len, cap, hl2, rfl, hs, hb⟩; have HS := Lib.hid hs; have HB := Lib.hid hb; clear hs hb)
  go_ret
  exact ⟨xs, _, _, _, hl2, rfl, HS.out, HB.out⟩
end Go.Proofs.Ytgninjdnfidpcaa
