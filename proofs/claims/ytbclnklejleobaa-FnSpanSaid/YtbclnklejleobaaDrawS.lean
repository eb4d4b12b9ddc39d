/- Draws of chapter 5: a matrix and a row. -/
import Derived.Test.YtbclnklejleobaaDrawM
import Derived.Test.YtbclnklejleobaaMinW
import Derived.Test.YtbclnklejleobaaStepSl
import Derived.Deep.RegionHeld3
import Derived.IntWalk
namespace Go.Proofs.Ytbclnklejleobaa
open Go.RowKit
/-- A matrix, or what is none, and a row. -/
def GotMR (w : World) (e : Ending) (w' : World) : Prop :=
  ∃ (ms : List (List Int)) (a : Option Addr) (len cap : Nat) (zs : List Int) (b : Option Addr) (lb cb : Nat), SmallM ms ∧ len ≤ 13 ∧ (1 ≤ lb ∧ lb ≤ 6) ∧ e = .returned (.tuple #[.slice a len cap, .slice b lb cb]) ∧ OwnM w' w.heap.size w'.heap.size a len cap ms ∧ Own .i64 3 w' w.heap.size w'.heap.size b lb cb zs ∧ Below w.heap.size w w'
theorem mid_bd (s : Int) : -2 ≤ maxV (-2) (minV 2 s) ∧ maxV (-2) (minV 2 s) ≤ 2 := by
  unfold maxV minV
  split <;> split <;> omega
set_option maxRecDepth 20000 in
set_option maxHeartbeats 1600000 in
theorem drawSp_any (W : World) (a : Option Addr) (len cap : Nat) (hl : len ≤ 1048576) (hc : CodeAt W W.heap.size a len) : Calls Try.prog 48 #[.slice a len cap] W (GotMR W) := by
  have HK := Lib.hid hc
  clear hc
  obtain ⟨i0, hi, hz0, hz1', hz2'⟩ := info_parts info_i64
  go_enter Try.func48, Try.ntmps48
  go_wp2_with fail
  go_at_call 56
  refine (new_any _ a len cap hl HK.out).mono ?_
  rintro e w1 ⟨rfl, hc1, hb1, hz1⟩
  have HC1 := Lib.hid hc1
  have HB1 := Lib.hid hb1
  clear hc1 hb1
  go_wp2_with fail
  go_at_call 57
  refine (below_any _ _ 6 (by decide) HC1.out).mono ?_
  rintro e w2 ⟨x, ⟨hx0, hx1⟩, rfl, hc2, hg2⟩
  have hx2 : x < 6 := by omega
  obtain ⟨n, hn⟩ : ∃ n : Nat, 1 + x = (n : Int) := ⟨(1 + x).toNat, by omega⟩
  have hn1 : 1 ≤ n := by omega
  have hn6 : n ≤ 6 := by omega
  have HN := Lib.hid hn
  have HC2 := Lib.hid hc2
  have HB2 := Lib.hid (HB1.out.trans (grown_below' hg2 (Nat.le_of_lt hz1)))
  have hz2 : W.heap.size < w2.heap.size := Nat.lt_of_lt_of_le hz1 hg2.size
  clear hc2 hg2 hx1 hn
  go_wp2_with fail
  rw [HN.out]
  go_at_call 58
  refine (any5_any _ _ n hn1 hn6 HC2.out).mono ?_
  rintro e w3 ⟨ms, a3, l3, c3, hl3, hr3, hr31, rfl, ho3, hc3, hg3⟩
  have HSM := Lib.hid (drawn_small ho3.1 hl3 hr3)
  have HR3 := Lib.hid hr31
  have HR0 := Lib.hid hr3
  have HO3 := Lib.hid ho3
  have HC3 := Lib.hid hc3
  have HB3 := Lib.hid (HB2.out.trans (grown_below' hg3 (by omega)))
  have hz3 : w2.heap.size ≤ w3.heap.size := hg3.size
  have hone : ∀ w : World, Cur w W.heap.size → OwnM w w2.heap.size w3.heap.size a3 l3 c3 ms → Below W.heap.size W w → w3.heap.size ≤ w.heap.size → ∀ e' w', DrewR W.heap.size n w e' w' → ∃ (zs : List Int) (b : Option Addr) (cb : Nat), e' = .returned (.slice b n cb) ∧ OwnM w' W.heap.size w'.heap.size a3 l3 c3 ms ∧ Own .i64 3 w' W.heap.size w'.heap.size b n cb zs ∧ Below W.heap.size W w' := by
    rintro w hc ho hb hsz e' w' ⟨zs, b, cb, rfl, ho2, hc2, hg2⟩
    have h1 := hg2.size
    exact ⟨zs, b, cb, rfl, (ho.grown hg2 (by omega)).wide (by omega) (by omega) (Nat.le_refl _), ho2.wide (by omega) (Nat.le_refl _) (Nat.le_refl _), hb.trans (grown_below' hg2 (by omega))⟩
  have HONE := Lib.hid hone
  clear ho3 hc3 hg3 hr3 hr31 hone
  by_cases hlen : 1 < l3
  · have hlI : (1 : Int) < (l3 : Int) := by omega
    go_wp2_with fail
    go_at_call 59
    refine (once_any _ _ 3 (by decide) HC3.out).mono ?_
    rintro e w4 ⟨q, rfl, hc4, hg4⟩
    have HC4 := Lib.hid hc4
    have HO4 := Lib.hid (HO3.out.grown hg4 (by omega))
    have HB4 := Lib.hid (HB3.out.trans (grown_below' hg4 (by omega)))
    have hz4 : w3.heap.size ≤ w4.heap.size := hg4.size
    have hin := HO4.out.sees.2
    obtain ⟨g, o, a0, c0, rfl, hgs, hc04, hle0, hcm0, hs0⟩ := hin 0 (by omega)
    obtain ⟨g', o', ay, cy, hg', _, hcy4, _, _, hsy⟩ := hin 1 hlen
    simp only [Option.some.injEq, Addr.mk.injEq, and_true] at hg'
    obtain ⟨rfl, rfl⟩ := hg'
    rw [HR3.out 1 (Nat.le_refl _) hlen] at hcy4 hsy
    have HS0 := Lib.hid hs0
    have HSY := Lib.hid hsy
    rw [Nat.add_zero] at hc04
    clear hc4 hg4 hin hs0 hsy hle0 hcm0
    cases q
    · go_wp2_with (go_at_call 69; refine (row5_any _ _ n hn6 HC4.out).mono ?_; intro e' w' hd; obtain ⟨zs, b, cb, rfl, k1, k2, k3⟩ := HONE.out _ HC4.out HO4.out HB4.out hz4 e' w' hd; have K1 := Lib.hid k1; have K2 := Lib.hid k2; have K3 := Lib.hid k3; clear hd k1 k2 k3)
      go_ret2
      exact ⟨ms, _, _, _, zs, _, _, _, HSM.out, hl3, ⟨hn1, hn6⟩, rfl, K1.out, K2.out, K3.out⟩
    · obtain ⟨L0, hL0⟩ : ∃ L0, L0 = (row ms 0).length := ⟨_, rfl⟩
      rw [← hL0] at hc04 HS0
      have hL7 : L0 ≤ 7 := by rw [hL0]; exact HR0.out 0 (by omega)
      clear hL0
      by_cases hLn : L0 = n
      · replace hLn := hLn.symm
        subst hLn
        rcases HS0.out.2.2 with h0 | ⟨b0, o0, rfl, hb0, hcell0⟩
        · omega
        rcases HSY.out.2.2 with h0 | ⟨b1, o1, rfl, hb1, hcell1⟩
        · omega
        have HE0 := Lib.hid hcell0
        have HE1 := Lib.hid hcell1
        have HG0 := Lib.hid hc04
        have HG1 := Lib.hid hcy4
        clear hcell0 hcell1
        go_wp2_with fail
        clear hc04 hcy4
        go_loopw [7, 8] (fun v i wr => ∃ (k : Nat) (xs : List Int) (a' : Option Addr) (c' : Nat), k ≤ n ∧ i = .int .i64 k ∧ v = .slice a' k c' ∧ Own .i64 3 wr w4.heap.size wr.heap.size a' k c' xs ∧ Below w4.heap.size w4 wr) (fun _ i _ => n - (intOf i).toNat)
        case atStart => exact ⟨0, [], _, _, Nat.zero_le _, rfl, rfl, (own_nil _ _ _).wide (Nat.le_refl _) (by simp) (Nat.le_refl _), (Below.refl _ _).alloc (Nat.le_refl _) _⟩
        case round =>
          obtain ⟨k, xs, a', c', hk, rfl, rfl, ho, hb⟩ := hrel
          have HO := Lib.hid ho
          have HB := Lib.hid hb
          have hsz := hb.size
          by_cases hkn : k < n
          · have k1 := (hb.cell (p := ⟨g, o, none⟩) hgs).trans HG0.out
            have k2 := (hb.cell (p := ⟨g, o + 1, none⟩) hgs).trans HG1.out
            have k3 := (hb.cell (p := ⟨b0, o0 + k, none⟩) hb0).trans (HE0.out k hkn)
            have k4 := (hb.cell (p := ⟨b1, o1 + k, none⟩) hb1).trans (HE1.out k hkn)
            have B1 := Lib.hid k1
            have B2 := Lib.hid k2
            obtain ⟨x, hx⟩ : ∃ x, x = (row ms 0).getD k 0 := ⟨_, rfl⟩
            obtain ⟨y, hy⟩ : ∃ y, y = (row ms 1).getD k 0 := ⟨_, rfl⟩
            rw [← hx] at k3
            rw [← hy] at k4
            have B3 := Lib.hid k3
            have B4 := Lib.hid k4
            obtain ⟨s, hs⟩ : ∃ s, IntKind.i64.wrap (x + y) = s := ⟨_, rfl⟩
            have hs2 : wrap64 (x + y) = s := by rw [← IntWalk.i64_left]; exact hs
            obtain ⟨u, hu⟩ : ∃ u, minV 2 s = u := ⟨_, rfl⟩
            obtain ⟨v, hv⟩ : ∃ v, maxV (-2) u = v := ⟨_, rfl⟩
            have hvb := mid_bd s
            rw [hu, hv] at hvb
            obtain ⟨hv0, hv1⟩ := hvb
            have HU := Lib.hid hu
            have HVV := Lib.hid hv
            have hk0 : (0 : Int) ≤ (k : Int) := Int.natCast_nonneg _
            have hki : (k : Int) < (n : Int) := by omega
            have hgr : g < wr.heap.size := by omega
            have hl0I : (0 : Int) < (l3 : Int) := by omega
            have hl0N : 0 < l3 := by omega
            have hl0M : ¬ l3 = 0 := by omega
            have hl0L : (l3 : Int) ≠ 0 := by omega
            have hb0r : b0 < wr.heap.size := by omega
            have hb1r : b1 < wr.heap.size := by omega
            clear ho hb hx hy hu hv
            go_wp2_with fail
            go_region_held3 (fun w' => w'.cell? ⟨g, o, none⟩ = some (.slice (some ⟨b0, o0, none⟩) n c0) ∧ w'.cell? ⟨g, o + 1, none⟩ = some (.slice (some ⟨b1, o1, none⟩) n cy) ∧ w'.cell? ⟨b0, o0 + k, none⟩ = some (.int .i64 x) ∧ w'.cell? ⟨b1, o1 + k, none⟩ = some (.int .i64 y)) (go_keep) (first
              | (go_at_call 68; refine (specMin_any 2 s _).mono ?_; rw [HU.out]; rintro e w' ⟨rfl, rfl⟩)
              | (go_at_call 67; refine (specMax_any (-2) u _).mono ?_; rw [HVV.out]; rintro e w' ⟨rfl, rfl⟩)
              | (refine step_append_sees rfl _ _ 29 rfl 3 i0 .i64 8 Try.underlying29 hi hz0 hz1' hz2' _ _ _ _ rfl _ _ ((HO.out.alloc _).below (Below.refl _ _).drew) _ 1 1 [v] rfl ((sees_one (WalkArith.wf_i64 (by omega)) _ _).below (Below.refl _ _).drew) (by unfold maxLen; omega) (by omega) (by simp; omega) ?_; intro a6 len6 cap6 w6 hlen6 ho6 hm6; have hbb := hm6.below (B := w4.heap.size) (Nat.le_refl _) (by simp; omega); have q1 : w6.cell? ⟨g, o, none⟩ = some (.slice (some ⟨b0, o0, none⟩) n c0) := (hbb.cell (p := ⟨g, o, none⟩) hgs).trans (by rw [World.cell?_drew, World.cell?_alloc_past _ _ _ hgr]; exact B1.out); have q2 : w6.cell? ⟨g, o + 1, none⟩ = some (.slice (some ⟨b1, o1, none⟩) n cy) := (hbb.cell (p := ⟨g, o + 1, none⟩) hgs).trans (by rw [World.cell?_drew, World.cell?_alloc_past _ _ _ hgr]; exact B2.out); have q3 : w6.cell? ⟨b0, o0 + k, none⟩ = some (.int .i64 x) := (hbb.cell (p := ⟨b0, o0 + k, none⟩) hb0).trans (by rw [World.cell?_drew, World.cell?_alloc_past _ _ _ hb0r]; exact B3.out); have q4 : w6.cell? ⟨b1, o1 + k, none⟩ = some (.int .i64 y) := (hbb.cell (p := ⟨b1, o1 + k, none⟩) hb1).trans (by rw [World.cell?_drew, World.cell?_alloc_past _ _ _ hb1r]; exact B4.out); subst hlen6; clear hbb; have HO6 := Lib.hid ho6; have HM6 := Lib.hid hm6; clear ho6 hm6))
            go_wp2
            go_roundw
            case rel => exact ⟨k + 1, _, _, _, by omega, by go_num, rfl, HO6.out, below_moved ((HB.out.alloc hsz _).drew) HM6.out (Nat.le_refl _) (Nat.le_refl _)⟩
            case measure => simp [intOf]; omega
          · obtain rfl : k = n := by omega
            clear ho hb
            go_wp2_with fail
            go_ret2
            exact ⟨ms, _, _, _, xs, _, _, _, HSM.out, hl3, ⟨hn1, hn6⟩, rfl, (HO4.out.moved (Moved.of_below (lo := w4.heap.size) (hi := w4.heap.size) HB.out) (.inl hz4)).wide (by omega) (by omega) (Nat.le_refl _), HO.out.wide HB4.out.size (Nat.le_refl _) (Nat.le_refl _), below_up HB4.out HB.out (Nat.le_refl _)⟩
      · have hLb : ((L0 : Int) == (n : Int)) = false := by simp; omega
        go_wp2_with (go_at_call 69; refine (row5_any _ _ n hn6 HC4.out).mono ?_; intro e' w' hd; obtain ⟨zs, b, cb, rfl, k1, k2, k3⟩ := HONE.out _ HC4.out HO4.out HB4.out hz4 e' w' hd; have K1 := Lib.hid k1; have K2 := Lib.hid k2; have K3 := Lib.hid k3; clear hd k1 k2 k3)
        go_ret2
        exact ⟨ms, _, _, _, zs, _, _, _, HSM.out, hl3, ⟨hn1, hn6⟩, rfl, K1.out, K2.out, K3.out⟩
  · have hlI : ¬ (1 : Int) < (l3 : Int) := by omega
    go_wp2_with (go_at_call 69; refine (row5_any _ _ n hn6 HC3.out).mono ?_; intro e' w' hd; obtain ⟨zs, b, cb, rfl, k1, k2, k3⟩ := HONE.out _ HC3.out HO3.out HB3.out (Nat.le_refl _) e' w' hd; have K1 := Lib.hid k1; have K2 := Lib.hid k2; have K3 := Lib.hid k3; clear hd k1 k2 k3)
    go_ret2
    exact ⟨ms, _, _, _, zs, _, _, _, HSM.out, hl3, ⟨hn1, hn6⟩, rfl, K1.out, K2.out, K3.out⟩
end Go.Proofs.Ytbclnklejleobaa
