/- Draws of chapter 9: intervals. -/
import Derived.Test.YtiehnhocmoodaaaDrawB
import Derived.Test.YtiehnhocmoodaaaDrawNum
import Derived.Test.YtiehnhocmoodaaaSlV
namespace Go.Proofs.Ytiehnhocmoodaaa
open Go.RowKit
theorem raw9_any (W : World) (B : Nat) (hc : Cur W B) : Calls Try.prog 46 #[.pointer (some ⟨B, 0, none⟩)] W (Drew B W IsI64) := by
  have HC0 := Lib.hid hc
  clear hc
  go_enter Try.func46, Try.ntmps46
  go_wp2_with fail
  go_at_call 48
  refine (once_any _ B 6 (by decide) HC0.out).mono ?_
  rintro e w1 ⟨x, rfl, hc1, hg1⟩
  have HC1 := Lib.hid hc1
  have HG1 := Lib.hid hg1
  clear hc1 hg1
  cases x
  · go_wp2_with (go_at_call 35; refine (below_any _ B 60 (by decide) HC1.out).mono ?_; rintro e w2 ⟨y, ⟨hy0, hy1⟩, rfl, hc2, hg2⟩; have hy2 : y ≤ 59 := (by omega); have HC2 := Lib.hid hc2; have HG2 := Lib.hid (grown_trans HG1.out hg2); clear hc2 hg2 hy1)
    go_ret
    exact ⟨y, ⟨by omega, by omega⟩, rfl, HC2.out, HG2.out⟩
  · go_wp2_with (go_at_call 49; refine (int_new w1 B 8 [-1, 0, 100000, 100001, -100000, -100001, 9223372036854775807, -9223372036854775808] _ 3 rfl rfl (by decide) (by decide) HC1.out).mono ?_; rintro e w2 ⟨y, hy, rfl, hc2, hg2⟩; have HY := Lib.hid ((show ∀ y ∈ ([-1, 0, 100000, 100001, -100000, -100001, 9223372036854775807, -9223372036854775808] : List Int), IsI64 y by unfold IsI64; decide) _ hy); have HC2 := Lib.hid hc2; have HG2 := Lib.hid (grown_trans HG1.out hg2); clear hc2 hg2 hy)
    go_ret
    exact ⟨y, HY.out, rfl, HC2.out, HG2.out⟩
/-- What a draw of an interval leaves. -/
def DrewV (B : Nat) (w : World) (e : Ending) (w' : World) : Prop := ∃ x y : Int, IsI64 x ∧ IsI64 y ∧ e = .returned (.agg #[.int .i64 x, .int .i64 y]) ∧ Cur w' B ∧ w.grownBy w' (some B)
set_option maxHeartbeats 1600000 in
theorem any9_any (W : World) (B : Nat) (hc : Cur W B) : Calls Try.prog 36 #[.pointer (some ⟨B, 0, none⟩)] W (DrewV B W) := by
  have HC0 := Lib.hid hc
  have hB := hc.lt
  clear hc
  go_enter Try.func36, Try.ntmps36
  go_wp2_with fail
  go_at_call 35
  refine (below_any _ B 50 (by decide) (HC0.out.alloc _)).mono ?_
  rintro e w1 ⟨x, ⟨hx0, hx1⟩, rfl, hc1, hg1⟩
  have hx2 : x ≤ 49 := by omega
  have hw1 : IntKind.i64.wrap (x - 10) = x - 10 := IntWalk.i64_in _ (by omega)
  have HC1 := Lib.hid hc1
  have HR1 := Lib.hid ((pair_new W 0 0 26).grown hg1 (by omega))
  have HG1 := Lib.hid (grown_trans (World.grownBy_alloc W _ _) hg1)
  have hz1 := HR1.out.lt
  clear hc1 hg1 hx1
  go_wp2_with fail
  go_at_call 35
  refine (below_any _ B 20 (by decide) HC1.out).mono ?_
  rintro e w2 ⟨y, ⟨hy0, hy1⟩, rfl, hc2, hg2⟩
  have hy2 : y ≤ 19 := by omega
  have HC2 := Lib.hid hc2
  have HR2 := Lib.hid (HR1.out.grown hg2 (by omega))
  have HG2 := Lib.hid (grown_trans HG1.out hg2)
  have hz2 := HR2.out.lt
  clear hc2 hg2 hy1
  obtain ⟨n, hn⟩ : ∃ n, n = x - 10 := ⟨_, rfl⟩
  obtain ⟨d, hd⟩ : ∃ d, d = n + y := ⟨_, rfl⟩
  have hnb : IsI64 n := ⟨by omega, by omega⟩
  have hdb : IsI64 d := ⟨by omega, by omega⟩
  have HN := Lib.hid hnb
  have HD := Lib.hid hdb
  go_wp2_with fail
  rw [← hn, ← hd]
  clear hn hd hnb hdb hw1 hx0 hx2 hy0 hy2
  go_at_call 35
  refine (below_any _ B 8 (by decide) (HC2.out.alloc _)).mono ?_
  rintro e w3 ⟨k, ⟨hk0, hk1⟩, rfl, hc3, hg3⟩
  have hk2 : k ≤ 7 := by omega
  have HC3 := Lib.hid hc3
  have HR3 := Lib.hid ((HR2.out.alloc _).grown hg3 (by omega))
  have HT3 := Lib.hid ((pair_new w2 n d 26).grown hg3 (by omega))
  have HG3 := Lib.hid (grown_trans (grown_newalloc HG2.out _) hg3)
  have hne : W.heap.size ≠ w2.heap.size := by omega
  have hw1 : W.heap.size ≤ w2.heap.size := by omega
  have hB1 : B < w2.heap.size := by omega
  clear hc3 hg3 hk1
  by_cases h0 : k = 0
  · subst h0
    go_wp2_with fail
    go_at_call 46
    refine (raw9_any _ B HC3.out).mono ?_
    rintro e w4 ⟨v, hv, rfl, hc4, hg4⟩
    have HV := Lib.hid hv
    have HC4 := Lib.hid hc4
    have HR4 := Lib.hid (HR3.out.grown hg4 (by omega))
    have HT4 := Lib.hid (HT3.out.grown hg4 (by omega))
    have HG4 := Lib.hid (grown_trans HG3.out hg4)
    clear hc4 hg4 hv
    have r0 := HR4.out.c0
    have r1 := HR4.out.c1
    have q0 := HR4.out.f0
    have q1 := HR4.out.f1
    have t0 := HT4.out.c0
    have t1 := HT4.out.c1
    have s0 := HT4.out.f0
    have s1 := HT4.out.f1
    go_wp2
    refine bodyPost_ret (v := .agg #[.int .i64 v, .int .i64 d]) (by simp [results, Try.results36, go_sem, r0, r1]) rfl ⟨v, d, HV.out, HD.out, rfl, ?_, ?_⟩
    · repeat (first | with_reducible exact HC4.out | refine Cur.kept ?_ (grown_setCell _ _ _ _) (fun k e => by cases e; omega))
    · repeat (first | with_reducible exact HG4.out | refine grown_newset ?_ _ (by omega))
  by_cases h1 : k = 1
  · subst h1
    go_wp2_with fail
    go_at_call 46
    refine (raw9_any _ B HC3.out).mono ?_
    rintro e w4 ⟨v, hv, rfl, hc4, hg4⟩
    have HV := Lib.hid hv
    have HC4 := Lib.hid hc4
    have HR4 := Lib.hid (HR3.out.grown hg4 (by omega))
    have HT4 := Lib.hid (HT3.out.grown hg4 (by omega))
    have HG4 := Lib.hid (grown_trans HG3.out hg4)
    clear hc4 hg4 hv
    have r0 := HR4.out.c0
    have r1 := HR4.out.c1
    have q0 := HR4.out.f0
    have q1 := HR4.out.f1
    have t0 := HT4.out.c0
    have t1 := HT4.out.c1
    have s0 := HT4.out.f0
    have s1 := HT4.out.f1
    go_wp2
    refine bodyPost_ret (v := .agg #[.int .i64 n, .int .i64 v]) (by simp [results, Try.results36, go_sem, r0, r1]) rfl ⟨n, v, HN.out, HV.out, rfl, ?_, ?_⟩
    · repeat (first | with_reducible exact HC4.out | refine Cur.kept ?_ (grown_setCell _ _ _ _) (fun k e => by cases e; omega))
    · repeat (first | with_reducible exact HG4.out | refine grown_newset ?_ _ (by omega))
  · have h2 : 2 ≤ k := by omega
    have r0 := HR3.out.c0
    have r1 := HR3.out.c1
    have q0 := HR3.out.f0
    have q1 := HR3.out.f1
    have t0 := HT3.out.c0
    have t1 := HT3.out.c1
    have s0 := HT3.out.f0
    have s1 := HT3.out.f1
    go_wp2
    refine bodyPost_ret (v := .agg #[.int .i64 n, .int .i64 d]) (by simp [results, Try.results36, go_sem, r0, r1]) rfl ⟨n, d, HN.out, HD.out, rfl, ?_, ?_⟩
    · repeat (first | with_reducible exact HC3.out | refine Cur.kept ?_ (grown_setCell _ _ _ _) (fun k e => by cases e; omega))
    · repeat (first | with_reducible exact HG3.out | refine grown_newset ?_ _ (by omega))
/-- A list of drawn intervals. -/
def DrewVs (W : World) (e : Ending) (w' : World) : Prop := ∃ (xs : List (Int × Int)) (a : Option Addr) (len cap : Nat), len ≤ 4 ∧ e = .returned (.slice a len cap) ∧ OwnV w' W.heap.size w'.heap.size a len cap xs ∧ Below W.heap.size W w'
theorem OwnV.grown {w w' : World} {lo hi B : Nat} {a : Option Addr} {len cap : Nat} {xs : List (Int × Int)} (h : OwnV w lo hi a len cap xs) (hg : w.grownBy w' (some B)) (hB : B < lo) : OwnV w' lo hi a len cap xs :=
  h.moved (Moved.of_grown hg (lo := B) (hi := B + 1) (Nat.le_refl _) (Nat.lt_succ_self _)) (.inr hB)
set_option maxRecDepth 20000 in
set_option maxHeartbeats 1600000 in
theorem drawAll_any (W : World) (a0 : Option Addr) (len0 cap0 : Nat) (hl : len0 ≤ 1048576) (hc : CodeAt W W.heap.size a0 len0) : Calls Try.prog 15 #[.slice a0 len0 cap0] W (DrewVs W) := by
  have HC0 := Lib.hid hc
  clear hc
  obtain ⟨i0, hi, hz0, hz1, hz2⟩ := info_parts info_iv
  go_enter Try.func15, Try.ntmps15
  go_wp2_with fail
  go_at_call 34
  refine (new_any W a0 len0 cap0 hl HC0.out).mono ?_
  rintro e w1 ⟨rfl, hc1, hb1, hlt1⟩
  have HC1 := Lib.hid hc1
  have HB1 := Lib.hid hb1
  clear hc1 hb1
  go_wp2_with fail
  go_at_call 35
  refine (below_any _ W.heap.size 5 (by decide) (HC1.out.alloc _)).mono ?_
  rintro e w2 ⟨z, ⟨hz0', hz1'⟩, rfl, hc2, hg2⟩
  have hz4 : z ≤ 4 := by omega
  have HC2 := Lib.hid hc2
  have HO2 := Lib.hid ((ownV_empty w1 w1.heap.size (Nat.le_refl _)).grown hg2 (by omega))
  have HG2 := Lib.hid (grown_trans (World.grownBy_alloc w1 _ _) hg2)
  have hs2 := hg2.size
  have hsz2 : w1.heap.size + 1 ≤ w2.heap.size := by simp at hs2; omega
  clear hc2 hg2 hz1' hs2
  obtain ⟨m, rfl⟩ : ∃ m : Nat, z = m := ⟨z.toNat, by omega⟩
  go_wp2_with fail
  go_loopw [4, 5] (fun v i wr => ∃ (k l : Nat) (xs : List (Int × Int)) (a' : Option Addr) (c' : Nat), l + k ≤ 4 ∧ i = .int .i64 (k : Int) ∧ v = .slice a' l c' ∧ OwnV wr w1.heap.size wr.heap.size a' l c' xs ∧ Cur wr W.heap.size ∧ w1.grownBy wr (some W.heap.size)) (fun _ i _ => (intOf i).toNat)
  case atStart => exact ⟨m, 0, [], _, _, by omega, rfl, rfl, HO2.out.wide (Nat.le_refl _) (by simp; omega) (Nat.le_refl _), HC2.out, HG2.out⟩
  case round =>
    obtain ⟨k, l, xs, a', c', hkl, rfl, rfl, ho, hc, hg⟩ := hrel
    have HO := Lib.hid ho
    have HCC := Lib.hid hc
    have HG := Lib.hid hg
    have hsz := hg.size
    clear ho hc hg
    by_cases hk : 0 < k
    · have hki : (0 : Int) < (k : Int) := by omega
      go_wp2_with (first
        | (go_at_call 36; refine (any9_any _ W.heap.size HCC.out).mono ?_; rintro e w3 ⟨x, y, hx, hy, rfl, hc3, hg3⟩; have HXY := Lib.hid (And.intro (WalkArith.wf_i64 hx) (WalkArith.wf_i64 hy)); have HC3 := Lib.hid hc3; have HO3 := Lib.hid (HO.out.grown hg3 (by omega)); have HG3 := Lib.hid (grown_trans HG.out hg3); have hsz3 := hg3.size; clear hx hy hc3 hg3)
        | (at_builtin; refine wp_append_seesV rfl _ _ 31 rfl i0 Try.underlying31 hi hz0 hz1 hz2 _ _ _ _ rfl _ _ (HO3.out.alloc _) _ _ _ [(x, y)] rfl (seesV_one HXY.out.1 HXY.out.2 _ _) (by unfold maxLen; omega) (by omega) (by simp; omega) ?_; intro a4 len4 cap4 w4 hlen4 ho4 hm4; subst hlen4; have HO4 := Lib.hid ho4; have HM4 := Lib.hid hm4; clear ho4 hm4))
      go_roundw
      case rel =>
        obtain ⟨k, rfl⟩ : ∃ j, k = j + 1 := ⟨k - 1, by omega⟩
        have hb4 := HM4.out.below (B := W.heap.size + 1) (by omega) (by simp; omega)
        exact ⟨k, l + 1, _, _, _, by omega, by go_num, rfl, HO4.out, (HC3.out.alloc _).below hb4, grown_moved (grown_trans HG3.out (World.grownBy_alloc w3 _ _)) HM4.out (Nat.le_refl _)⟩
      case measure => simp [intOf]; omega
    · obtain rfl : k = 0 := by omega
      go_wp2_with fail
      go_ret
      exact ⟨xs, _, _, _, by omega, rfl, HO.out.wide (by omega) (Nat.le_refl _) (Nat.le_refl _), HB1.out.trans (grown_below' HG.out (by omega))⟩
end Go.Proofs.Ytiehnhocmoodaaa
