/- Draws of chapter 6: systems. -/
import Derived.Test.YtedkeobhcpbigaaDrawS
import Derived.Test.YtedkeobhcpbigaaDot
namespace Go.Proofs.Ytedkeobhcpbigaa
open Go.RowKit
theorem dotW_wf (xs ys : List Int) : ∀ k, (Lit.int .i64 (dotW xs ys k)).wf = true
  | 0 => (by decide : (Lit.int .i64 0).wf = true)
  | k + 1 => wf_wrap _ _
theorem dotV_wf (xs ys : List Int) : (Lit.int .i64 (dotV xs ys)).wf = true := dotW_wf _ _ _
/-- Rows of n columns, m of them. -/
def DrewN (B n m : Nat) (w : World) (e : Ending) (w' : World) : Prop :=
  ∃ (ms : List (List Int)) (a : Option Addr) (cap : Nat), (∀ r, r < m → (row ms r).length = n) ∧ e = .returned (.slice a m cap) ∧ OwnM w' w.heap.size w'.heap.size a m cap ms ∧ Cur w' B ∧ w.grownBy w' (some B)
set_option maxRecDepth 20000 in
set_option maxHeartbeats 1600000 in
theorem bits5_any (W : World) (B m n : Nat) (hm : m ≤ 13) (hn : n ≤ 6) (hc : Cur W B) : Calls Try.prog 69 #[.pointer (some ⟨B, 0, none⟩), .int .i64 (m : Int), .int .i64 (n : Int)] W (DrewN B n m W) := by
  have HC := Lib.hid hc
  have hB := hc.lt
  clear hc
  obtain ⟨i0, hi, hz0, hz1, hz2⟩ := info_parts info_i64
  obtain ⟨i1, hi1, hz10, hz11, hz12⟩ := info_parts info_row
  go_enter Try.func69, Try.ntmps69
  go_wp2_with fail
  go_loopw [7, 8, 9, 10] (fun v i _ _ wr => ∃ (k : Nat) (ms : List (List Int)) (a' : Option Addr) (c' : Nat), k ≤ m ∧ Hid (∀ r, r < k → (row ms r).length = n) ∧ i = .int .i64 k ∧ v = .slice a' k c' ∧ OwnM wr W.heap.size wr.heap.size a' k c' ms ∧ Cur wr B ∧ W.grownBy wr (some B)) (fun _ i _ _ _ => m - (intOf i).toNat)
  case atStart => exact ⟨0, [], _, _, Nat.zero_le _, Lib.hid (fun r hr => absurd hr (Nat.not_lt_zero _)), rfl, rfl, (ownM_nil0 W).wide (Nat.le_refl _) (by simp) (Nat.le_refl _), HC.out.alloc _, World.grownBy_alloc W _ _⟩
  case round =>
    obtain ⟨k, ms, a', c', hk, HR, rfl, rfl, ho, hc, hg⟩ := hrel
    have HO := Lib.hid ho
    have HCC := Lib.hid hc
    have HG := Lib.hid hg
    have hszr := hg.size
    clear ho hc hg
    by_cases hlt : k < m
    · obtain ⟨Vr, rfl⟩ : ∃ V, V = wr := ⟨_, rfl⟩
      go_wp2_with fail
      go_loopw [9, 10] (fun v i wr => ∃ (j : Nat) (xs : List Int) (a5 : Option Addr) (c5 : Nat), j ≤ n ∧ i = .int .i64 j ∧ v = .slice a5 j c5 ∧ Own .i64 3 wr Vr.heap.size wr.heap.size a5 j c5 xs ∧ Cur wr B ∧ Vr.grownBy wr (some B)) (fun _ i _ => n - (intOf i).toNat)
      case atStart => exact ⟨0, [], _, _, Nat.zero_le _, rfl, rfl, (own_nil _ _ _).wide (Nat.le_refl _) (by simp) (Nat.le_refl _), HCC.out.alloc _, World.grownBy_alloc Vr _ _⟩
      case round =>
        obtain ⟨j, xs, a5, c5, hj, rfl, rfl, ho5, hc5, hg5⟩ := hrel
        have HO5 := Lib.hid ho5
        have HC5 := Lib.hid hc5
        have HG5 := Lib.hid hg5
        have hsz5 := hg5.size
        clear ho5 hc5 hg5
        by_cases hltj : j < n
        · go_wp2_with (first
            | (go_at_call 39; refine (below_any _ B 2 (by decide) HC5.out).mono ?_; rintro e w6 ⟨y, ⟨hy0, hy1⟩, rfl, hc6, hg6⟩; have hy2 : y ≤ 2 := (by omega); have HC6 := Lib.hid hc6; have HO6 := Lib.hid (HO5.out.grown hg6 (by omega)); have HG6 := Lib.hid (grown_trans HG5.out hg6); have hsz6 := hg6.size; clear hc6 hg6 hy1)
            | (at_builtin; refine wp_append_sees rfl _ _ 25 rfl 3 i0 .i64 8 Try.underlying25 hi hz0 hz1 hz2 _ _ _ _ rfl _ _ (HO6.out.alloc _) _ _ _ _ rfl (sees_one (x := y) (WalkArith.wf_i64 (by omega)) _ _) (by unfold maxLen; omega) (by omega) (by simp; omega) ?_; intro a7 len7 cap7 w7 hlen7 ho7 hm7; subst hlen7; have HO7 := Lib.hid ho7; have HM7 := Lib.hid hm7; clear ho7 hm7))
          go_roundw
          case rel => exact ⟨j + 1, _, _, _, by omega, by go_num, rfl, HO7.out, (HC6.out.alloc _).below (HM7.out.below (by omega) (by simp; omega)), grown_moved (grown_trans HG6.out (World.grownBy_alloc w6 _ _)) HM7.out (Nat.le_refl _)⟩
          case measure => simp [intOf]; omega
        · obtain rfl : j = n := by omega
          have hjl := HO5.out.1
          have HJL := Lib.hid hjl
          subst hjl
          go_wp2_with (at_builtin; refine wp_append_ownM rfl _ _ 24 rfl i1 Try.underlying24 hi1 hz10 hz11 hz12 _ _ _ rfl wr.heap.size rfl _ W.heap.size Vr.heap.size ((HO.out.grown HG5.out hB).alloc _) a5 c5 xs (by simp) Vr.heap.size _ (HO5.out.alloc _) (Nat.le_refl _) hszr (by omega) (by simp; omega) ?_; intro g8 c8 w8 ho8 hm8; have HO8 := Lib.hid ho8; have HM8 := Lib.hid hm8; clear ho8 hm8)
          go_roundw
          case rel => exact ⟨k + 1, _, _, _, by omega, Lib.hid (rows_more HO.out.1 HR.out rfl), by go_num, rfl, HO8.out, (HC5.out.alloc _).below (HM8.out.below (by omega) (by simp; omega)), grown_moved (grown_trans (grown_trans HG.out HG5.out) (World.grownBy_alloc wr _ _)) HM8.out (Nat.le_refl _)⟩
          case measure => simp [intOf]; omega
    · obtain rfl : k = m := by omega
      go_wp2_with fail
      go_ret
      exact ⟨ms, _, _, HR.out, rfl, HO.out, HCC.out, HG.out⟩
/-- A matrix and as many values. -/
def DrewD (B n : Nat) (w : World) (e : Ending) (w' : World) : Prop :=
  ∃ (ms : List (List Int)) (a : Option Addr) (len cap : Nat) (vs : List Int) (b : Option Addr) (cb H : Nat), (1 ≤ len ∧ len ≤ 6) ∧ (∀ r, r < len → (row ms r).length = n) ∧ e = .returned (.tuple #[.slice a len cap, .slice b len cb]) ∧ w.heap.size ≤ H ∧ H ≤ w'.heap.size ∧ OwnM w' w.heap.size H a len cap ms ∧ Own .i64 3 w' H w'.heap.size b len cb vs ∧ Cur w' B ∧ w.grownBy w' (some B)
set_option maxRecDepth 20000 in
set_option maxHeartbeats 1600000 in
theorem draw6_any (W : World) (B n : Nat) (hn : n ≤ 6) (hc : Cur W B) : Calls Try.prog 59 #[.pointer (some ⟨B, 0, none⟩), .int .i64 (n : Int)] W (DrewD B n W) := by
  have HC := Lib.hid hc
  have hB := hc.lt
  clear hc
  obtain ⟨i0, hi, hz0, hz1, hz2⟩ := info_parts info_i64
  go_enter Try.func59, Try.ntmps59
  go_wp2_with fail
  go_at_call 39
  refine (below_any _ B 6 (by decide) HC.out).mono ?_
  rintro e w1 ⟨x, ⟨hx0, hx1⟩, rfl, hc1, hg1⟩
  have hx2 : x < 6 := by omega
  obtain ⟨m, hm⟩ : ∃ m : Nat, 1 + x = (m : Int) := ⟨(1 + x).toNat, by omega⟩
  have hm1 : 1 ≤ m := by omega
  have hm6 : m ≤ 6 := by omega
  have HN := Lib.hid hm
  have HC1 := Lib.hid hc1
  have HG1 := Lib.hid hg1
  have hsz1 := hg1.size
  clear hc1 hg1 hx1 hm
  go_wp2_with fail
  rw [HN.out]
  go_at_call 69
  refine (bits5_any _ B m n (by omega) hn HC1.out).mono ?_
  rintro e w2 ⟨ms, a2, c2, hr2, rfl, ho2, hc2, hg2⟩
  have HM2 := Lib.hid ho2
  have HR2 := Lib.hid hr2
  have HC2 := Lib.hid hc2
  have HG2 := Lib.hid (grown_trans HG1.out hg2)
  have hsz2 := hg2.size
  clear ho2 hr2 hc2 hg2
  go_wp2_with fail
  go_loopw [7, 8] (fun v i wr => ∃ (k : Nat) (xs : List Int) (a' : Option Addr) (c' : Nat), k ≤ n ∧ i = .int .i64 k ∧ v = .slice a' k c' ∧ Own .i64 3 wr w2.heap.size wr.heap.size a' k c' xs ∧ Cur wr B ∧ w2.grownBy wr (some B)) (fun _ i _ => n - (intOf i).toNat)
  case atStart => exact ⟨0, [], _, _, Nat.zero_le _, rfl, rfl, (own_nil _ _ _).wide (Nat.le_refl _) (by simp) (Nat.le_refl _), HC2.out.alloc _, World.grownBy_alloc w2 _ _⟩
  case round =>
    obtain ⟨k, xs, a', c', hk, rfl, rfl, ho, hc, hg⟩ := hrel
    have HO := Lib.hid ho
    have HCC := Lib.hid hc
    have HG := Lib.hid hg
    have hszr := hg.size
    clear ho hc hg
    by_cases hlt : k < n
    · go_wp2_with (first
        | (go_at_call 39; refine (below_any _ B 30 (by decide) HCC.out).mono ?_; rintro e w4 ⟨y, ⟨hy0, hy1⟩, rfl, hc4, hg4⟩; have hy2 : y ≤ 30 := (by omega); have HC4 := Lib.hid hc4; have HO4 := Lib.hid (HO.out.grown hg4 (by omega)); have HG4 := Lib.hid (grown_trans HG.out hg4); have hsz4 := hg4.size; clear hc4 hg4 hy1)
        | (at_builtin; refine wp_append_sees rfl _ _ 25 rfl 3 i0 .i64 8 Try.underlying25 hi hz0 hz1 hz2 _ _ _ _ rfl _ _ (HO4.out.alloc _) _ _ _ _ rfl (sees_one (x := y) (WalkArith.wf_i64 (by omega)) _ _) (by unfold maxLen; omega) (by omega) (by simp; omega) ?_; intro a5 len5 cap5 w5 hlen5 ho5 hm5; subst hlen5; have HO5 := Lib.hid ho5; have HM5 := Lib.hid hm5; clear ho5 hm5))
      go_roundw
      case rel => exact ⟨k + 1, _, _, _, by omega, by go_num, rfl, HO5.out, (HC4.out.alloc _).below (HM5.out.below (by omega) (by simp; omega)), grown_moved (grown_trans HG4.out (World.grownBy_alloc w4 _ _)) HM5.out (Nat.le_refl _)⟩
      case measure => simp [intOf]; omega
    · obtain rfl : k = n := by omega
      obtain ⟨Vx, rfl⟩ : ∃ V, V = wr := ⟨_, rfl⟩
      have HMX := Lib.hid (HM2.out.grown HG.out (by omega))
      have HXS := Lib.hid HO.out.sees
      go_wp2_with fail
      go_loopw [9, 10] (fun v i wr => ∃ (j : Nat) (vs : List Int) (a5 : Option Addr) (c5 : Nat), j ≤ m ∧ i = .int .i64 j ∧ v = .slice a5 j c5 ∧ Own .i64 3 wr Vx.heap.size wr.heap.size a5 j c5 vs ∧ Below Vx.heap.size Vx wr) (fun _ i _ => m - (intOf i).toNat)
      case atStart => exact ⟨0, [], _, _, Nat.zero_le _, rfl, rfl, (own_nil _ _ _).wide (Nat.le_refl _) (by simp) (Nat.le_refl _), (Below.refl _ _).alloc (Nat.le_refl _) _⟩
      case round =>
        obtain ⟨j, vs, a5, c5, hj, rfl, rfl, ho5, hb5⟩ := hrel
        have HO5 := Lib.hid ho5
        have HB5 := Lib.hid hb5
        have hsz5 := hb5.size
        by_cases hltj : j < m
        · obtain ⟨bo, off, ar, cr, rfl, hbl, hcw, _, _, hsr⟩ := (HMX.out.below hb5).sees.2 j hltj
          have hzl := HR2.out j hltj
          obtain ⟨z, hz⟩ : ∃ z, z = row ms j := ⟨_, rfl⟩
          rw [← hz] at hcw hsr hzl
          rw [hzl] at hcw hsr
          have HSR := Lib.hid hsr
          have HXR := Lib.hid (HXS.out.below hb5)
          obtain ⟨d, hd⟩ : ∃ d, d = dotV z xs := ⟨_, rfl⟩
          have HDW : Hid ((Lit.int .i64 d).wf = true) := Lib.hid (by rw [hd]; exact dotV_wf _ _)
          have HD := Lib.hid hd
          have hk9 : k ≤ 1073741824 := by omega
          have i0j : (0 : Int) ≤ (j : Int) := by omega
          have i1j : (j : Int) < (m : Int) := by omega
          clear ho5 hb5 hsr hz hzl hd
          go_wp2_with (first
            | (go_at_call 82; refine (specDot_any _ _ _ _ _ _ _ z xs hk9 hk9 HSR.out HXR.out).mono ?_; rw [← HD.out]; rintro e w6 ⟨rfl, hb6⟩; have HO6 := Lib.hid (HO5.out.below hb6); have hsz6 := hb6.size; have HB6 := Lib.hid (below_up HB5.out hb6 (Nat.le_refl _)); clear hb6)
            | (at_builtin; refine wp_append_sees rfl _ _ 25 rfl 3 i0 .i64 8 Try.underlying25 hi hz0 hz1 hz2 _ _ _ _ rfl _ _ (HO6.out.alloc _) _ _ _ _ rfl (sees_one (x := d) HDW.out _ _) (by unfold maxLen; omega) (by omega) (by simp; omega) ?_; intro a7 len7 cap7 w7 hlen7 ho7 hm7; subst hlen7; have HO7 := Lib.hid ho7; have HB7 := Lib.hid (below_moved (HB6.out.alloc (by omega) _) hm7 (Nat.le_refl _) (Nat.le_refl _)); clear ho7 hm7))
          go_roundw
          case rel => exact ⟨j + 1, _, _, _, by omega, by go_num, rfl, HO7.out, HB7.out⟩
          case measure => simp [intOf]; omega
        · obtain rfl : j = m := by omega
          clear ho5 hb5
          go_wp2_with fail
          go_ret2
          exact ⟨ms, _, _, _, vs, _, _, Vx.heap.size, ⟨hm1, hm6⟩, HR2.out, rfl, by omega, hsz5, (HMX.out.below HB5.out).wide (by omega) (by omega) hsz5, HO5.out, HCC.out.below (HB5.out.mono (by omega)), grown_trans (grown_trans HG2.out HG.out) (below_grown HB5.out)⟩
/-- A system, or what is none. -/
def DrewSys (B : Nat) (w : World) (e : Ending) (w' : World) : Prop :=
  ∃ (ms : List (List Int)) (a : Option Addr) (len cap : Nat) (vs : List Int) (b : Option Addr) (lb cb : Nat), SmallM ms ∧ len ≤ 13 ∧ lb ≤ 13 ∧ lb ≤ cb ∧ cb ≤ maxLen ∧ e = .returned (.tuple #[.slice a len cap, .slice b lb cb]) ∧ OwnM w' w.heap.size w'.heap.size a len cap ms ∧ Sees .i64 w' b lb vs ∧ (∀ x, b = some x → w.heap.size ≤ x.block) ∧ Cur w' B ∧ w.grownBy w' (some B)
theorem Own.drop1 {k : IntKind} {e : TypeId} {w : World} {lo hi g len cap : Nat} {zs : List Int} (h : Own k e w lo hi (some ⟨g, 0, none⟩) len cap zs) (h1 : 1 ≤ len) : Sees k w (some ⟨g, 1, none⟩) (len - 1) (zs.drop 1) := by
  have hl := h.1
  refine ⟨by rw [List.length_drop]; omega, fun n hn => h.2.1 n (List.mem_of_mem_drop hn), .inr ⟨g, 1, rfl, ?_, fun j hj => ?_⟩⟩
  · have := (h.2.2.2.2 _ rfl).2
    have := h.2.2.1
    simp only at *
    omega
  · rcases h.spot with ⟨h0, _⟩ | ⟨g', hg, _, _, _, _, hc, _⟩
    · cases h0
    · cases hg
      have := hc (1 + j) (by omega)
      rw [this]
      simp [List.getD, Nat.add_comm]
set_option maxRecDepth 20000 in
set_option maxHeartbeats 3200000 in
theorem any6_any (W : World) (B n : Nat) (hn1 : 1 ≤ n) (hn : n ≤ 6) (hc : Cur W B) : Calls Try.prog 40 #[.pointer (some ⟨B, 0, none⟩), .int .i64 (n : Int)] W (DrewSys B W) := by
  have HC := Lib.hid hc
  have hB := hc.lt
  clear hc
  obtain ⟨i0, hi, hz0, hz1, hz2⟩ := info_parts info_i64
  go_enter Try.func40, Try.ntmps40
  go_wp2_with fail
  go_at_call 59
  refine (draw6_any _ B n hn HC.out).mono ?_
  rintro e w1 ⟨ms, am, lm, cm, vs, bv, cv, H, ⟨hlm1, hlm6⟩, hr1, rfl, hH0, hH1, ho1, hv1, hc1, hg1⟩
  have HM1 := Lib.hid ho1
  have HV1 := Lib.hid hv1
  have HC1 := Lib.hid hc1
  have HG1 := Lib.hid hg1
  have HSM := Lib.hid (drawn_small (ms := ms) (len := lm) ho1.1 (by omega) (fun r hr => by rw [hr1 r hr]; omega))
  have hsz1 := hg1.size
  clear ho1 hv1 hc1 hg1 hr1
  go_wp2_with fail
  go_at_call 60
  refine (once_any _ _ 3 (by decide) HC1.out).mono ?_
  rintro e w2 ⟨q, rfl, hc2, hg2⟩
  have HC2 := Lib.hid hc2
  have HM2 := Lib.hid (HM1.out.grown hg2 (by omega))
  have HV2 := Lib.hid (HV1.out.grown hg2 (by omega))
  have HG2 := Lib.hid (grown_trans HG1.out hg2)
  have hsz2 := hg2.size
  clear hc2 hg2
  cases q
  · obtain ⟨V, rfl⟩ : ∃ V, V = w2 := ⟨_, rfl⟩
    have HM := HM2
    have HV := HV2
    have HCV := HC2
    have HGV := HG2
    have hlo1 : W.heap.size ≤ W.heap.size := Nat.le_refl _
    have hlo2 : H ≤ H := Nat.le_refl _
    have hlv : lm ≤ 13 := by omega
    have hlm : lm ≤ 13 := by omega
    clear HM2 HV2 HC2 HG2 HM1 HV1
    have hvc := HV.out.cap
    have hvm := HV.out.capMax
    have hvs := HV.out.2.2.1
    by_cases h0 : lm = 0
    · subst h0
      go_wp2_with fail
      go_ret2
      exact ⟨ms, _, _, _, vs, _, _, _, HSM.out, hlm, by omega, hvc, hvm, rfl, HM.out.wide hlo1 (by omega) (Nat.le_refl _), HV.out.sees, fun x hx => by have := (HV.out.2.2.2.2 x hx).1; omega, HCV.out, HGV.out⟩
    · have hl0 : ¬ (lm : Int) = 0 := by omega
      have hl0b : ((lm : Int) == 0) = false := beq_eq_false_iff_ne.2 hl0
      go_wp2_with fail
      go_at_call 39
      refine (below_any _ B 9 (by decide) HCV.out).mono ?_
      rintro e w4 ⟨x, ⟨hx0, hx1⟩, rfl, hc4, hg4⟩
      have HV4 := Lib.hid (HV.out.grown hg4 (by omega))
      have HM4 := Lib.hid (HM.out.grown hg4 (by omega))
      have HC4 := Lib.hid hc4
      have HG4 := Lib.hid (grown_trans HGV.out hg4)
      have hsz4 := hg4.size
      clear hc4 hg4 hx1
      rcases HV4.out.spot with ⟨_, h00, _⟩ | ⟨g, rfl, hg0, hg1, _, _, hcell, hfz⟩
      · omega
      have HFZ := Lib.hid hfz
      have HCE := Lib.hid hcell
      clear hcell hfz
      by_cases hx : x = 0
      · subst hx
        have hlp : (0 : Int) < (lm : Int) := by omega
        have hlpn : 0 < lm := by omega
        go_wp2_with (go_at_call 62; refine (int_new _ B 4 [1000, 1001, -1001, 9223372036854775807] _ _ rfl rfl (by decide) (by decide) HC4.out).mono ?_; rintro e w5 ⟨y, hy, rfl, hc5, hg5⟩; have HY := Lib.hid ((show ∀ y ∈ [(1000 : Int), 1001, -1001, 9223372036854775807], -1001 ≤ y ∧ y ≤ 9223372036854775807 by decide) _ hy); have HC5 := Lib.hid hc5; have HV5 := Lib.hid (HV4.out.grown hg5 (by omega)); have HM5 := Lib.hid (HM4.out.grown hg5 (by omega)); have HG5 := Lib.hid (grown_trans HG4.out hg5); have hsz5 := hg5.size; have vc0 := own_cell0 HV5.out hlpn; have vf0 := own_frozen0 HV5.out; clear hc5 hg5 hy)
        go_ret2
        obtain ⟨hst, hmv⟩ := HV5.out.stored 0 y (WalkArith.wf_i64 (by have := HY.out; omega))
        exact ⟨ms, _, _, _, vs.set 0 y, _, _, _, HSM.out, hlm, hlv, hvc, hvm, rfl, (HM5.out.moved hmv (.inl hlo2)).wide hlo1 (by have := hmv.size; omega) (Nat.le_refl _), hst.sees, fun x hx => by have := (hst.2.2.2.2 x hx).1; omega, HC5.out.below (hmv.below (by omega) (by omega)), grown_moved HG5.out hmv (by omega)⟩
      · by_cases hx1 : x = 1
        · subst hx1
          have hl1 : (1 : Int) ≤ (lm : Int) := by omega
          have hl1c : (1 : Int) ≤ (cv : Int) := by omega
          by_cases hcv : cv = 1
          · obtain rfl : cv = 1 := hcv
            obtain rfl : lm = 1 := by omega
            go_wp2_with fail
            go_ret2
            refine ⟨ms, _, _, _, [], _, _, _, HSM.out, hlm, by omega, Nat.le_refl _, Nat.le_trans (by omega) hvm, rfl, HM4.out.wide hlo1 (by omega) (Nat.le_refl _), ⟨rfl, (fun _ h => by cases h), .inl rfl⟩, ?_, HC4.out, HG4.out⟩
            intro x hx
            cases hx
            show W.heap.size ≤ g
            omega
          · go_wp2_with fail
            go_ret2
            refine ⟨ms, _, _, _, vs.drop 1, _, _, _, HSM.out, hlm, by omega, by omega, Nat.le_trans (by omega) hvm, rfl, HM4.out.wide hlo1 (by omega) (Nat.le_refl _), HV4.out.drop1 (by omega), ?_, HC4.out, HG4.out⟩
            intro x hx
            cases hx
            show W.heap.size ≤ g
            omega
        · by_cases hx2 : x = 2
          · subst hx2
            obtain ⟨m, rfl⟩ : ∃ m, lm = m + 1 := ⟨lm - 1, by omega⟩
            have vc0 := HCE.out m (by omega)
            have vf0 := HFZ.out m
            obtain ⟨y, hy⟩ : ∃ y, y = vs.getD m 0 := ⟨_, rfl⟩
            rw [← hy] at vc0
            obtain ⟨y2, hy2⟩ : ∃ y2, IntKind.i64.wrap (y + 1) = y2 := ⟨_, rfl⟩
            have hy64 : wrap64 (y + 1) = y2 := by rw [← IntWalk.i64_left]; exact hy2
            have HW2 : Hid ((Lit.int .i64 y2).wf = true) := Lib.hid (by rw [← hy2]; exact wf_wrap _ _)
            have hm0 : (0 : Int) ≤ (m : Int) := by omega
            have hm1 : (m : Int) < (m : Int) + 1 := by omega
            have hmw : IntKind.i64.wrap (((m + 1 : Nat) : Int) - 1) = (m : Int) := by rw [show ((m + 1 : Nat) : Int) - 1 = (m : Int) by omega]; exact IntWalk.i64_in _ (by omega)
            clear hy
            go_wp2_with fail
            go_ret2
            obtain ⟨hst, hmv⟩ := HV4.out.stored m y2 HW2.out
            exact ⟨ms, _, _, _, vs.set m y2, _, _, _, HSM.out, hlm, hlv, hvc, hvm, rfl, (HM4.out.moved hmv (.inl hlo2)).wide hlo1 (by have := hmv.size; omega) (Nat.le_refl _), hst.sees, fun x hx => by have := (hst.2.2.2.2 x hx).1; omega, HC4.out.below (hmv.below (by omega) (by omega)), grown_moved HG4.out hmv (by omega)⟩
          · go_wp2_with fail
            go_ret2
            exact ⟨ms, _, _, _, vs, _, _, _, HSM.out, hlm, hlv, hvc, hvm, rfl, HM4.out.wide hlo1 (by omega) (Nat.le_refl _), HV4.out.sees, fun x hx => by have := (HV4.out.2.2.2.2 x hx).1; omega, HC4.out, HG4.out⟩
  · go_wp2_with fail
    go_at_call 61
    refine (any5_any _ _ n hn1 hn HC2.out).mono ?_
    rintro e w3 ⟨ms3, a3, l3, c3, hl3, hr3, _, rfl, ho3, hc3, hg3⟩
    have HM3 := Lib.hid ho3
    have HC3 := Lib.hid hc3
    have HG3 := Lib.hid (grown_trans HG2.out hg3)
    have HSM := Lib.hid (drawn_small ho3.1 hl3 hr3)
    have hsz3 := hg3.size
    clear ho3 hc3 hg3 hr3
    go_wp2_with fail
    go_loopw [7, 8] (fun v i wr => ∃ (k : Nat) (vs : List Int) (a' : Option Addr) (c' : Nat), k ≤ l3 ∧ i = .int .i64 k ∧ v = .slice a' k c' ∧ Own .i64 3 wr w3.heap.size wr.heap.size a' k c' vs ∧ Cur wr B ∧ w3.grownBy wr (some B)) (fun _ i _ => l3 - (intOf i).toNat)
    case atStart => exact ⟨0, [], _, _, Nat.zero_le _, rfl, rfl, (own_nil _ _ _).wide (Nat.le_refl _) (by simp) (Nat.le_refl _), HC3.out.alloc _, World.grownBy_alloc w3 _ _⟩
    case round =>
      obtain ⟨k, vs, a', c', hk, rfl, rfl, ho, hc, hg⟩ := hrel
      have HO := Lib.hid ho
      have HCC := Lib.hid hc
      have HG := Lib.hid hg
      have hszr := hg.size
      clear ho hc hg
      by_cases hlt : k < l3
      · go_wp2_with (first
          | (go_at_call 62; refine (int_new _ B 5 [0, 1, 5, -7, 12] _ _ rfl rfl (by decide) (by decide) HCC.out).mono ?_; rintro e w4 ⟨y, hy, rfl, hc4, hg4⟩; have HY := Lib.hid ((show ∀ y ∈ [(0 : Int), 1, 5, -7, 12], -7 ≤ y ∧ y ≤ 12 by decide) _ hy); have HC4 := Lib.hid hc4; have HO4 := Lib.hid (HO.out.grown hg4 (by omega)); have HG4 := Lib.hid (grown_trans HG.out hg4); have hsz4 := hg4.size; clear hc4 hg4 hy)
          | (at_builtin; refine wp_append_sees rfl _ _ 25 rfl 3 i0 .i64 8 Try.underlying25 hi hz0 hz1 hz2 _ _ _ _ rfl _ _ (HO4.out.alloc _) _ _ _ _ rfl (sees_one (x := y) (WalkArith.wf_i64 (by have := HY.out; omega)) _ _) (by unfold maxLen; omega) (by omega) (by simp; omega) ?_; intro a5 len5 cap5 w5 hlen5 ho5 hm5; subst hlen5; have HO5 := Lib.hid ho5; have HM5 := Lib.hid hm5; clear ho5 hm5))
        go_roundw
        case rel => exact ⟨k + 1, _, _, _, by omega, by go_num, rfl, HO5.out, (HC4.out.alloc _).below (HM5.out.below (by omega) (by simp; omega)), grown_moved (grown_trans HG4.out (World.grownBy_alloc w4 _ _)) HM5.out (Nat.le_refl _)⟩
        case measure => simp [intOf]; omega
      · obtain ⟨V, rfl⟩ : ∃ V, V = wr := ⟨_, rfl⟩
        obtain ⟨ms, hms⟩ : ∃ m, m = ms3 := ⟨_, rfl⟩
        rw [← hms] at HM3 HSM
        have HM := Lib.hid (HM3.out.grown HG.out (by omega))
        have HV := HO
        have HCV := HCC
        have HGV := Lib.hid (grown_trans HG3.out HG.out)
        have hlo1 : W.heap.size ≤ w2.heap.size := by omega
        have hlo2 : w3.heap.size ≤ w3.heap.size := Nat.le_refl _
        have hlv : k ≤ 13 := by omega
        have hlm : l3 ≤ 13 := hl3
        have hvc := HV.out.cap
        have hvm := HV.out.capMax
        have hvs := HV.out.2.2.1
        by_cases h0 : k = 0
        · subst h0
          go_wp2_with fail
          go_ret2
          exact ⟨ms, _, _, _, vs, _, _, _, HSM.out, hlm, by omega, hvc, hvm, rfl, HM.out.wide hlo1 (by omega) (Nat.le_refl _), HV.out.sees, fun x hx => by have := (HV.out.2.2.2.2 x hx).1; omega, HCV.out, HGV.out⟩
        · have hl0 : ¬ (k : Int) = 0 := by omega
          have hl0b : ((k : Int) == 0) = false := beq_eq_false_iff_ne.2 hl0
          go_wp2_with fail
          go_at_call 39
          refine (below_any _ B 9 (by decide) HCV.out).mono ?_
          rintro e w4 ⟨x, ⟨hx0, hx1⟩, rfl, hc4, hg4⟩
          have HV4 := Lib.hid (HV.out.grown hg4 (by omega))
          have HM4 := Lib.hid (HM.out.grown hg4 (by omega))
          have HC4 := Lib.hid hc4
          have HG4 := Lib.hid (grown_trans HGV.out hg4)
          have hsz4 := hg4.size
          clear hc4 hg4 hx1
          rcases HV4.out.spot with ⟨_, h00, _⟩ | ⟨g, rfl, hg0, hg1, _, _, hcell, hfz⟩
          · omega
          have HFZ := Lib.hid hfz
          have HCE := Lib.hid hcell
          clear hcell hfz
          by_cases hx : x = 0
          · subst hx
            have hlp : (0 : Int) < (k : Int) := by omega
            have hlpn : 0 < k := by omega
            go_wp2_with (go_at_call 62; refine (int_new _ B 4 [1000, 1001, -1001, 9223372036854775807] _ _ rfl rfl (by decide) (by decide) HC4.out).mono ?_; rintro e w5 ⟨y, hy, rfl, hc5, hg5⟩; have HY := Lib.hid ((show ∀ y ∈ [(1000 : Int), 1001, -1001, 9223372036854775807], -1001 ≤ y ∧ y ≤ 9223372036854775807 by decide) _ hy); have HC5 := Lib.hid hc5; have HV5 := Lib.hid (HV4.out.grown hg5 (by omega)); have HM5 := Lib.hid (HM4.out.grown hg5 (by omega)); have HG5 := Lib.hid (grown_trans HG4.out hg5); have hsz5 := hg5.size; have vc0 := own_cell0 HV5.out hlpn; have vf0 := own_frozen0 HV5.out; clear hc5 hg5 hy)
            go_ret2
            obtain ⟨hst, hmv⟩ := HV5.out.stored 0 y (WalkArith.wf_i64 (by have := HY.out; omega))
            exact ⟨ms, _, _, _, vs.set 0 y, _, _, _, HSM.out, hlm, hlv, hvc, hvm, rfl, (HM5.out.moved hmv (.inl hlo2)).wide hlo1 (by have := hmv.size; omega) (Nat.le_refl _), hst.sees, fun x hx => by have := (hst.2.2.2.2 x hx).1; omega, HC5.out.below (hmv.below (by omega) (by omega)), grown_moved HG5.out hmv (by omega)⟩
          · by_cases hx1 : x = 1
            · subst hx1
              have hl1 : (1 : Int) ≤ (k : Int) := by omega
              have hl1c : (1 : Int) ≤ (c' : Int) := by omega
              by_cases hcv : c' = 1
              · obtain rfl : c' = 1 := hcv
                obtain rfl : k = 1 := by omega
                go_wp2_with fail
                go_ret2
                refine ⟨ms, _, _, _, [], _, _, _, HSM.out, hlm, by omega, Nat.le_refl _, Nat.le_trans (by omega) hvm, rfl, HM4.out.wide hlo1 (by omega) (Nat.le_refl _), ⟨rfl, (fun _ h => by cases h), .inl rfl⟩, ?_, HC4.out, HG4.out⟩
                intro x hx
                cases hx
                show W.heap.size ≤ g
                omega
              · go_wp2_with fail
                go_ret2
                refine ⟨ms, _, _, _, vs.drop 1, _, _, _, HSM.out, hlm, by omega, by omega, Nat.le_trans (by omega) hvm, rfl, HM4.out.wide hlo1 (by omega) (Nat.le_refl _), HV4.out.drop1 (by omega), ?_, HC4.out, HG4.out⟩
                intro x hx
                cases hx
                show W.heap.size ≤ g
                omega
            · by_cases hx2 : x = 2
              · subst hx2
                obtain ⟨m, rfl⟩ : ∃ m, k = m + 1 := ⟨k - 1, by omega⟩
                have vc0 := HCE.out m (by omega)
                have vf0 := HFZ.out m
                obtain ⟨y, hy⟩ : ∃ y, y = vs.getD m 0 := ⟨_, rfl⟩
                rw [← hy] at vc0
                obtain ⟨y2, hy2⟩ : ∃ y2, IntKind.i64.wrap (y + 1) = y2 := ⟨_, rfl⟩
                have hy64 : wrap64 (y + 1) = y2 := by rw [← IntWalk.i64_left]; exact hy2
                have HW2 : Hid ((Lit.int .i64 y2).wf = true) := Lib.hid (by rw [← hy2]; exact wf_wrap _ _)
                have hm0 : (0 : Int) ≤ (m : Int) := by omega
                have hm1 : (m : Int) < (m : Int) + 1 := by omega
                have hmw : IntKind.i64.wrap (((m + 1 : Nat) : Int) - 1) = (m : Int) := by rw [show ((m + 1 : Nat) : Int) - 1 = (m : Int) by omega]; exact IntWalk.i64_in _ (by omega)
                clear hy
                go_wp2_with fail
                go_ret2
                obtain ⟨hst, hmv⟩ := HV4.out.stored m y2 HW2.out
                exact ⟨ms, _, _, _, vs.set m y2, _, _, _, HSM.out, hlm, hlv, hvc, hvm, rfl, (HM4.out.moved hmv (.inl hlo2)).wide hlo1 (by have := hmv.size; omega) (Nat.le_refl _), hst.sees, fun x hx => by have := (hst.2.2.2.2 x hx).1; omega, HC4.out.below (hmv.below (by omega) (by omega)), grown_moved HG4.out hmv (by omega)⟩
              · go_wp2_with fail
                go_ret2
                exact ⟨ms, _, _, _, vs, _, _, _, HSM.out, hlm, hlv, hvc, hvm, rfl, HM4.out.wide hlo1 (by omega) (Nat.le_refl _), HV4.out.sees, fun x hx => by have := (HV4.out.2.2.2.2 x hx).1; omega, HC4.out, HG4.out⟩
theorem Sees.grownB {k : IntKind} {w w' : World} {B : Nat} {a : Option Addr} {len : Nat} {zs : List Int} (h : Sees k w a len zs) (hg : w.grownBy w' (some B)) (hne : ∀ x, a = some x → B < x.block) : Sees k w' a len zs :=
  h.moved (Moved.of_grown hg (Nat.le_refl B) (Nat.lt_succ_self B)) (fun x hx => by have := hne x hx; omega)
theorem OwnM.rowAt {w : World} {lo hi : Nat} {a : Option Addr} {len cap : Nat} {ms : List (List Int)} (h : OwnM w lo hi a len cap ms) (i : Nat) (hi' : i < len) :
    ∃ g ai ci, a = some ⟨g, 0, none⟩ ∧ w.cell? ⟨g, i, none⟩ = some (.slice ai (row ms i).length ci) ∧ Own .i64 3 w lo hi ai (row ms i).length ci (row ms i) := by
  obtain ⟨h1, h2, h3, A, C, h4, h5⟩ := h
  rcases ownsRow_spot h4 with ⟨_, h0⟩ | ⟨g, rfl, _, _, _, _, hc, _⟩
  · omega
  · exact ⟨g, A i, C i, rfl, (hc i hi').trans (heads_at (by omega)), (h5 i (by omega)).1⟩
/-- A system, or what is none, and a row. -/
def GotSys (w : World) (e : Ending) (w' : World) : Prop :=
  ∃ (ms : List (List Int)) (a : Option Addr) (len cap : Nat) (vs : List Int) (b : Option Addr) (lb cb : Nat) (zs : List Int) (c : Option Addr) (lc cc : Nat), SmallM ms ∧ len ≤ 13 ∧ lb ≤ 13 ∧ lb ≤ cb ∧ cb ≤ maxLen ∧ (1 ≤ lc ∧ lc ≤ 6) ∧ lc ≤ cc ∧ cc ≤ maxLen ∧ e = .returned (.tuple #[.slice a len cap, .slice b lb cb, .slice c lc cc]) ∧ SeesM w' a len ms ∧ Sees .i64 w' b lb vs ∧ Sees .i64 w' c lc zs ∧ Below w.heap.size w w'
end Go.Proofs.Ytedkeobhcpbigaa
