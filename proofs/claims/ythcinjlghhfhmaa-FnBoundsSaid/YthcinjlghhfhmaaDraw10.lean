/- Draws of chapter 10: measurements with delays that they allow. -/
import Derived.Test.YthcinjlghhfhmaaDrawM
import Derived.Test.YthcinjlghhfhmaaDraw9
import Derived.Test.YthcinjlghhfhmaaDot
namespace Go.Proofs.Ythcinjlghhfhmaa
open Go.RowKit
/-- A row of zeros and ones. -/
def BitRow (n : Nat) (z : List Int) : Prop := z.length = n ∧ ∀ k, k < n → z.getD k 0 = 0 ∨ z.getD k 0 = 1
theorem bits_more {zs : List Int} {j : Nat} {x : Int} (hl : zs.length = j) (h : ∀ k, k < j → zs.getD k 0 = 0 ∨ zs.getD k 0 = 1) (hx : x = 0 ∨ x = 1) : ∀ k, k < j + 1 → (zs ++ [x]).getD k 0 = 0 ∨ (zs ++ [x]).getD k 0 = 1 := fun k hk => by
  rcases Nat.lt_or_eq_of_le (Nat.lt_succ_iff.1 hk) with h1 | h1
  · rw [show (zs ++ [x]).getD k 0 = zs.getD k 0 by simp [List.getD, List.getElem?_append_left (show k < zs.length by omega)]]
    exact h k h1
  · rw [show (zs ++ [x]).getD k 0 = x by subst h1; subst hl; simp [List.getD]]
    exact hx
theorem bitrows_more {ms : List (List Int)} {z : List Int} {k n : Nat} (hl : ms.length = k) (h : ∀ r, r < k → BitRow n (row ms r)) (hz : BitRow n z) : ∀ r, r < k + 1 → BitRow n (row (ms ++ [z]) r) := fun r hr => by
  rcases Nat.lt_or_eq_of_le (Nat.lt_succ_iff.1 hr) with h1 | h1
  · rw [row_append_left (by omega)]; exact h r h1
  · rw [h1, ← hl, row_append_last]; exact hz
/-- What a draw of zeros and ones leaves. -/
def DrewBits (B m n : Nat) (w : World) (e : Ending) (w' : World) : Prop :=
  ∃ (ms : List (List Int)) (a : Option Addr) (cap : Nat), (∀ r, r < m → BitRow n (row ms r)) ∧ e = .returned (.slice a m cap) ∧ OwnM w' w.heap.size w'.heap.size a m cap ms ∧ Cur w' B ∧ w.grownBy w' (some B)
set_option maxRecDepth 20000 in
set_option maxHeartbeats 3200000 in
theorem bits5_any (W : World) (B m n : Nat) (hm : m ≤ 6) (hn : n ≤ 6) (hc : Cur W B) : Calls Try.prog 74 #[.pointer (some ⟨B, 0, none⟩), .int .i64 (m : Int), .int .i64 (n : Int)] W (DrewBits B m n W) := by
  have HC := Lib.hid hc
  have hB := hc.lt
  clear hc
  obtain ⟨i0, hi, hz0, hz1, hz2⟩ := info_parts info_i64
  obtain ⟨i1, hi1, hz10, hz11, hz12⟩ := info_parts info_row
  have hW0 : W.heap.size ≤ (W.alloc (.cells #[] 26)).heap.size := by simp
  go_enter Try.func74, Try.ntmps74
  go_wp2_with fail
  go_loopw [7, 8, 9, 10] (fun v i _ _ wr => ∃ (k : Nat) (ms : List (List Int)) (a' : Option Addr) (c' : Nat), k ≤ m ∧ i = .int .i64 k ∧ v = .slice a' k c' ∧ Hid (∀ r, r < k → BitRow n (row ms r)) ∧ OwnM wr W.heap.size wr.heap.size a' k c' ms ∧ Cur wr B ∧ W.grownBy wr (some B)) (fun _ i _ _ _ => m - (intOf i).toNat)
  case atStart => exact ⟨0, [], _, _, Nat.zero_le _, rfl, rfl, Lib.hid (fun r hr => absurd hr (Nat.not_lt_zero _)), (ownM_nil0 W).wide (Nat.le_refl _) (by simp) (Nat.le_refl _), HC.out.alloc _, World.grownBy_alloc W _ _⟩
  case round =>
    obtain ⟨k, ms, a', c', hk, rfl, rfl, HR, ho, hc, hg⟩ := hrel
    have HO := Lib.hid ho
    have HCC := Lib.hid hc
    have HG := Lib.hid hg
    have hszr := hg.size
    obtain ⟨V, rfl⟩ : ∃ V, V = wr := ⟨_, rfl⟩
    clear ho hc hg
    by_cases hlt : k < m
    · go_wp2_with fail
      go_loopw [9, 10] (fun v i wr => ∃ (j : Nat) (zs : List Int) (a2 : Option Addr) (c2 : Nat), j ≤ n ∧ i = .int .i64 j ∧ v = .slice a2 j c2 ∧ Hid (∀ t, t < j → zs.getD t 0 = 0 ∨ zs.getD t 0 = 1) ∧ Own .i64 3 wr V.heap.size wr.heap.size a2 j c2 zs ∧ OwnM wr W.heap.size V.heap.size a' k c' ms ∧ Cur wr B ∧ V.grownBy wr (some B)) (fun _ i _ => n - (intOf i).toNat)
      case atStart => exact ⟨0, [], _, _, Nat.zero_le _, rfl, rfl, Lib.hid (fun t ht => absurd ht (Nat.not_lt_zero _)), (own_nil _ _ _).wide (Nat.le_refl _) (by simp) (Nat.le_refl _), HO.out.alloc _, HCC.out.alloc _, World.grownBy_alloc V _ _⟩
      case round =>
        obtain ⟨j, zs, a2, c2, hj, rfl, rfl, HZ, ho, hom, hc, hg⟩ := hrel
        have HN := Lib.hid ho
        have HM := Lib.hid hom
        have HC2 := Lib.hid hc
        have HG2 := Lib.hid hg
        have hsz2 := hg.size
        clear ho hom hc hg
        by_cases hjn : j < n
        · go_wp2_with (first
            | (go_at_call 57; refine (below_any _ B 2 (by decide) HC2.out).mono ?_; rintro e w3 ⟨x, ⟨hx0, hx1⟩, rfl, hc3, hg3⟩; have hx2 : x ≤ 1 := (by omega); have HX := Lib.hid (show x = 0 ∨ x = 1 by omega); have HN3 := Lib.hid (HN.out.grown hg3 (by omega)); have HM3 := Lib.hid (HM.out.grown hg3 hB); have HC3 := Lib.hid hc3; have HG3 := Lib.hid (grown_trans HG2.out hg3); have hsz3 := HG3.out.size; clear hc3 hg3 hx1)
            | (at_builtin; refine wp_append_sees rfl _ _ 26 rfl 3 i0 .i64 8 Try.underlying26 hi hz0 hz1 hz2 _ _ _ _ rfl _ _ (HN3.out.alloc _) _ _ _ _ rfl (sees_one (x := x) (WalkArith.wf_i64 (by omega)) _ _) (by unfold maxLen; omega) (by omega) (by simp; omega) ?_; intro a4 l4 c4 w4 hl4 ho4 hm4; subst hl4; have HO4 := Lib.hid ho4; have HM4 := Lib.hid hm4; clear ho4 hm4))
          go_roundw
          case rel => exact ⟨j + 1, _, _, _, by omega, by go_num, rfl, Lib.hid (bits_more HN.out.1 HZ.out HX.out), HO4.out, (HM3.out.alloc _).moved HM4.out (.inl (Nat.le_refl _)), (HC3.out.alloc _).below (HM4.out.below (by omega) (by simp; omega)), grown_moved (grown_trans HG3.out (World.grownBy_alloc w3 _ _)) HM4.out (Nat.le_refl _)⟩
          case measure => simp [intOf]; omega
        · obtain rfl : j = n := by omega
          have hzl := HN.out.1
          have HB := Lib.hid (show BitRow j zs from ⟨HN.out.1, HZ.out⟩)
          subst hzl
          go_wp2_with (at_builtin; refine wp_append_ownM rfl _ _ 24 rfl i1 Try.underlying24 hi1 hz10 hz11 hz12 _ _ _ rfl wr.heap.size rfl _ W.heap.size V.heap.size (HM.out.alloc _) a2 c2 zs (by simp) V.heap.size _ (HN.out.alloc _) (Nat.le_refl _) hszr (by omega) (by simp; omega) ?_; intro g4 c4 w4 ho4 hm4; have HO4 := Lib.hid ho4; have HM4 := Lib.hid hm4; clear ho4 hm4)
          go_roundw
          case rel => exact ⟨k + 1, _, _, _, by omega, by go_num, rfl, Lib.hid (bitrows_more HM.out.1 HR.out HB.out), HO4.out, (HC2.out.alloc _).below (HM4.out.below (by omega) (by simp; omega)), grown_moved (grown_trans (grown_trans HG.out HG2.out) (World.grownBy_alloc wr _ _)) HM4.out (Nat.le_refl _)⟩
          case measure => simp [intOf]; omega
    · obtain rfl : k = m := by omega
      go_wp2_with fail
      go_ret
      exact ⟨ms, _, _, HR.out, rfl, HO.out, HCC.out, HG.out⟩
/-- Small delays over zeros and ones add up to something small. -/
theorem dot_small {z ds : List Int} {n : Nat} (hn : n ≤ 6) (hz : ∀ k, k < n → z.getD k 0 = 0 ∨ z.getD k 0 = 1) (hd : ∀ k, k < n → 0 ≤ ds.getD k 0 ∧ ds.getD k 0 ≤ 29) : ∀ i, i ≤ n → 0 ≤ dotW z ds i ∧ dotW z ds i ≤ 29 * (i : Int)
  | 0, _ => ⟨Int.le_refl _, Int.le_refl _⟩
  | i + 1, hi => by
    have ih := dot_small hn hz hd i (by omega)
    have h1 := hd i (by omega)
    have wr : ∀ x : Int, 0 ≤ x → x ≤ 1000 → IntKind.i64.wrap x = x := fun x h0 h1 => IntWalk.i64_in x (by omega)
    simp only [dotW]
    rcases hz i (by omega) with h0 | h0
    · rw [h0, Int.zero_mul, wr 0 (by omega) (by omega), wr _ (by omega) (by omega)]; omega
    · rw [h0, Int.one_mul, wr (ds.getD i 0) (by omega) (by omega), wr _ (by omega) (by omega)]; omega
theorem small_more {zs : List Int} {j : Nat} {x : Int} (hl : zs.length = j) (h : ∀ k, k < j → 0 ≤ zs.getD k 0 ∧ zs.getD k 0 ≤ 29) (hx : 0 ≤ x ∧ x ≤ 29) : ∀ k, k < j + 1 → 0 ≤ (zs ++ [x]).getD k 0 ∧ (zs ++ [x]).getD k 0 ≤ 29 := fun k hk => by
  rcases Nat.lt_or_eq_of_le (Nat.lt_succ_iff.1 hk) with h1 | h1
  · rw [show (zs ++ [x]).getD k 0 = zs.getD k 0 by simp [List.getD, List.getElem?_append_left (show k < zs.length by omega)]]
    exact h k h1
  · rw [show (zs ++ [x]).getD k 0 = x by subst h1; subst hl; simp [List.getD]]
    exact hx
/-- What a draw of a measurement leaves: its rows, its intervals, its delays, in memory apart. -/
def Drew10 (B : Nat) (w : World) (e : Ending) (w' : World) : Prop :=
  ∃ (ms : List (List Int)) (ls : List (Int × Int)) (ds : List Int) (a : Option Addr) (la ca : Nat) (b : Option Addr) (cb : Nat) (c : Option Addr) (lc cc h1 h2 : Nat),
    1 ≤ la ∧ la ≤ 6 ∧ 1 ≤ lc ∧ lc ≤ 6 ∧ (∀ r, r < la → (row ms r).length = lc) ∧ e = .returned (.tuple #[.slice a la ca, .slice b la cb, .slice c lc cc]) ∧
    OwnM w' w.heap.size h1 a la ca ms ∧ Own .i64 3 w' h1 h2 c lc cc ds ∧ OwnV w' h2 w'.heap.size b la cb ls ∧ w.heap.size ≤ h1 ∧ h1 ≤ h2 ∧ Cur w' B ∧ w.grownBy w' (some B)
set_option maxRecDepth 20000 in
set_option maxHeartbeats 3200000 in
theorem draw10_any (W : World) (B : Nat) (hc : Cur W B) : Calls Try.prog 56 #[.pointer (some ⟨B, 0, none⟩)] W (Drew10 B W) := by
  have HC := Lib.hid hc
  have hB := hc.lt
  clear hc
  obtain ⟨i0, hi, hz0, hz1, hz2⟩ := info_parts info_i64
  obtain ⟨i1, hi1, hz10, hz11, hz12⟩ := info_parts info_iv
  go_enter Try.func56, Try.ntmps56
  go_wp2_with fail
  go_at_call 57
  refine (below_any _ B 6 (by decide) HC.out).mono ?_
  rintro e w1 ⟨x, ⟨hx0, hx1⟩, rfl, hc1, hg1⟩
  obtain ⟨n0, rfl⟩ : ∃ n0 : Nat, x = (n0 : Int) := ⟨x.toNat, by omega⟩
  have HC1 := Lib.hid hc1
  have HG1 := Lib.hid hg1
  have hn0 : n0 ≤ 5 := by omega
  obtain ⟨n, hn⟩ : ∃ n : Nat, n = n0 + 1 := ⟨_, rfl⟩
  have hw1 : IntKind.i64.wrap (1 + (n0 : Int)) = (n : Int) := (IntWalk.i64_in _ (by omega)).trans (by omega)
  have hn1 : 1 ≤ n := by omega
  have hn6 : n ≤ 6 := by omega
  clear hc1 hg1 hx0 hx1 hn0 hn
  go_wp2_with fail
  go_at_call 57
  refine (below_any _ B 6 (by decide) HC1.out).mono ?_
  rintro e w2 ⟨y, ⟨hy0, hy1⟩, rfl, hc2, hg2⟩
  obtain ⟨m0, rfl⟩ : ∃ m0 : Nat, y = (m0 : Int) := ⟨y.toNat, by omega⟩
  have HC2 := Lib.hid hc2
  have HG2 := Lib.hid (grown_trans HG1.out hg2)
  have hm0 : m0 ≤ 5 := by omega
  obtain ⟨m, hm⟩ : ∃ m : Nat, m = m0 + 1 := ⟨_, rfl⟩
  have hw2 : IntKind.i64.wrap (1 + (m0 : Int)) = (m : Int) := (IntWalk.i64_in _ (by omega)).trans (by omega)
  have hm1 : 1 ≤ m := by omega
  have hm6 : m ≤ 6 := by omega
  clear hc2 hg2 hy0 hy1 hm0 hm
  go_wp2_with fail
  go_at_call 74
  refine (bits5_any _ B m n hm6 hn6 HC2.out).mono ?_
  rintro e w3 ⟨ms, a3, c3, hr3, rfl, ho3, hc3, hg3⟩
  have HR := Lib.hid hr3
  have HM3 := Lib.hid (ho3.wide (lo2 := W.heap.size) HG2.out.size (Nat.le_refl _) (Nat.le_refl _))
  have HC3 := Lib.hid hc3
  have HG3 := Lib.hid (grown_trans HG2.out hg3)
  have hs3 := HG3.out.size
  clear hr3 ho3 hc3 hg3 hw1 hw2
  go_wp2_with fail
  go_loopw [7, 8] (fun v i wr => ∃ (j : Nat) (zs : List Int) (a2 : Option Addr) (c2 : Nat), j ≤ n ∧ i = .int .i64 j ∧ v = .slice a2 j c2 ∧ Hid (∀ t, t < j → 0 ≤ zs.getD t 0 ∧ zs.getD t 0 ≤ 29) ∧ Own .i64 3 wr w3.heap.size wr.heap.size a2 j c2 zs ∧ OwnM wr W.heap.size w3.heap.size a3 m c3 ms ∧ Cur wr B ∧ w3.grownBy wr (some B)) (fun _ i _ => n - (intOf i).toNat)
  case atStart => exact ⟨0, [], _, _, Nat.zero_le _, rfl, rfl, Lib.hid (fun t ht => absurd ht (Nat.not_lt_zero _)), (own_nil _ _ _).wide (Nat.le_refl _) (by simp) (Nat.le_refl _), HM3.out.alloc _, HC3.out.alloc _, World.grownBy_alloc w3 _ _⟩
  case round =>
    obtain ⟨j, zs, a2, c2, hj, rfl, rfl, HZ, ho, hom, hc, hg⟩ := hrel
    have HN := Lib.hid ho
    have HM := Lib.hid hom
    have HCC := Lib.hid hc
    have HG := Lib.hid hg
    have hsz := hg.size
    obtain ⟨V, rfl⟩ : ∃ V, V = wr := ⟨_, rfl⟩
    clear ho hom hc hg
    by_cases hjn : j < n
    · go_wp2_with (first
        | (go_at_call 57; refine (below_any _ B 30 (by decide) HCC.out).mono ?_; rintro e w4 ⟨x, ⟨hx0, hx1⟩, rfl, hc4, hg4⟩; have hx2 : x ≤ 29 := (by omega); have HX := Lib.hid (show 0 ≤ x ∧ x ≤ 29 by omega); have HN4 := Lib.hid (HN.out.grown hg4 (by omega)); have HM4 := Lib.hid (HM.out.grown hg4 hB); have HC4 := Lib.hid hc4; have HG4 := Lib.hid (grown_trans HG.out hg4); have hsz4 := HG4.out.size; clear hc4 hg4 hx1)
        | (at_builtin; refine wp_append_sees rfl _ _ 26 rfl 3 i0 .i64 8 Try.underlying26 hi hz0 hz1 hz2 _ _ _ _ rfl _ _ (HN4.out.alloc _) _ _ _ _ rfl (sees_one (x := x) (WalkArith.wf_i64 (by omega)) _ _) (by unfold maxLen; omega) (by omega) (by simp; omega) ?_; intro a5 l5 c5 w5 hl5 ho5 hm5; subst hl5; have HO5 := Lib.hid ho5; have HM5 := Lib.hid hm5; clear ho5 hm5))
      go_roundw
      case rel => exact ⟨j + 1, _, _, _, by omega, by go_num, rfl, Lib.hid (small_more HN.out.1 HZ.out HX.out), HO5.out, (HM4.out.alloc _).moved HM5.out (.inl (Nat.le_refl _)), (HC4.out.alloc _).below (HM5.out.below (by omega) (by simp; omega)), grown_moved (grown_trans HG4.out (World.grownBy_alloc w4 _ _)) HM5.out (Nat.le_refl _)⟩
      case measure => simp [intOf]; omega
    · obtain rfl : j = n := by omega
      have hsv := HG.out.size
      go_wp2_with fail
      go_loopw [9, 10, 11] (fun v i _ wr => ∃ (k : Nat) (ls : List (Int × Int)) (a4 : Option Addr) (c4 : Nat), k ≤ m ∧ i = .int .i64 k ∧ v = .slice a4 k c4 ∧ OwnV wr V.heap.size wr.heap.size a4 k c4 ls ∧ Own .i64 3 wr w3.heap.size V.heap.size a2 j c2 zs ∧ OwnM wr W.heap.size w3.heap.size a3 m c3 ms ∧ Cur wr B ∧ V.grownBy wr (some B)) (fun _ i _ _ => m - (intOf i).toNat)
      case atStart => exact ⟨0, [], _, _, Nat.zero_le _, rfl, rfl, ownV_empty V _ (Nat.le_refl _), HN.out.alloc _, HM.out.alloc _, HCC.out.alloc _, World.grownBy_alloc V _ _⟩
      case round =>
        have HGV := Lib.hid (grown_trans HG3.out HG.out)
        clear HN HM HCC HG
        obtain ⟨k, ls, a4, c4, hk, rfl, rfl, hol, ho, hom, hc, hg⟩ := hrel
        have HL := Lib.hid hol
        have HN := Lib.hid ho
        have HM := Lib.hid hom
        have HCC := Lib.hid hc
        have HG := Lib.hid hg
        have hszr := hg.size
        obtain ⟨U, rfl⟩ : ∃ U, U = wr := ⟨_, rfl⟩
        clear hol ho hom hc hg
        by_cases hkm : k < m
        · obtain ⟨b6, o6, a6, c6, e6, hb6, hc6, _, _, hs6⟩ := HM.out.sees.2 k hkm
          subst e6
          obtain ⟨hzl, hzb⟩ := HR.out k hkm
          obtain ⟨z, hz⟩ : ∃ z, z = row ms k := ⟨_, rfl⟩
          rw [← hz] at hc6 hs6 hzl hzb
          obtain ⟨v, hv⟩ : ∃ v, v = dotV z zs := ⟨_, rfl⟩
          have hvb := dot_small hn6 hzb HZ.out j (Nat.le_refl _)
          have hvd : dotV z zs = dotW z zs j := by unfold dotV; rw [hzl, HN.out.1, Nat.min_self]
          rw [← hvd, ← hv] at hvb
          have hv0 : 0 ≤ v := hvb.1
          have hv1 : v ≤ 174 := by have := hvb.2; omega
          have HV := Lib.hid hv
          have HS6 := Lib.hid hs6
          have hzl2 : z.length ≤ 1073741824 := by omega
          clear hs6 hz hv hvb hvd hzb hzl
          go_wp2_with fail
          go_at_call 55
          refine (specDot_any _ _ _ _ _ _ _ z zs hzl2 (by omega) HS6.out HN.out.sees).mono ?_
          rw [← HV.out]
          rintro e w5 ⟨rfl, hb5⟩
          have HL5 := Lib.hid (HL.out.below hb5)
          have HN5 := Lib.hid (HN.out.below hb5)
          have HM5 := Lib.hid (HM.out.below hb5)
          have HC5 := Lib.hid (HCC.out.belowN hb5)
          have HG5 := Lib.hid (grown_trans HG.out (below_grown hb5))
          have hsz5 := hb5.size
          clear hb5 hc6 hb6
          go_wp2_with fail
          go_at_call 57
          refine (below_any _ B 5 (by decide) HC5.out).mono ?_
          rintro e w6 ⟨x, ⟨hx0, hx1⟩, rfl, hc6, hg6⟩
          have hx2 : x ≤ 4 := by omega
          have HL6 := Lib.hid (HL5.out.grown hg6 (by omega))
          have HN6 := Lib.hid (HN5.out.grown hg6 (by omega))
          have HM6 := Lib.hid (HM5.out.grown hg6 hB)
          have HC6 := Lib.hid hc6
          have HG6 := Lib.hid (grown_trans HG5.out hg6)
          have hsz6 := hg6.size
          obtain ⟨d, hd⟩ : ∃ d, d = v - x := ⟨_, rfl⟩
          have hw1 : IntKind.i64.wrap (v - x) = d := (IntWalk.i64_in _ (by omega)).trans hd.symm
          obtain ⟨p, hp⟩ : ∃ p, p = maxV 0 d := ⟨_, rfl⟩
          have hpb : -9223372036854775808 ≤ p ∧ p ≤ 9223372036854775807 := by rw [hp]; unfold maxV; split <;> omega
          have HP := Lib.hid hp
          have HPB := Lib.hid hpb
          clear hc6 hg6 hx1 hd hp hpb
          go_wp2_with fail
          go_at_call 72
          refine (specMax_any 0 d _).mono ?_
          rw [← HP.out]
          rintro e w7 ⟨rfl, rfl⟩
          go_wp2_with fail
          go_at_call 57
          refine (below_any _ B 5 (by decide) HC6.out).mono ?_
          rintro e w8 ⟨y, ⟨hy0, hy1⟩, rfl, hc8, hg8⟩
          have hy2 : y ≤ 4 := by omega
          have HL8 := Lib.hid (HL6.out.grown hg8 (by omega))
          have HN8 := Lib.hid (HN6.out.grown hg8 (by omega))
          have HM8 := Lib.hid (HM6.out.grown hg8 hB)
          have HC8 := Lib.hid hc8
          have HG8 := Lib.hid (grown_trans HG6.out hg8)
          have hsz8 := hg8.size
          obtain ⟨q, hq⟩ : ∃ q, q = v + y := ⟨_, rfl⟩
          have hw2 : IntKind.i64.wrap (v + y) = q := (IntWalk.i64_in _ (by omega)).trans hq.symm
          have HQB := Lib.hid (show -9223372036854775808 ≤ q ∧ q ≤ 9223372036854775807 by omega)
          clear hc8 hg8 hy1 hq
          go_wp2_with (at_builtin; refine wp_append_seesV rfl _ _ 25 rfl i1 Try.underlying25 hi1 hz10 hz11 hz12 _ _ _ _ rfl _ _ (HL8.out.alloc _) _ _ _ [(p, q)] rfl (seesV_one (WalkArith.wf_i64 HPB.out) (WalkArith.wf_i64 HQB.out) _ _) (by unfold maxLen; omega) (by omega) (by simp; omega) ?_; intro a9 l9 c9 w9 hl9 ho9 hm9; subst hl9; have HO9 := Lib.hid ho9; have HM9 := Lib.hid hm9; clear ho9 hm9)
          go_roundw
          case rel => exact ⟨k + 1, _, _, _, by omega, by go_num, rfl, HO9.out, (HN8.out.alloc _).moved HM9.out (.inl (Nat.le_refl _)), (HM8.out.alloc _).moved HM9.out (.inl (by omega)), (HC8.out.alloc _).below (HM9.out.below (by omega) (by simp; omega)), grown_moved (grown_trans HG8.out (World.grownBy_alloc w8 _ _)) HM9.out (Nat.le_refl _)⟩
          case measure => simp [intOf]; omega
        · obtain rfl : k = m := by omega
          go_wp2_with fail
          go_ret3
          exact ⟨ms, ls, zs, _, _, _, _, _, _, _, _, w3.heap.size, V.heap.size, hm1, hm6, hn1, hn6, fun r hr => (HR.out r hr).1, rfl, HM.out, HN.out, HL.out, hs3, hsv, HCC.out, grown_trans HGV.out HG.out⟩
/-- What a draw of a measurement, or of what is none, leaves. -/
def Got10 (ms : List (List Int)) (ls : List (Int × Int)) (ds : List Int) (w' : World) (e : Ending) : Prop :=
  ∃ (a : Option Addr) (la ca : Nat) (b : Option Addr) (lb cb : Nat) (c : Option Addr) (lc cc : Nat),
    la ≤ 6 ∧ (∀ r, r < la → (row ms r).length ≤ 7) ∧ lb ≤ 6 ∧ lc ≤ 6 ∧ e = .returned (.tuple #[.slice a la ca, .slice b lb cb, .slice c lc cc]) ∧ SeesM w' a la ms ∧ SeesV w' b lb ls ∧ Sees .i64 w' c lc ds
theorem OwnV.addr {w : World} {lo hi : Nat} {a : Option Addr} {len cap : Nat} {xs : List (Int × Int)} (h : OwnV w lo hi a len cap xs) (h0 : 0 < len) : ∃ g, a = some ⟨g, 0, none⟩ := by
  rcases h.spot with ⟨_, h1, _⟩ | ⟨g, hg, _⟩
  · omega
  · exact ⟨g, hg⟩
theorem Own.addr {k : IntKind} {e : TypeId} {w : World} {lo hi : Nat} {a : Option Addr} {len cap : Nat} {xs : List Int} (h : Own k e w lo hi a len cap xs) (h0 : 0 < len) : ∃ g, a = some ⟨g, 0, none⟩ := by
  rcases h.spot with ⟨_, h1, _⟩ | ⟨g, hg, _⟩
  · omega
  · exact ⟨g, hg⟩
theorem SeesV.tail {w : World} {g len : Nat} {xs : List (Int × Int)} (h : SeesV w (some ⟨g, 0, none⟩) len xs) (h1 : 1 ≤ len) (cap : Nat) (hc : len ≤ cap) :
    SeesV w (if cap = 1 then some ⟨g, 0, none⟩ else some ⟨g, 2, none⟩) (len - 1) (xs.drop 1) := by
  refine ⟨by rw [List.length_drop, h.1], fun p hp => h.2.1 p (List.mem_of_mem_drop hp), ?_⟩
  by_cases hl : len = 1
  · exact .inl (by omega)
  · rw [if_neg (by omega)]
    rcases h.2.2 with h0 | ⟨b, off, ha, hb, hcl⟩
    · omega
    · cases ha
      refine .inr ⟨g, 2, rfl, hb, fun j hj => ?_⟩
      have := hcl (1 + j) (by omega)
      have e : (xs.drop 1).getD j (0, 0) = xs.getD (1 + j) (0, 0) := by simp [List.getD, Nat.add_comm]
      rw [e]
      exact ⟨by rw [← this.1]; congr 2; omega, by rw [← this.2]; congr 2; omega⟩
set_option maxRecDepth 20000 in
set_option maxHeartbeats 3200000 in
theorem any10_any (W : World) (B : Nat) (hc : Cur W B) : Calls Try.prog 34 #[.pointer (some ⟨B, 0, none⟩)] W fun e w' => (∃ ms ls ds, Got10 ms ls ds w' e) ∧ Cur w' B ∧ W.grownBy w' (some B) := by
  have HC := Lib.hid hc
  have hB := hc.lt
  clear hc
  obtain ⟨i0, hi, hz0, hz1, hz2⟩ := info_parts info_i64
  go_enter Try.func34, Try.ntmps34
  go_wp2_with fail
  go_at_call 56
  refine (draw10_any _ B HC.out).mono ?_
  rintro e w1 ⟨ms, ls, ds, a, la, ca, b, cb, c, lc, cc, h1, h2, hla1, hla, hlc1, hlc, hr, rfl, hom, hod, hov, hw1, hw2, hc1, hg1⟩
  have HR := Lib.hid hr
  have HM1 := Lib.hid hom
  have HD1 := Lib.hid hod
  have HV1 := Lib.hid hov
  have HC1 := Lib.hid hc1
  have HG1 := Lib.hid hg1
  obtain ⟨gv, rfl⟩ := hov.addr (by omega)
  obtain ⟨gd, rfl⟩ := hod.addr (by omega)
  obtain ⟨gm, rfl, hgs, hcap, hfz⟩ := hom.blockAt (by omega)
  have hgvb := hov.2.2.2.2 _ rfl
  have hgdb := hod.2.2.2.2 _ rfl
  have hgmb := hom.2.2.1 _ rfl
  simp only at hgvb hgdb hgmb
  have hs1 := hg1.size
  have hz2' := hod.2.2.1
  clear hr hom hod hov hc1 hg1 hfz
  go_wp2_with fail
  go_at_call 57
  refine (below_any _ B 9 (by decide) HC1.out).mono ?_
  rintro e w2 ⟨x, ⟨hx0, hx1⟩, rfl, hc2, hg2⟩
  have HM2 := Lib.hid (HM1.out.grown hg2 hB)
  have HD2 := Lib.hid (HD1.out.grown hg2 (by omega))
  have HV2 := Lib.hid (HV1.out.grown hg2 (by omega))
  have HC2 := Lib.hid hc2
  have HG2 := Lib.hid (grown_trans HG1.out hg2)
  have hs2 := hg2.size
  clear hc2 hg2 hx1
  have HRL : Hid (∀ r, r < la → (row ms r).length ≤ 7) := Lib.hid (fun r hr => by rw [HR.out r hr]; omega)
  by_cases e0 : x = 0
  · subst e0
    go_wp2_with fail
    go_at_call 58
    refine (any9_any _ B HC2.out).mono ?_
    rintro e w3 ⟨p, q, hp, hq, rfl, hc3, hg3⟩
    have HM3 := Lib.hid (HM2.out.grown hg3 hB)
    have HD3 := Lib.hid (HD2.out.grown hg3 (by omega))
    have HV3 := Lib.hid (HV2.out.grown hg3 (by omega))
    have HC3 := Lib.hid hc3
    have HG3 := Lib.hid (grown_trans HG2.out hg3)
    obtain ⟨v0, v1, vf⟩ := HV3.out.spotAt 0 (by omega)
    have f0 := vf 0
    have f1 := vf 1
    rw [Nat.zero_mul] at v0 v1
    have hst := HV3.out.stored 0 (p, q) ⟨WalkArith.wf_i64 hp, WalkArith.wf_i64 hq⟩
    rw [Nat.zero_mul] at hst
    have HST := Lib.hid hst
    have hla0 : (0 : Int) < (la : Int) := by omega
    have hla00 : 0 < la := by omega
    clear hst hc3 hg3 hp hq vf
    go_wp2
    go_ret3
    refine ⟨⟨ms, _, ds, _, _, _, _, _, _, _, _, _, hla, HRL.out, hla, hlc, rfl, (HM3.out.moved HST.out.2 (.inl (by omega))).sees, HST.out.1.sees, (HD3.out.moved HST.out.2 (.inl (Nat.le_refl _))).sees⟩, HC3.out.below (HST.out.2.below (by omega) ?_), grown_moved HG3.out HST.out.2 (by omega)⟩
    have := HC3.out.lt
    omega
  by_cases e1 : x = 1
  · subst e1
    have hr2 := HV2.out.room
    have ht := HV2.out.sees.tail (by omega) cb hr2.1
    have hl1 : (1 : Int) ≤ (la : Int) := by omega
    have hl2 : (1 : Int) ≤ (cb : Int) := by omega
    have hl3 : (la : Int) ≤ (cb : Int) := by omega
    clear hr2
    by_cases hcb : cb = 1
    · rw [if_pos hcb] at ht
      have HT := Lib.hid ht
      clear ht
      go_wp2
      go_ret3
      refine ⟨⟨ms, _, ds, _, _, _, _, _, _, _, _, _, hla, HRL.out, ?_, hlc, rfl, HM2.out.sees, HT.out, HD2.out.sees⟩, HC2.out, HG2.out⟩
      omega
    · rw [if_neg hcb] at ht
      have HT := Lib.hid ht
      clear ht
      go_wp2
      go_ret3
      refine ⟨⟨ms, _, ds, _, _, _, _, _, _, _, _, _, hla, HRL.out, ?_, hlc, rfl, HM2.out.sees, HT.out, HD2.out.sees⟩, HC2.out, HG2.out⟩
      omega
  by_cases e2 : x = 2
  · subst e2
    have hin := HM2.out.inner 0 (by omega) (by omega)
    obtain ⟨g', ai, ci, l2, hh, hg', hci, hoi, _⟩ := hin
    cases hg'
    obtain ⟨G, rfl⟩ := hoi.addr (by rw [HR.out 0 (by omega)]; omega)
    rw [HR.out 0 (by omega)] at hci
    have HCI := Lib.hid hci
    have hgB : gm ≠ B := by omega
    have hBs : B < w2.heap.size := HC2.out.lt
    have hgs2 : gm < w2.heap.size := by omega
    have hw22 : W.heap.size ≤ w2.heap.size := by omega
    have h0 : 0 < la := by omega
    have h00 : (0 : Int) < (la : Int) := by omega
    have h01 : (0 : Int) < (lc : Int) := by omega
    clear hoi
    go_wp2_with fail
    go_region_with (first | (go_at_call 59; refine (int_any _ B w2.heap.size 3 [2, -1, 1] rfl (by decide) (by decide) (fun j hj => by rw [World.cell?_drew]; exact intsAt_new w2 [2, -1, 1] _ _ rfl j hj) (by omega) ((HC2.out.alloc _).below (Below.refl (B + 1) _).drew)).mono ?_; rintro e w4 ⟨y, hy, rfl, hc4, hg4⟩; have HY := Lib.hid ((show ∀ y ∈ [(2 : Int), -1, 1], (Lit.int .i64 y).wf = true by decide) _ hy); have HC4 := Lib.hid hc4; have hO4 := (((HM2.out.alloc (.cells #[.int .i64 2, .int .i64 (-1), .int .i64 1] 3)).below (Below.refl _ _).drew).grown hg4 hB); have HO4 := Lib.hid hO4; have HD4 := Lib.hid (((HD2.out.alloc (.cells #[.int .i64 2, .int .i64 (-1), .int .i64 1] 3)).below (Below.refl _ _).drew).grown hg4 (by omega)); have HV4 := Lib.hid (((HV2.out.alloc (.cells #[.int .i64 2, .int .i64 (-1), .int .i64 1] 3)).below (Below.refl _ _).drew).grown hg4 (by omega)); have HG4 := Lib.hid (grown_trans (grown_trans HG2.out (World.grownBy_alloc w2 _ _)) (grown_trans (below_grown (Below.refl _ _).drew) hg4)); have hszz := HG4.out.size; obtain ⟨g', a6, c6, l6, h6, hg', hc6, ho6, hk6⟩ := hO4.inner 0 h0 hszz; cases hg'; have hcg := (grown_cell hg4 (a := ⟨gm, 0, none⟩) (v := .slice (some ⟨G, 0, none⟩) lc ci) (by rw [World.cell?_drew, World.cell?_alloc_past _ _ _ hgs2]; exact HCI.out) (by simp; omega)); rw [hc6, HR.out 0 h0] at hcg; simp only [Option.some.injEq, Value.slice.injEq, true_and] at hcg; obtain ⟨rfl, rfl⟩ := hcg; rw [HR.out 0 h0] at hc6 ho6 hk6; have hcs0 := own_cell0 ho6 (by omega); have hfz0 := own_frozen0 ho6; have HN6 := Lib.hid (ho6.stored 0 y HY.out); have HK6 := Lib.hid (hk6 _ _ HN6.out.1 HN6.out.2); clear hk6 ho6 hO4 hc4 hg4 hy))
    all_goals (go_wp2)
    all_goals
      go_ret3
      refine ⟨⟨_, ls, ds, _, _, _, _, _, _, _, _, _, hla, fun r hr => ?_, hla, hlc, rfl, HK6.out.1.sees, (HV4.out.moved HK6.out.2 (.inr (by omega))).sees, (HD4.out.moved HK6.out.2 (.inr (Nat.le_refl _))).sees⟩, HC4.out.below (HK6.out.2.below (by omega) (by omega)), grown_moved HG4.out HK6.out.2 (Nat.le_refl _)⟩
      exact (rows_set (z := (row ms 0).set 0 y) HM2.out.1 h0 HR.out (by omega) (by rw [List.length_set, HR.out 0 h0]; omega)).1 r hr
  by_cases e3 : x = 3
  · subst e3
    go_wp2_with fail
    go_at_call 60
    refine (raw9_any _ B HC2.out).mono ?_
    rintro e w3 ⟨v, hv, rfl, hc3, hg3⟩
    have HM3 := Lib.hid (HM2.out.grown hg3 hB)
    have HD3 := Lib.hid (HD2.out.grown hg3 (by omega))
    have HV3 := Lib.hid (HV2.out.grown hg3 (by omega))
    have HC3 := Lib.hid hc3
    have HG3 := Lib.hid (grown_trans HG2.out hg3)
    have d0 := own_cell0 HD3.out (by omega)
    have f0 := own_frozen0 HD3.out
    have HST := Lib.hid (HD3.out.stored 0 v (WalkArith.wf_i64 hv))
    have hla0 : (0 : Int) < (lc : Int) := by omega
    have hla00 : 0 < lc := by omega
    have hcl := HC3.out.lt
    have hs3 := hg3.size
    clear hc3 hg3 hv
    go_wp2
    go_ret3
    refine ⟨⟨ms, ls, _, _, _, _, _, _, _, _, _, _, hla, HRL.out, hla, hlc, rfl, (HM3.out.moved HST.out.2 (.inl (Nat.le_refl _))).sees, (HV3.out.moved HST.out.2 (.inr (Nat.le_refl _))).sees, HST.out.1.sees⟩, HC3.out.below (HST.out.2.below (by omega) (by omega)), grown_moved HG3.out HST.out.2 (by omega)⟩
  · go_wp2
    go_ret3
    exact ⟨⟨ms, ls, ds, _, _, _, _, _, _, _, _, _, hla, HRL.out, hla, hlc, rfl, HM2.out.sees, HV2.out.sees, HD2.out.sees⟩, HC2.out, HG2.out⟩
theorem drawAlw_any (W : World) (a0 : Option Addr) (len0 cap0 : Nat) (hl : len0 ≤ 1048576) (hc : CodeAt W W.heap.size a0 len0) : Calls Try.prog 10 #[.slice a0 len0 cap0] W fun e w' => (∃ ms ls ds, Got10 ms ls ds w' e) ∧ Below W.heap.size W w' := by
  have HC0 := Lib.hid hc
  clear hc
  go_enter Try.func10, Try.ntmps10
  go_wp2_with fail
  go_at_call 33
  refine (new_any W a0 len0 cap0 hl HC0.out).mono ?_
  rintro e w1 ⟨rfl, hc1, hb1, hlt1⟩
  have HC1 := Lib.hid hc1
  have HB1 := Lib.hid hb1
  clear hc1 hb1
  go_wp2_with fail
  go_at_call 34
  refine (any10_any _ _ HC1.out).mono ?_
  rintro e w2 ⟨⟨ms, ls, ds, a, la, ca, b, lb, cb, c, lc, cc, h1, h2, h3, h4, rfl, h5, h6, h7⟩, hc2, hg2⟩
  have HALL := Lib.hid (And.intro h1 (And.intro h2 (And.intro h3 (And.intro h4 (And.intro h5 (And.intro h6 h7))))))
  have HG2 := Lib.hid hg2
  clear h1 h2 h3 h4 h5 h6 h7 hc2 hg2
  go_wp2
  go_ret3
  exact ⟨⟨ms, ls, ds, _, _, _, _, _, _, _, _, _, HALL.out.1, HALL.out.2.1, HALL.out.2.2.1, HALL.out.2.2.2.1, rfl, HALL.out.2.2.2.2.1, HALL.out.2.2.2.2.2.1, HALL.out.2.2.2.2.2.2⟩, HB1.out.trans (grown_below' HG2.out (by omega))⟩
end Go.Proofs.Ythcinjlghhfhmaa
