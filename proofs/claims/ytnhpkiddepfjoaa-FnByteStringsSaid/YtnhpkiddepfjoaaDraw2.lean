/- The draws of chapter 2's laws. -/
import Derived.Test.YtnhpkiddepfjoaaDrawB
import Derived.Test.YtnhpkiddepfjoaaEncW
namespace Go.Proofs.Ytnhpkiddepfjoaa
open Go.RowKit
/-- Bytes and a number, drawn from the bytes of a law. -/
def GotBI (n : Nat) (w : World) (e : Ending) (w' : World) : Prop :=
  ∃ (zs : List Int) (a : Option Addr) (len cap : Nat) (x : Int), len ≤ n ∧ IsI64 x ∧ e = .returned (.tuple #[.slice a len cap, .int .i64 x]) ∧ Own .u8 5 w' w.heap.size w'.heap.size a len cap zs ∧ Below w.heap.size w w'
/-- Two slices of bytes. -/
def GotBB (n m : Nat) (w : World) (e : Ending) (w' : World) : Prop :=
  ∃ (zs ds : List Int) (a : Option Addr) (len cap : Nat) (b : Option Addr) (len2 cap2 : Nat), len ≤ n ∧ len2 ≤ m ∧ e = .returned (.tuple #[.slice a len cap, .slice b len2 cap2]) ∧ Own .u8 5 w' w.heap.size w'.heap.size a len cap zs ∧ Own .u8 5 w' w.heap.size w'.heap.size b len2 cap2 ds ∧ Below w.heap.size w w'
theorem below_grown {W w1 w2 : World} (h : Below W.heap.size W w1) (g : w1.grownBy w2 (some W.heap.size)) : Below W.heap.size W w2 := h.trans (grown_below' g h.size)
set_option maxHeartbeats 800000 in
theorem drawAppendU_any (W : World) (a : Option Addr) (len cap : Nat) (hl : len ≤ 1048576) (hc : CodeAt W W.heap.size a len) : Calls Try.prog 13 #[.slice a len cap] W (GotBI 2 W) := by
  have HK := Lib.hid hc
  clear hc
  go_enter Try.func13, Try.ntmps13
  go_wp2_with fail
  go_at_call 41
  refine (new_any _ a len cap hl HK.out).mono ?_
  rintro e w1 ⟨rfl, hc1, hb1, hz1⟩
  have HC1 := Lib.hid hc1
  have HB1 := Lib.hid hb1
  clear hc1 hb1
  go_wp2_with fail
  go_at_call 43
  refine (below_any _ _ 3 (by decide) HC1.out).mono ?_
  rintro e w2 ⟨x, ⟨hx0, hx1⟩, rfl, hc2, hg2⟩
  have HC2 := Lib.hid hc2
  have HB2 := Lib.hid (below_grown HB1.out hg2)
  have hz2 : W.heap.size < w2.heap.size := Nat.lt_of_lt_of_le hz1 hg2.size
  clear hc2 hg2
  go_wp2_with fail
  go_at_call 42
  refine (bytes_any _ _ _ (by omega) HC2.out).mono ?_
  rintro e w3 ⟨zs, b, l, c, hl3, rfl, ho3, hc3, hg3⟩
  have HO3 := Lib.hid ho3
  have HC3 := Lib.hid hc3
  have HB3 := Lib.hid (below_grown HB2.out hg3)
  clear ho3 hc3 hg3
  go_wp2_with fail
  go_at_call 44
  refine (one_any _ _ HC3.out).mono ?_
  rintro e w4 ⟨y, hy, rfl, hc4, hg4⟩
  have HY := Lib.hid hy
  have HO4 := Lib.hid (HO3.out.grown hg4 hz2)
  have HB4 := Lib.hid (below_grown HB3.out hg4)
  clear hc4 hg4 hy
  go_wp2_with fail
  go_ret2
  exact ⟨zs, b, l, c, y, by omega, HY.out, rfl, HO4.out.wide (Nat.le_of_lt hz2) HO4.out.2.2.1 (Nat.le_refl _), HB4.out⟩
set_option maxHeartbeats 800000 in
theorem drawAppendB_any (W : World) (a : Option Addr) (len cap : Nat) (hl : len ≤ 1048576) (hc : CodeAt W W.heap.size a len) : Calls Try.prog 19 #[.slice a len cap] W (GotBB 2 5 W) := by
  have HK := Lib.hid hc
  clear hc
  go_enter Try.func19, Try.ntmps19
  go_wp2_with fail
  go_at_call 41
  refine (new_any _ a len cap hl HK.out).mono ?_
  rintro e w1 ⟨rfl, hc1, hb1, hz1⟩
  have HC1 := Lib.hid hc1
  have HB1 := Lib.hid hb1
  clear hc1 hb1
  go_wp2_with fail
  go_at_call 43
  refine (below_any _ _ 3 (by decide) HC1.out).mono ?_
  rintro e w2 ⟨x, ⟨hx0, hx1⟩, rfl, hc2, hg2⟩
  have HC2 := Lib.hid hc2
  have HB2 := Lib.hid (below_grown HB1.out hg2)
  have hz2 : W.heap.size < w2.heap.size := Nat.lt_of_lt_of_le hz1 hg2.size
  clear hc2 hg2
  go_wp2_with fail
  go_at_call 42
  refine (bytes_any _ _ _ (by omega) HC2.out).mono ?_
  rintro e w3 ⟨zs, b, l, c, hl3, rfl, ho3, hc3, hg3⟩
  have HO3 := Lib.hid ho3
  have HC3 := Lib.hid hc3
  have HB3 := Lib.hid (below_grown HB2.out hg3)
  have hz3 : W.heap.size < w3.heap.size := Nat.lt_of_lt_of_le hz2 hg3.size
  clear ho3 hc3 hg3
  go_wp2_with fail
  go_at_call 43
  refine (below_any _ _ 6 (by decide) HC3.out).mono ?_
  rintro e w4 ⟨y, ⟨hy0, hy1⟩, rfl, hc4, hg4⟩
  have HC4 := Lib.hid hc4
  have HO4 := Lib.hid (HO3.out.grown hg4 hz2)
  have HB4 := Lib.hid (below_grown HB3.out hg4)
  have hz4 : W.heap.size < w4.heap.size := Nat.lt_of_lt_of_le hz3 hg4.size
  clear hc4 hg4
  go_wp2_with fail
  go_at_call 42
  refine (bytes_any _ _ _ (by omega) HC4.out).mono ?_
  rintro e w5 ⟨ds, b2, l2, c2, hl5, rfl, ho5, hc5, hg5⟩
  have HO5 := Lib.hid ho5
  have HP5 := Lib.hid (HO4.out.grown hg5 hz2)
  have HB5 := Lib.hid (below_grown HB4.out hg5)
  clear ho5 hc5 hg5
  go_wp2_with fail
  go_ret2
  exact ⟨zs, ds, b, l, c, b2, l2, c2, by omega, by omega, rfl, HP5.out.wide (Nat.le_of_lt hz2) HP5.out.2.2.1 (Nat.le_refl _), HO5.out.wide (Nat.le_of_lt hz4) (Nat.le_refl _) (Nat.le_refl _), HB5.out⟩
set_option maxHeartbeats 1600000 in
theorem drawReadU_any (W : World) (a : Option Addr) (len cap : Nat) (hl : len ≤ 1048576) (hc : CodeAt W W.heap.size a len) : Calls Try.prog 17 #[.slice a len cap] W (GotBI 16 W) := by
  have HK := Lib.hid hc
  clear hc
  obtain ⟨i0, hi, hz0, hz1', hz2'⟩ := info_parts info_u8
  go_enter Try.func17, Try.ntmps17
  go_wp2_with fail
  go_at_call 41
  refine (new_any _ a len cap hl HK.out).mono ?_
  rintro e w1 ⟨rfl, hc1, hb1, hz1⟩
  have HC1 := Lib.hid hc1
  have HB1 := Lib.hid hb1
  clear hc1 hb1
  go_wp2_with fail
  go_at_call 50
  refine (once_any _ _ 2 (by decide) HC1.out).mono ?_
  rintro e w2 ⟨t, rfl, hc2, hg2⟩
  have HC2 := Lib.hid hc2
  have HB2 := Lib.hid (below_grown HB1.out hg2)
  have hz2 : W.heap.size < w2.heap.size := Nat.lt_of_lt_of_le hz1 hg2.size
  clear hc2 hg2
  cases t
  · go_wp2_with fail
    go_at_call 43
    refine (below_any _ _ 8 (by decide) (HC2.out.alloc _)).mono ?_
    rintro e w3 ⟨x, ⟨hx0, hx1⟩, rfl, hc3, hg3⟩
    have hxx : x ≤ 7 := by omega
    have HC3 := Lib.hid hc3
    have HB3 := Lib.hid (below_grown (HB2.out.alloc (Nat.le_of_lt hz2) _) hg3)
    have HO3 := Lib.hid (((own_nil .u8 5 w2).grown hg3 hz2))
    have hz3 : W.heap.size < w3.heap.size := Nat.lt_of_lt_of_le hz2 (Nat.le_trans (by simp) hg3.size)
    have hz23 : w2.heap.size ≤ w3.heap.size := Nat.le_trans (by simp) hg3.size
    clear hc3 hg3 hx1
    go_wp2_with fail
    go_loopw [5, 6] (fun v i wr => ∃ (ix : Int) (xs : List Int) (a' : Option Addr) (l' c' : Nat), 0 ≤ ix ∧ ix ≤ 7 ∧ l' + ix.toNat ≤ 7 ∧ w2.heap.size ≤ wr.heap.size ∧ i = .int .i64 ix ∧ v = .slice a' l' c' ∧ Own .u8 5 wr w2.heap.size wr.heap.size a' l' c' xs ∧ Cur wr W.heap.size ∧ Below W.heap.size W wr) (fun _ i _ => (intOf i).toNat)
    case atStart => exact ⟨x, [], _, _, _, hx0, hxx, by omega, hz23, rfl, rfl, HO3.out.wide (Nat.le_refl _) HO3.out.2.2.1 (Nat.le_refl _), HC3.out, HB3.out⟩
    case round =>
      obtain ⟨ix, xs, a', l', c', hi0, hi1, hli, hw2r, rfl, rfl, ho, hc, hb⟩ := hrel
      have HO := Lib.hid ho
      have HC := Lib.hid hc
      have HB := Lib.hid hb
      have HLI := Lib.hid hli
      have hl7 : l' ≤ 7 := by omega
      have hzr : W.heap.size < wr.heap.size := hc.lt
      clear ho hc hb hli
      by_cases hlt : 0 < ix
      · go_wp2_with fail
        go_at_call 52
        refine (int_new _ _ 5 [128, 255, 0, 1, 127] _ _ rfl rfl (by decide) (by decide) HC.out).mono ?_
        rintro e w4 ⟨y, hy, rfl, hc4, hg4⟩
        have hy2 : 0 ≤ y ∧ y ≤ 255 := (show ∀ z ∈ [(128 : Int), 255, 0, 1, 127], 0 ≤ z ∧ z ≤ 255 by decide) _ hy
        obtain ⟨hy0, hy1⟩ := hy2
        have HC4 := Lib.hid hc4
        have HB4 := Lib.hid (below_grown HB.out hg4)
        have HO4 := Lib.hid (HO.out.grown hg4 hz2)
        have hsz4 := hg4.size
        clear hc4 hg4 hy
        go_wp2_with (at_builtin; refine wp_append_sees rfl _ _ 22 rfl 5 i0 .u8 1 Try.underlying22 hi hz0 hz1' hz2' _ _ _ _ rfl _ _ (HO4.out.alloc _) _ _ _ _ rfl (sees_one (x := y) (WalkArith.wf_u8 (by omega)) _ _) (by unfold maxLen; omega) (by omega) (by simp; omega) ?_; intro a2 len2 cap2 w5 hlen2 ho2 hm2; have HL2 := Lib.hid hlen2; clear hlen2; have HO5 := Lib.hid ho2; have HM5 := Lib.hid hm2; clear ho2 hm2)
        go_roundw
        case rel =>
          refine ⟨ix - 1, _, _, _, _, by omega, by omega, by have := HL2.out; have := HLI.out; omega, by have := HM5.out.size; simp at this; omega, rfl, rfl, HO5.out, ?_, ?_⟩
          · exact (HC4.out.alloc _).below (HM5.out.below (by omega) (by simp; omega))
          · exact below_moved (HB4.out.alloc (by omega) _) HM5.out (Nat.le_refl _) (Nat.le_of_lt hz2)
        case measure => simp [intOf]; omega
      · go_wp2_with fail
        go_at_call 43
        refine (below_any _ _ 4 (by decide) HC.out).mono ?_
        rintro e w4 ⟨y, ⟨hy0, hy1⟩, rfl, hc4, hg4⟩
        have HB4 := Lib.hid (below_grown HB.out hg4)
        have HO4 := Lib.hid (HO.out.grown hg4 hz2)
        clear hc4 hg4
        go_wp2_with fail
        go_ret2
        exact ⟨xs, _, _, _, _, by omega, ⟨by omega, by omega⟩, rfl, HO4.out.wide (Nat.le_of_lt hz2) HO4.out.2.2.1 (Nat.le_refl _), HB4.out⟩
  · go_wp2_with fail
    go_at_call 42
    refine (bytes_any _ _ _ (by omega) HC2.out).mono ?_
    rintro e w3 ⟨zs, b, l, c, hl3, rfl, ho3, hc3, hg3⟩
    have HO3 := Lib.hid ho3
    have HC3 := Lib.hid hc3
    have HB3 := Lib.hid (below_grown HB2.out hg3)
    have hz3 : W.heap.size < w3.heap.size := Nat.lt_of_lt_of_le hz2 hg3.size
    clear ho3 hc3 hg3
    go_wp2_with fail
    go_at_call 51
    refine (num_any _ _ HC3.out).mono ?_
    rintro e w4 ⟨y, ⟨hy0, hy1⟩, rfl, hc4, hg4⟩
    have HO4 := Lib.hid (HO3.out.grown hg4 hz2)
    have HB4 := Lib.hid (below_grown HB3.out hg4)
    have hz4 : W.heap.size < w4.heap.size := Nat.lt_of_lt_of_le hz3 hg4.size
    clear hc4 hg4
    go_wp2_with fail
    go_at_call 26
    refine (specAppend_any _ _ _ _ zs _ (by omega) HO4.out.sees).mono ?_
    rintro e w5 ⟨b5, l5, c5, rfl, ho5, hb5⟩
    have hl5 : l5 ≤ 16 := by have := ho5.1; have := encTo_len zs y; have := HO4.out.1; omega
    have HO5 := Lib.hid ho5
    have HB5 := Lib.hid (below_up HB4.out hb5 (Nat.le_refl _))
    clear ho5 hb5
    go_wp2_with fail
    go_ret2
    exact ⟨_, _, _, _, _, hl5, ⟨by omega, by omega⟩, rfl, HO5.out.wide (Nat.le_of_lt hz4) (Nat.le_refl _) (Nat.le_refl _), HB5.out⟩
end Go.Proofs.Ytnhpkiddepfjoaa
