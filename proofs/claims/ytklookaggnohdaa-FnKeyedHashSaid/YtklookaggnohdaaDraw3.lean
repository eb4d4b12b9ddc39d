/- The draws of chapter 3's laws. -/
import Derived.Test.YtklookaggnohdaaDrawB
import Derived.Test.YtklookaggnohdaaSlI
import Derived.Test.YtklookaggnohdaaHash
namespace Go.Proofs.Ytklookaggnohdaa
open Go.RowKit
theorem below_grown {W w1 w2 : World} (h : Below W.heap.size W w1) (g : w1.grownBy w2 (some W.heap.size)) : Below W.heap.size W w2 := h.trans (grown_below' g h.size)
def IsWord (x : Int) : Prop := -1 ≤ x ∧ x ≤ 2147483648
theorem prod_word {y z : Int} (hy0 : 0 ≤ y) (hy1 : y < 1000000) (hz0 : 0 ≤ z) (hz1 : z < 2000) : 0 ≤ y * z ∧ y * z ≤ 1998998001 := by
  have h1 : 0 ≤ y * z := Int.mul_nonneg hy0 hz0
  have h2 : y * z ≤ 999999 * 1999 := Int.mul_le_mul (by omega) (by omega) hz0 (by decide)
  omega
set_option maxHeartbeats 800000 in
theorem word_any (W : World) (B : Nat) (hc : Cur W B) : Calls Try.prog 45 #[.pointer (some ⟨B, 0, none⟩)] W (Drew B W IsWord) := by
  have HC0 := Lib.hid hc
  clear hc
  go_enter Try.func45, Try.ntmps45
  go_wp2_with fail
  go_at_call 59
  refine (once_any _ B 10 (by decide) HC0.out).mono ?_
  rintro e w1 ⟨x, rfl, hc1, hg1⟩
  have HC1 := Lib.hid hc1
  have HG1 := Lib.hid hg1
  clear hc1 hg1
  cases x
  · go_wp2_with fail
    go_at_call 59
    refine (once_any _ B 4 (by decide) HC1.out).mono ?_
    rintro e w2 ⟨x, rfl, hc2, hg2⟩
    have HC2 := Lib.hid hc2
    have HG2 := Lib.hid (grown_trans HG1.out hg2)
    clear hc2 hg2
    cases x
    · go_wp2_with fail
      go_at_call 47
      refine (below_any _ B 1000000 (by decide) HC2.out).mono ?_
      rintro e w3 ⟨y, ⟨hy0, hy1⟩, rfl, hc3, hg3⟩
      have hy2 : y < 1000000 := by omega
      have HC3 := Lib.hid hc3
      have HG3 := Lib.hid (grown_trans HG2.out hg3)
      clear hc3 hg3 hy1
      go_wp2_with fail
      go_at_call 47
      refine (below_any _ B 2000 (by decide) HC3.out).mono ?_
      rintro e w4 ⟨z, ⟨hz0, hz1⟩, rfl, hc4, hg4⟩
      have hz2 : z < 2000 := by omega
      have HC4 := Lib.hid hc4
      have HG4 := Lib.hid (grown_trans HG3.out hg4)
      have hp := prod_word hy0 hy2 hz0 hz2
      obtain ⟨hp0, hp1⟩ := hp
      clear hc4 hg4 hz1
      go_wp2_with fail
      go_ret
      exact ⟨_, ⟨by omega, by omega⟩, rfl, HC4.out, HG4.out⟩
    · go_wp2_with (go_at_call 60; refine (int_new _ B 3 [0, 1, 2147483646] _ _ rfl rfl (by decide) (by decide) HC2.out).mono ?_; rintro e w3 ⟨y, hy, rfl, hc3, hg3⟩; have HY := Lib.hid hy; have HC3 := Lib.hid hc3; have HG3 := Lib.hid (grown_trans HG2.out hg3); clear hc3 hg3 hy)
      go_ret
      exact ⟨_, (show ∀ y ∈ [(0 : Int), 1, 2147483646], IsWord y by unfold IsWord; decide) _ HY.out, rfl, HC3.out, HG3.out⟩
  · go_wp2_with (go_at_call 60; refine (int_new _ B 3 [-1, 2147483647, 2147483648] _ _ rfl rfl (by decide) (by decide) HC1.out).mono ?_; rintro e w2 ⟨y, hy, rfl, hc2, hg2⟩; have HY := Lib.hid hy; have HC2 := Lib.hid hc2; have HG2 := Lib.hid (grown_trans HG1.out hg2); clear hc2 hg2 hy)
    go_ret
    exact ⟨_, (show ∀ y ∈ [(-1 : Int), 2147483647, 2147483648], IsWord y by unfold IsWord; decide) _ HY.out, rfl, HC2.out, HG2.out⟩
/-- What a draw of words leaves. -/
def DrewW (B n : Nat) (w : World) (e : Ending) (w' : World) : Prop :=
  ∃ (zs : List Int) (a : Option Addr) (len cap : Nat), len ≤ n ∧ (∀ z ∈ zs, IsWord z) ∧ e = .returned (.slice a len cap) ∧ Own .i64 3 w' w.heap.size w'.heap.size a len cap zs ∧ Cur w' B ∧ w.grownBy w' (some B)
set_option maxHeartbeats 800000 in
theorem words_any (W : World) (B : Nat) (hc : Cur W B) : Calls Try.prog 50 #[.pointer (some ⟨B, 0, none⟩)] W (DrewW B 4 W) := by
  have HC := Lib.hid hc
  have hB := hc.lt
  clear hc
  obtain ⟨i0, hi, hz0, hz1, hz2⟩ := info_parts info_i64
  go_enter Try.func50, Try.ntmps50
  go_wp2_with fail
  go_at_call 47
  refine (below_any _ B 5 (by decide) (HC.out.alloc _)).mono ?_
  rintro e w1 ⟨n, ⟨hn0, hn1⟩, rfl, hc1, hg1⟩
  have hn2 : n ≤ 4 := by omega
  have HO1 := Lib.hid ((own_nil .i64 3 W).grown hg1 hB)
  have HC1 := Lib.hid hc1
  have HG1 := Lib.hid (grown_trans (World.grownBy_alloc W _ _) hg1)
  have hw1 := HG1.out.size
  clear hc1 hg1 hn1
  go_wp2_with fail
  go_loopw [3, 4] (fun v i wr => ∃ (kx : Int) (xs : List Int) (a' : Option Addr) (l' c' : Nat), 0 ≤ kx ∧ kx ≤ 4 ∧ l' + kx.toNat ≤ 4 ∧ (∀ z ∈ xs, IsWord z) ∧ i = .int .i64 kx ∧ v = .slice a' l' c' ∧ Own .i64 3 wr W.heap.size wr.heap.size a' l' c' xs ∧ Cur wr B ∧ W.grownBy wr (some B)) (fun _ i _ => (intOf i).toNat)
  case atStart => exact ⟨n, [], _, _, _, hn0, hn2, by omega, (fun _ h => by cases h), rfl, rfl, HO1.out.wide (Nat.le_refl _) HO1.out.2.2.1 (Nat.le_refl _), HC1.out, HG1.out⟩
  case round =>
    obtain ⟨kx, xs, a', l', c', hk0, hk1, hlk, hin, rfl, rfl, ho, hc, hg⟩ := hrel
    have HO := Lib.hid ho
    have HCC := Lib.hid hc
    have HG := Lib.hid hg
    have HL := Lib.hid hlk
    have HI := Lib.hid hin
    have hl' : l' ≤ 4 := by omega
    clear ho hc hg hlk hin
    by_cases hlt : 0 < kx
    · go_wp2_with fail
      go_at_call 45
      refine (word_any _ B HCC.out).mono ?_
      rintro e w2 ⟨x, ⟨hx0, hx1⟩, rfl, hc2, hg2⟩
      have HO2 := Lib.hid (HO.out.grown hg2 hB)
      have HC2 := Lib.hid hc2
      have HG2 := Lib.hid (grown_trans HG.out hg2)
      have hsz2 := HG2.out.size
      clear hc2 hg2
      go_wp2_with (at_builtin; refine wp_append_sees rfl _ _ 28 rfl 3 i0 .i64 8 Try.underlying28 hi hz0 hz1 hz2 _ _ _ _ rfl _ _ (HO2.out.alloc _) _ _ _ _ rfl (sees_one (x := x) (WalkArith.wf_i64 (by omega)) _ _) (by unfold maxLen; omega) (by omega) (by simp; omega) ?_; intro a2 len2 cap2 w3 hlen2 ho2 hm2; have HL2 := Lib.hid hlen2; clear hlen2; have HO3 := Lib.hid ho2; have HM3 := Lib.hid hm2; clear ho2 hm2)
      go_roundw
      case rel =>
        refine ⟨kx - 1, xs ++ [x], _, _, _, by omega, by omega, by have := HL.out; have := HL2.out; omega, ?_, rfl, rfl, HO3.out, ?_, ?_⟩
        · intro z hz
          rcases List.mem_append.1 hz with hz | hz
          · exact HI.out z hz
          · rw [List.mem_singleton] at hz; rw [hz]; exact ⟨hx0, hx1⟩
        · exact (HC2.out.alloc _).below (HM3.out.below (by omega) (by simp; omega))
        · exact grown_moved (grown_trans HG2.out (World.grownBy_alloc w2 _ _)) HM3.out (Nat.le_refl _)
      case measure => simp [intOf]; omega
    · go_wp2_with fail
      go_ret
      exact ⟨xs, _, _, _, hl', HI.out, rfl, HO.out, HCC.out, HG.out⟩
/-- A word and words, drawn from the bytes of a law. -/
def GotWW (w : World) (e : Ending) (w' : World) : Prop :=
  ∃ (x : Int) (zs : List Int) (a : Option Addr) (len cap : Nat), IsWord x ∧ len ≤ 4 ∧ (∀ z ∈ zs, IsWord z) ∧ e = .returned (.tuple #[.int .i64 x, .slice a len cap]) ∧ Own .i64 3 w' w.heap.size w'.heap.size a len cap zs ∧ Below w.heap.size w w'
/-- A word and bytes. -/
def GotWB (w : World) (e : Ending) (w' : World) : Prop :=
  ∃ (x : Int) (zs : List Int) (a : Option Addr) (len cap : Nat), IsWord x ∧ len ≤ 7 ∧ e = .returned (.tuple #[.int .i64 x, .slice a len cap]) ∧ Own .u8 5 w' w.heap.size w'.heap.size a len cap zs ∧ Below w.heap.size w w'
/-- A word and a string. -/
def GotWS (w : World) (e : Ending) (w' : World) : Prop :=
  ∃ (x : Int) (s : ByteArray), IsWord x ∧ s.size ≤ 4 ∧ e = .returned (.tuple #[.int .i64 x, .string s]) ∧ Below w.heap.size w w'
set_option maxHeartbeats 800000 in
theorem drawKeyed_any (W : World) (a : Option Addr) (len cap : Nat) (hl : len ≤ 1048576) (hc : CodeAt W W.heap.size a len) : Calls Try.prog 18 #[.slice a len cap] W (GotWW W) := by
  have HK := Lib.hid hc
  clear hc
  go_enter Try.func18, Try.ntmps18
  go_wp2_with fail
  go_at_call 44
  refine (new_any _ a len cap hl HK.out).mono ?_
  rintro e w1 ⟨rfl, hc1, hb1, hz1⟩
  have HC1 := Lib.hid hc1
  have HB1 := Lib.hid hb1
  clear hc1 hb1
  go_wp2_with fail
  go_at_call 45
  refine (word_any _ _ HC1.out).mono ?_
  rintro e w2 ⟨x, hx, rfl, hc2, hg2⟩
  have HX := Lib.hid hx
  have HC2 := Lib.hid hc2
  have HB2 := Lib.hid (below_grown HB1.out hg2)
  have hz2 : W.heap.size < w2.heap.size := Nat.lt_of_lt_of_le hz1 hg2.size
  clear hc2 hg2 hx
  go_wp2_with fail
  go_at_call 50
  refine (words_any _ _ HC2.out).mono ?_
  rintro e w3 ⟨zs, b, l, c, hl3, hin, rfl, ho3, hc3, hg3⟩
  have HI := Lib.hid hin
  have HO3 := Lib.hid ho3
  have HB3 := Lib.hid (below_grown HB2.out hg3)
  clear ho3 hc3 hg3 hin
  go_wp2_with fail
  go_ret2
  exact ⟨x, zs, b, l, c, HX.out, hl3, HI.out, rfl, HO3.out.wide (Nat.le_of_lt hz2) (Nat.le_refl _) (Nat.le_refl _), HB3.out⟩
set_option maxHeartbeats 800000 in
theorem drawEncrypt_any (W : World) (a : Option Addr) (len cap : Nat) (hl : len ≤ 1048576) (hc : CodeAt W W.heap.size a len) : Calls Try.prog 14 #[.slice a len cap] W (GotWB W) := by
  have HK := Lib.hid hc
  clear hc
  go_enter Try.func14, Try.ntmps14
  go_wp2_with fail
  go_at_call 44
  refine (new_any _ a len cap hl HK.out).mono ?_
  rintro e w1 ⟨rfl, hc1, hb1, hz1⟩
  have HC1 := Lib.hid hc1
  have HB1 := Lib.hid hb1
  clear hc1 hb1
  go_wp2_with fail
  go_at_call 45
  refine (word_any _ _ HC1.out).mono ?_
  rintro e w2 ⟨x, hx, rfl, hc2, hg2⟩
  have HX := Lib.hid hx
  have HC2 := Lib.hid hc2
  have HB2 := Lib.hid (below_grown HB1.out hg2)
  have hz2 : W.heap.size < w2.heap.size := Nat.lt_of_lt_of_le hz1 hg2.size
  clear hc2 hg2 hx
  go_wp2_with fail
  go_at_call 47
  refine (below_any _ _ 8 (by decide) HC2.out).mono ?_
  rintro e w3 ⟨n, ⟨hn0, hn1⟩, rfl, hc3, hg3⟩
  have hn2 : n ≤ 7 := by omega
  have HC3 := Lib.hid hc3
  have HB3 := Lib.hid (below_grown HB2.out hg3)
  have hz3 : W.heap.size < w3.heap.size := Nat.lt_of_lt_of_le hz2 hg3.size
  clear hc3 hg3 hn1
  go_wp2_with fail
  go_at_call 46
  refine (bytes_any _ _ _ (by omega) HC3.out).mono ?_
  rintro e w4 ⟨zs, b, l, c, hl4, rfl, ho4, hc4, hg4⟩
  have HO4 := Lib.hid ho4
  have HB4 := Lib.hid (below_grown HB3.out hg4)
  clear ho4 hc4 hg4
  go_wp2_with fail
  go_ret2
  exact ⟨x, zs, b, l, c, HX.out, by omega, rfl, HO4.out.wide (Nat.le_of_lt hz3) (Nat.le_refl _) (Nat.le_refl _), HB4.out⟩
set_option maxHeartbeats 800000 in
theorem drawDerive_any (W : World) (a : Option Addr) (len cap : Nat) (hl : len ≤ 1048576) (hc : CodeAt W W.heap.size a len) : Calls Try.prog 23 #[.slice a len cap] W (GotWS W) := by
  have HK := Lib.hid hc
  clear hc
  go_enter Try.func23, Try.ntmps23
  go_wp2_with fail
  go_at_call 44
  refine (new_any _ a len cap hl HK.out).mono ?_
  rintro e w1 ⟨rfl, hc1, hb1, hz1⟩
  have HC1 := Lib.hid hc1
  have HB1 := Lib.hid hb1
  clear hc1 hb1
  go_wp2_with fail
  go_at_call 45
  refine (word_any _ _ HC1.out).mono ?_
  rintro e w2 ⟨x, hx, rfl, hc2, hg2⟩
  have HX := Lib.hid hx
  have HC2 := Lib.hid hc2
  have HB2 := Lib.hid (below_grown HB1.out hg2)
  clear hc2 hg2 hx
  go_wp2_with (go_at_call 54; refine (str_new _ _ 6 [⟨#[]⟩, ⟨#[97]⟩, ⟨#[98]⟩, ⟨#[97, 98]⟩, ⟨#[110, 101, 119, 115]⟩, ⟨#[120]⟩] _ _ rfl rfl (by decide) (by decide) HC2.out).mono ?_; rintro e w3 ⟨s, hs, rfl, hc3, hg3⟩; have HS := Lib.hid ((show ∀ y ∈ [(⟨#[]⟩ : ByteArray), ⟨#[97]⟩, ⟨#[98]⟩, ⟨#[97, 98]⟩, ⟨#[110, 101, 119, 115]⟩, ⟨#[120]⟩], y.size ≤ 4 by decide) s hs); have HB3 := Lib.hid (below_grown HB2.out hg3); clear hc3 hg3 hs)
  go_ret2
  exact ⟨x, s, HX.out, HS.out, rfl, HB3.out⟩
end Go.Proofs.Ytklookaggnohdaa
