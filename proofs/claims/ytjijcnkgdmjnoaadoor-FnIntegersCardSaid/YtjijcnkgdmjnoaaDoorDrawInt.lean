/- The draws of chapter 1. -/
import Derived.Test.YtjijcnkgdmjnoaaDoorDraw
import Derived.Test.YtjijcnkgdmjnoaaDoorRow
import Derived.Test.YtjijcnkgdmjnoaaDoorFmtW
namespace Go.Proofs.YtjijcnkgdmjnoaaDoor
open Go.RowKit
theorem code_of {W : World} {a : Option Addr} {len cap : Nat} {zs : List Int} (h : IsRow .u8 W a len cap zs) : CodeAt W W.heap.size a len := by
  rcases row_spot h with h0 | ⟨b, off, rfl, hb, h1, h2, h3, h4, h5⟩
  · exact .inl h0
  · refine .inr ⟨b, off, rfl, hb, fun j hj => ⟨zs.getD j 0, h4 j (by omega), ?_⟩⟩
    exact bounds_u8 (h5 _ (by simp [List.getD, show j < zs.length by omega]))
theorem CodeAt.below {W W' : World} {B : Nat} {a : Option Addr} {len : Nat} (h : CodeAt W B a len) (hb : Below B W W') : CodeAt W' B a len := by
  rcases h with h | ⟨b, off, ha, hlt, hc⟩
  · exact .inl h
  · refine .inr ⟨b, off, ha, hlt, fun j hj => ?_⟩
    obtain ⟨c, h1, h2⟩ := hc j hj
    exact ⟨c, (hb.cell (p := ⟨b, off + j, none⟩) hlt).trans h1, h2⟩
theorem CodeAt.mono {W : World} {B B' : Nat} {a : Option Addr} {len : Nat} (h : CodeAt W B a len) (hb : B ≤ B') : CodeAt W B' a len := by
  rcases h with h | ⟨b, off, ha, hlt, hc⟩
  · exact .inl h
  · exact .inr ⟨b, off, ha, by omega, hc⟩
/-- What a new cursor is. -/
def NewCur (W : World) (e : Ending) (W' : World) : Prop := e = .returned (.pointer (some ⟨W.heap.size, 0, none⟩)) ∧ Cur W' W.heap.size ∧ Below W.heap.size W W' ∧ W.heap.size < W'.heap.size
theorem cur_new (W : World) (a : Option Addr) (len cap : Nat) (h : Int) (hl : len ≤ 1048576) (hc : CodeAt W W.heap.size a len) :
    NewCur W (.returned (.pointer (some ⟨W.heap.size, 0, none⟩))) (W.alloc (.cells #[.slice a len cap, .int .i64 0, .int .i64 h] 46)) := by
  refine ⟨rfl, ⟨a, len, cap, 0, h, ?_, ?_, ?_, ?_, ?_, by omega, by omega, hl, ?_⟩, (Below.refl _ _).alloc (Nat.le_refl _) _, by simp⟩
  · go_simp
  · go_simp
  · go_simp
  · go_simp
  · go_simp
  · exact hc.below ((Below.refl _ _).alloc (Nat.le_refl _) _)
theorem and_30 (x : Int) : 0 ≤ bits .and .i64 x 1073741823 ∧ bits .and .i64 x 1073741823 ≤ 1073741823 := and_mask x 1073741823 (by decide)
set_option maxHeartbeats 400000 in
set_option maxRecDepth 20000 in
theorem new_any (W : World) (a : Option Addr) (len cap : Nat) (hl : len ≤ 1048576) (hc : CodeAt W W.heap.size a len) : Calls Tryd.prog 16 #[.slice a len cap] W (NewCur W) := by
  have HC := Lib.hid hc
  clear hc
  go_enter Tryd.func16, Tryd.ntmps16
  go_wp2
  go_loop [3, 4] (fun h i => ∃ (k : Nat) (x : Int), k ≤ len ∧ i = .int .i64 k ∧ h = .int .i64 x ∧ 0 ≤ x ∧ x ≤ 1073741823) (fun _ i => len - (intOf i).toNat)
  case atStart => exact ⟨0, 193017 + len, Nat.zero_le _, rfl, rfl, by omega, by omega⟩
  case round =>
    obtain ⟨k, x, hk, rfl, rfl, hx0, hx1⟩ := hrel
    by_cases hlt : k < len
    · rcases HC.out with h0 | ⟨b, off, rfl, hbB, hcell⟩
      · omega
      · obtain ⟨c, hcc, hc0, hc1⟩ := hcell k hlt
        have hm := and_30 (x * 137 + c + 11)
        obtain ⟨hm0, hm1⟩ := hm
        clear hcell
        by_cases h4 : k < 4000
        · go_wp2
          go_round
          case rel => exact ⟨k + 1, _, by omega, by go_num, rfl, hm0, hm1⟩
          case measure => simp [intOf]; omega
        · go_wp2
          go_ret
          exact cur_new W _ len cap x hl HC.out
    · go_wp2
      go_ret
      exact cur_new W _ len cap x hl HC.out
theorem num_any (W : World) (B : Nat) (hc : Cur W B) : Calls Tryd.prog 19 #[.pointer (some ⟨B, 0, none⟩)] W (Drew B W (fun x => 0 ≤ x ∧ x ≤ 1000000000000)) := by
  have HC := Lib.hid hc
  clear hc
  go_enter Tryd.func19, Tryd.ntmps19
  go_wp2_with fail
  go_at_call 25
  refine (below_any _ B 4 (by decide) HC.out).mono ?_
  rintro e w1 ⟨x, ⟨hx0, hx1⟩, rfl, hc1, hg1⟩
  have HC1 := Lib.hid hc1
  have HG1 := Lib.hid hg1
  clear hc1 hg1 hx1
  by_cases h0 : x = 0
  · subst h0
    go_wp2_with (go_at_call 25; refine (below_any _ B 2000 (by decide) HC1.out).mono ?_; rintro e w2 ⟨y, ⟨hy0, hy1⟩, rfl, hc2, hg2⟩; have HC2 := Lib.hid hc2; have HG2 := Lib.hid hg2; clear hc2 hg2)
    go_ret
    exact ⟨_, ⟨hy0, by omega⟩, rfl, HC2.out, grown_trans HG1.out HG2.out⟩
  · by_cases h1 : x = 1
    · subst h1
      go_wp2_with (go_at_call 26; refine (int_new _ B 7 [0, 1, 127, 128, 2147483646, 2147483647, 1000000000000] _ _ rfl rfl (by decide) (by decide) HC1.out).mono ?_; rintro e w2 ⟨y, hy, rfl, hc2, hg2⟩; have HY := Lib.hid hy; have HC2 := Lib.hid hc2; have HG2 := Lib.hid hg2; clear hc2 hg2 hy)
      go_ret
      exact ⟨_, (show ∀ y ∈ [(0 : Int), 1, 127, 128, 2147483646, 2147483647, 1000000000000], 0 ≤ y ∧ y ≤ 1000000000000 by decide) _ HY.out, rfl, HC2.out, grown_trans HG1.out HG2.out⟩
    · by_cases h2 : x = 2
      · subst h2
        go_wp2_with fail
        go_at_call 25
        refine (below_any _ B 1000000 (by decide) HC1.out).mono ?_
        rintro e w2 ⟨y, ⟨hy0, hy1⟩, rfl, hc2, hg2⟩
        have HC2 := Lib.hid hc2
        have HG2 := Lib.hid hg2
        clear hc2 hg2
        go_wp2_with fail
        go_at_call 25
        refine (below_any _ B 1000000 (by decide) HC2.out).mono ?_
        rintro e w3 ⟨z, ⟨hz0, hz1⟩, rfl, hc3, hg3⟩
        have HC3 := Lib.hid hc3
        have HG3 := Lib.hid hg3
        clear hc3 hg3
        have hp0 : 0 ≤ y * z := Int.mul_nonneg hy0 hz0
        have hp1 : y * z ≤ 1000000 * 1000000 := Int.mul_le_mul (by omega) (by omega) hz0 (by omega)
        go_wp2_with fail
        go_ret
        exact ⟨_, ⟨hp0, by omega⟩, rfl, HC3.out, grown_trans (grown_trans HG1.out HG2.out) HG3.out⟩
      · go_wp2_with (go_at_call 25; refine (below_any _ B 20 (by decide) HC1.out).mono ?_; rintro e w2 ⟨y, ⟨hy0, hy1⟩, rfl, hc2, hg2⟩; have HC2 := Lib.hid hc2; have HG2 := Lib.hid hg2; clear hc2 hg2)
        go_ret
        exact ⟨_, ⟨hy0, by omega⟩, rfl, HC2.out, grown_trans HG1.out HG2.out⟩
theorem raw_any (W : World) (B : Nat) (hc : Cur W B) : Calls Tryd.prog 29 #[.pointer (some ⟨B, 0, none⟩)] W (Drew B W IsI64) := by
  have HC0 := Lib.hid hc
  clear hc
  go_enter Tryd.func29, Tryd.ntmps29
  go_wp2_with fail
  go_at_call 17
  refine (once_any _ B 2 (by decide) HC0.out).mono ?_
  rintro e w1 ⟨x, rfl, hc1, hg1⟩
  have HC1 := Lib.hid hc1
  have HG1 := Lib.hid hg1
  clear hc1 hg1
  cases x
  · go_wp2_with (go_at_call 26; refine (int_new _ B 3 [-1, 1000000000000, 1000000000001] _ _ rfl rfl (by decide) (by decide) HC1.out).mono ?_; rintro e w2 ⟨y, hy, rfl, hc2, hg2⟩; have HY := Lib.hid hy; have HC2 := Lib.hid hc2; have HG2 := Lib.hid hg2; clear hc2 hg2 hy)
    go_ret
    exact ⟨_, (show ∀ y ∈ [(-1 : Int), 1000000000000, 1000000000001], IsI64 y by unfold IsI64; decide) _ HY.out, rfl, HC2.out, grown_trans HG1.out HG2.out⟩
  · go_wp2_with (go_at_call 37; refine (odd_any _ B HC1.out).mono ?_; rintro e w2 ⟨y, hy, rfl, hc2, hg2⟩; have HY := Lib.hid hy; have HC2 := Lib.hid hc2; have HG2 := Lib.hid hg2; clear hc2 hg2 hy)
    go_ret
    exact ⟨_, HY.out, rfl, HC2.out, grown_trans HG1.out HG2.out⟩
theorem one_any (W : World) (B : Nat) (hc : Cur W B) : Calls Tryd.prog 22 #[.pointer (some ⟨B, 0, none⟩)] W (Drew B W IsI64) := by
  have HC0 := Lib.hid hc
  clear hc
  go_enter Tryd.func22, Tryd.ntmps22
  go_wp2_with fail
  go_at_call 17
  refine (once_any _ B 6 (by decide) HC0.out).mono ?_
  rintro e w1 ⟨x, rfl, hc1, hg1⟩
  have HC1 := Lib.hid hc1
  have HG1 := Lib.hid hg1
  clear hc1 hg1
  cases x
  · go_wp2_with (go_at_call 19; refine (num_any _ B HC1.out).mono ?_; rintro e w2 ⟨y, ⟨hy0, hy1⟩, rfl, hc2, hg2⟩; have HC2 := Lib.hid hc2; have HG2 := Lib.hid hg2; clear hc2 hg2)
    go_ret
    exact ⟨_, ⟨by omega, by omega⟩, rfl, HC2.out, grown_trans HG1.out HG2.out⟩
  · go_wp2_with (go_at_call 29; refine (raw_any _ B HC1.out).mono ?_; rintro e w2 ⟨y, hy, rfl, hc2, hg2⟩; have HY := Lib.hid hy; have HC2 := Lib.hid hc2; have HG2 := Lib.hid hg2; clear hc2 hg2 hy)
    go_ret
    exact ⟨_, HY.out, rfl, HC2.out, grown_trans HG1.out HG2.out⟩
/-! ### Strings from a list -/
def StrsAt (W : World) (L : Nat) (vals : List ByteArray) : Prop := ∀ j, j < vals.length → W.cell? ⟨L, j, none⟩ = some (.string (vals.getD j ByteArray.empty))
theorem strsAt_new (W : World) (vals : List ByteArray) (C : Array Value) (t : TypeId) (h : C = (vals.map Value.string).toArray) : StrsAt (W.alloc (.cells C t)) W.heap.size vals := by
  intro j hj
  subst h
  simp [List.getD, hj]
theorem mem_getS {l : List ByteArray} {j : Nat} (h : j < l.length) : l.getD j ByteArray.empty ∈ l := by
  simp [List.getD, h]
/-- What a draw of a string leaves. -/
def DrewS (B : Nat) (w : World) (P : ByteArray → Prop) (e : Ending) (w' : World) : Prop := ∃ x : ByteArray, P x ∧ e = .returned (.string x) ∧ Cur w' B ∧ w.grownBy w' (some B)
theorem str_any (W : World) (B L n : Nat) (vals : List ByteArray) (hlen : vals.length = n) (h1 : 1 ≤ n) (h2 : n ≤ 256) (hl : StrsAt W L vals) (hne : L ≠ B) (hc : Cur W B) :
    Calls Tryd.prog 18 #[.pointer (some ⟨B, 0, none⟩), .slice (some ⟨L, 0, none⟩) n n] W (DrewS B W (· ∈ vals)) := by
  have HL := Lib.hid hl
  have HC := Lib.hid hc
  have HN := Lib.hid hlen
  clear hl hc hlen
  go_enter Tryd.func18, Tryd.ntmps18
  go_wp2_with fail
  go_at_call 25
  refine (below_any _ B _ (by omega) HC.out).mono ?_
  rintro e w1 ⟨x, ⟨hx0, hx1⟩, rfl, hc1, hg1⟩
  have HC1 := Lib.hid hc1
  have HG1 := Lib.hid hg1
  have hxl : x < n := by omega
  have hcx := hg1.cell (HL.out x.toNat (by rw [HN.out]; omega)) (by simp; omega)
  clear hc1 hg1 hx1
  go_wp2_with fail
  go_ret
  exact ⟨_, mem_getS (by rw [HN.out]; omega), rfl, HC1.out, HG1.out⟩
theorem str_new (W : World) (B n : Nat) (vals : List ByteArray) (C : Array Value) (t : TypeId) (h : C = (vals.map Value.string).toArray) (hlen : vals.length = n) (h1 : 1 ≤ n) (h2 : n ≤ 256) (hc : Cur W B) :
    Calls Tryd.prog 18 #[.pointer (some ⟨B, 0, none⟩), .slice (some ⟨W.heap.size, 0, none⟩) n n] (W.alloc (.cells C t)) (DrewS B W (· ∈ vals)) :=
  (str_any _ B _ n vals hlen h1 h2 (strsAt_new W vals C t h) (by have := hc.lt; omega) (hc.alloc _)).mono fun _ _ ⟨x, hx, he, hc2, hg2⟩ => ⟨x, hx, he, hc2, grown_trans (World.grownBy_alloc W _ _) hg2⟩
/-! ### The draws of chapter 1's laws -/
/-- A number drawn from the bytes of a law. -/
def GotI (w : World) (e : Ending) (w' : World) : Prop := ∃ x : Int, IsI64 x ∧ e = .returned (.int .i64 x) ∧ Below w.heap.size w w'
def GotII (w : World) (e : Ending) (w' : World) : Prop := ∃ x y : Int, IsI64 x ∧ IsI64 y ∧ e = .returned (.tuple #[.int .i64 x, .int .i64 y]) ∧ Below w.heap.size w w'
def GotS (n : Nat) (w : World) (e : Ending) (w' : World) : Prop := ∃ x : ByteArray, x.size ≤ n ∧ e = .returned (.string x) ∧ Below w.heap.size w w'
theorem drawFormat_any (W : World) (a : Option Addr) (len cap : Nat) (hl : len ≤ 1048576) (hc : CodeAt W W.heap.size a len) : Calls Tryd.prog 9 #[.slice a len cap] W (GotI W) := by
  have HK := Lib.hid hc
  clear hc
  go_enter Tryd.func9, Tryd.ntmps9
  go_wp2_with fail
  go_at_call 16
  refine (new_any _ a len cap hl HK.out).mono ?_
  rintro e w1 ⟨rfl, hc1, hb1, hz1⟩
  have HC1 := Lib.hid hc1
  have HB1 := Lib.hid hb1
  clear hc1 hb1
  go_wp2_with (go_at_call 22; refine (one_any _ _ HC1.out).mono ?_; rintro e w2 ⟨y, hy, rfl, hc2, hg2⟩; have HY := Lib.hid hy; have HG2 := Lib.hid hg2; clear hc2 hg2 hy)
  go_ret
  exact ⟨_, HY.out, rfl, HB1.out.trans (grown_below' HG2.out (by omega))⟩
theorem drawCeil_any (W : World) (a : Option Addr) (len cap : Nat) (hl : len ≤ 1048576) (hc : CodeAt W W.heap.size a len) : Calls Tryd.prog 11 #[.slice a len cap] W (GotII W) := by
  have HK := Lib.hid hc
  clear hc
  go_enter Tryd.func11, Tryd.ntmps11
  go_wp2_with fail
  go_at_call 16
  refine (new_any _ a len cap hl HK.out).mono ?_
  rintro e w1 ⟨rfl, hc1, hb1, hz1⟩
  have HC1 := Lib.hid hc1
  have HB1 := Lib.hid hb1
  clear hc1 hb1
  go_wp2_with fail
  go_at_call 22
  refine (one_any _ _ HC1.out).mono ?_
  rintro e w2 ⟨y, hy, rfl, hc2, hg2⟩
  have HY := Lib.hid hy
  have HC2 := Lib.hid hc2
  have HG2 := Lib.hid hg2
  clear hc2 hg2 hy
  go_wp2_with fail
  go_at_call 22
  refine (one_any _ _ HC2.out).mono ?_
  rintro e w3 ⟨z, hz, rfl, hc3, hg3⟩
  have HZ := Lib.hid hz
  have HG3 := Lib.hid hg3
  clear hc3 hg3 hz
  go_wp2_with fail
  go_ret2
  exact ⟨_, _, HY.out, HZ.out, rfl, HB1.out.trans (grown_below' (grown_trans HG2.out HG3.out) (by omega))⟩
def parseStrs : List ByteArray := [⟨#[]⟩, ⟨#[48]⟩, ⟨#[48, 48]⟩, ⟨#[45, 49]⟩, ⟨#[48, 49]⟩, ⟨#[55]⟩, ⟨#[49, 48, 48, 48, 48, 48, 48, 48, 48, 48, 48, 48, 48]⟩, ⟨#[49, 48, 48, 48, 48, 48, 48, 48, 48, 48, 48, 48, 49]⟩, ⟨#[57, 57, 57, 57, 57, 57, 57, 57, 57, 57, 57, 57, 57, 57]⟩, ⟨#[49, 120]⟩, ⟨#[32, 49]⟩]
theorem parseStrs_small : ∀ y ∈ parseStrs, y.size ≤ 24 := by decide
theorem drawParse_any (W : World) (a : Option Addr) (len cap : Nat) (hl : len ≤ 1048576) (hc : CodeAt W W.heap.size a len) : Calls Tryd.prog 7 #[.slice a len cap] W (GotS 24 W) := by
  have HK := Lib.hid hc
  clear hc
  go_enter Tryd.func7, Tryd.ntmps7
  go_wp2_with fail
  go_at_call 16
  refine (new_any _ a len cap hl HK.out).mono ?_
  rintro e w1 ⟨rfl, hc1, hb1, hz1⟩
  have HC1 := Lib.hid hc1
  have HB1 := Lib.hid hb1
  clear hc1 hb1
  go_wp2_with fail
  go_at_call 17
  refine (once_any _ _ 2 (by decide) HC1.out).mono ?_
  rintro e w2 ⟨x, rfl, hc2, hg2⟩
  have HC2 := Lib.hid hc2
  have HG2 := Lib.hid hg2
  clear hc2 hg2
  cases x
  · go_wp2_with fail
    go_at_call 19
    refine (num_any _ _ HC2.out).mono ?_
    rintro e w3 ⟨y, ⟨hy0, hy1⟩, rfl, hc3, hg3⟩
    have HG3 := Lib.hid hg3
    clear hc3 hg3
    go_wp2_with (go_at_call 14; refine (specFormat_any _ _ (by omega) (by omega)).mono ?_; rintro e w4 ⟨rfl, hb4⟩; have HB4 := Lib.hid hb4; clear hb4)
    go_ret
    refine ⟨_, ?_, rfl, (HB1.out.trans (grown_below' (grown_trans HG2.out HG3.out) (by omega))).trans (HB4.out.mono (Nat.le_trans HB1.out.size (Nat.le_trans HG2.out.size HG3.out.size)))⟩
    rw [size_list]
    have := Lib.itoa_length_le y (by omega) (by omega)
    simp only
    omega
  · go_wp2_with (go_at_call 18; refine (str_new _ _ 11 parseStrs _ _ rfl rfl (by decide) (by decide) HC2.out).mono ?_; rintro e w3 ⟨y, hy, rfl, hc3, hg3⟩; have HY := Lib.hid hy; have HG3 := Lib.hid hg3; clear hc3 hg3 hy)
    go_ret
    exact ⟨_, parseStrs_small _ HY.out, rfl, HB1.out.trans (grown_below' (grown_trans HG2.out HG3.out) (by omega))⟩
end Go.Proofs.YtjijcnkgdmjnoaaDoor
