/- The walk of the law FnIntegers. -/
import Derived.Test.YtjijcnkgdmjnoaaDoorDrawInt
import Derived.Test.YtjijcnkgdmjnoaaDoorParseW
import Derived.Test.YtjijcnkgdmjnoaaDoorLaidFrom
namespace Go.Proofs.YtjijcnkgdmjnoaaDoor
open Go.RowKit
theorem num_itoa {m : Int} (h0 : 0 ≤ m) (h1 : m ≤ 1000000000000) : IsNum (⟨(Lib.itoa m).toArray⟩ : ByteArray).data.toList m.toNat := by
  refine ⟨by omega, ?_⟩
  simp only
  obtain ⟨k, rfl⟩ : ∃ k : Nat, m = (k : Int) := ⟨m.toNat, by omega⟩
  rw [Lib.itoa_nonneg]
  rfl
theorem not_num_itoa {m : Int} (h : ¬ (0 ≤ m ∧ m ≤ 1000000000000)) (n : Nat) : ¬ IsNum (⟨(Lib.itoa m).toArray⟩ : ByteArray).data.toList n := by
  rintro ⟨hn, he⟩
  simp only at he
  by_cases h0 : m < 0
  · exact itoa_ne_of_neg h0 n he
  · obtain ⟨k, rfl⟩ : ∃ k : Nat, m = (k : Int) := ⟨m.toNat, by omega⟩
    rw [Lib.itoa_nonneg] at he
    have := digits_inj he
    omega
theorem itoa_size {m : Int} (h : IsI64 m) : (⟨(Lib.itoa m).toArray⟩ : ByteArray).size ≤ 281474976710656 := by
  rw [size_list]
  have := Lib.itoa_length_le m h.1 h.2
  simp only
  omega
def ParsedTo (n : Int) (ok : Bool) (w : World) (e : Ending) (w' : World) : Prop := e = .returned (.tuple #[.int .i64 n, .bool ok]) ∧ Below w.heap.size w w'
theorem parse_itoa_in (m : Int) (h0 : 0 ≤ m) (h1 : m ≤ 1000000000000) (w : World) (ht : HasTab w) : Calls Tryd.prog 8 #[.string ⟨(Lib.itoa m).toArray⟩] w (ParsedTo m true w) :=
  (parse_yes m.toNat _ (num_itoa h0 h1) w ht).mono fun e w' ⟨he, hb⟩ => ⟨by rw [he, show ((m.toNat : Nat) : Int) = m by omega], hb⟩
theorem parse_itoa_out (m : Int) (hm : IsI64 m) (h : ¬ (0 ≤ m ∧ m ≤ 1000000000000)) (w : World) (ht : HasTab w) (he : HasErrs w) : Calls Tryd.prog 8 #[.string ⟨(Lib.itoa m).toArray⟩] w (ParsedTo 0 false w) :=
  (parse_no _ (itoa_size hm) (not_num_itoa h) w ht he).mono fun _ _ h => h
/-! CeilDiv and Mod by what they satisfy -/
def CeilOf (a b : Int) (w : World) (e : Ending) (w' : World) : Prop := ∃ q : Int, 0 ≤ q * b ∧ q * b ≤ 2000000000000 ∧ a ≤ q * b ∧ q * b < a + b ∧ e = .returned (.int .i64 q) ∧ w = w'
theorem ceil_in (a b : Int) (ha : inR a 0 1000000000000 = true) (hb : inR b 1 1000000000000 = true) (w : World) : Calls Tryd.prog 12 #[.int .i64 a, .int .i64 b] w (CeilOf a b w) := by
  obtain ⟨ha1, ha2⟩ := inR_true.1 ha
  obtain ⟨hb1, hb2⟩ := inR_true.1 hb
  refine (ceil_any a b w).mono fun e w' ⟨he, hw⟩ => ⟨ceilV a b, ?_⟩
  have e1 : ceilV a b = (a + b - 1) / b := by unfold ceilV; rw [ha, hb]; rfl
  have e2 := Int.mul_ediv_add_emod (a + b - 1) b
  have e3 := Int.emod_nonneg (a + b - 1) (show b ≠ 0 by omega)
  have e4 := Int.emod_lt_of_pos (a + b - 1) (show 0 < b by omega)
  rw [Int.mul_comm] at e2
  rw [← e1] at e2
  exact ⟨by omega, by omega, by omega, by omega, he, hw⟩
theorem ceil_out (a b : Int) (h : ¬ (inR a 0 1000000000000 = true ∧ inR b 1 1000000000000 = true)) (w : World) : Calls Tryd.prog 12 #[.int .i64 a, .int .i64 b] w fun e w' => e = .returned (.int .i64 0) ∧ w = w' := by
  refine (ceil_any a b w).mono fun e w' ⟨he, hw⟩ => ⟨?_, hw⟩
  rw [he]
  exact ret_int (by unfold ceilV; rw [if_neg (by simpa using h)])
def ModOf (a b : Int) (w : World) (e : Ending) (w' : World) : Prop := ∃ r : Int, 0 ≤ r ∧ r < b ∧ (a.tmod b - r).tmod b = 0 ∧ (a % b - r).tmod b = 0 ∧ e = .returned (.int .i64 r) ∧ w = w'
theorem mod_in (a b : Int) (ha : IsI64 a) (hb : inR b 1 1000000000000 = true) (w : World) : Calls Tryd.prog 13 #[.int .i64 a, .int .i64 b] w (ModOf a b w) := by
  obtain ⟨hb1, hb2⟩ := inR_true.1 hb
  refine (mod_any a b w ha).mono fun e w' ⟨he, hw⟩ => ⟨modV a b, ?_⟩
  have e1 : modV a b = a % b := by unfold modV; rw [if_pos hb]
  rw [e1] at he ⊢
  refine ⟨Int.emod_nonneg _ (by omega), Int.emod_lt_of_pos _ (by omega), ?_, by rw [Int.sub_self]; exact Int.zero_tmod b, he, hw⟩
  by_cases hn : a.tmod b < 0
  · rw [← tmod_neg hb1 hn, show a.tmod b - (a.tmod b + b) = -b by omega, Int.neg_tmod, Int.tmod_self]; rfl
  · rw [← tmod_pos hb1 hn, Int.sub_self]; exact Int.zero_tmod b
theorem mod_out (a b : Int) (ha : IsI64 a) (hb : inR b 1 1000000000000 = false) (w : World) : Calls Tryd.prog 13 #[.int .i64 a, .int .i64 b] w fun e w' => e = .returned (.int .i64 0) ∧ w = w' := by
  refine (mod_any a b w ha).mono fun e w' ⟨he, hw⟩ => ⟨?_, hw⟩
  rw [he]
  exact ret_int (by unfold modV; rw [if_neg (by simp [hb])])
theorem big_no (W : World) (a : Option Addr) (len cap : Nat) (hl : len ≤ 1048576) : Calls Tryd.prog 6 #[.slice a len cap] W fun e w' => e = .returned (.bool false) ∧ W = w' := by
  go_enter Tryd.func6, Tryd.ntmps6
  go_wp2
  go_ret
  exact ⟨ret_bool (by simp; omega), rfl⟩
theorem big_yes (W : World) (a : Option Addr) (len cap : Nat) (hl : ¬ len ≤ 1048576) : Calls Tryd.prog 6 #[.slice a len cap] W fun e w' => e = .returned (.bool true) ∧ W = w' := by
  go_enter Tryd.func6, Tryd.ntmps6
  go_wp2
  go_ret
  exact ⟨ret_bool (by simp; omega), rfl⟩
/-- A slice of bytes that the law keeps while others make blocks. -/
def Keeps (W : World) (a : Option Addr) (len : Nat) : Prop := CodeAt W W.heap.size a len ∧ HasTab W ∧ HasErrs W
theorem Keeps.below {W W' : World} {a : Option Addr} {len : Nat} (h : Keeps W a len) (hb : Below W.heap.size W W') : Keeps W' a len :=
  ⟨(h.1.below hb).mono hb.size, h.2.1.below hb, h.2.2.below hb⟩
def RetTrue (W : World) (e : Ending) (w' : World) : Prop := e = .returned (.bool true) ∧ Below W.heap.size W w'
set_option maxHeartbeats 4000000 in
set_option maxRecDepth 20000 in
theorem lawInt_small (a : Option Addr) (len cap : Nat) (W : World) (hl : len ≤ 1048576) (hk : Keeps W a len) :
    Calls Tryd.prog 3 #[.slice a len cap] W (RetTrue W) := by
  have HK := Lib.hid hk
  clear hk
  go_enter Tryd.func3, Tryd.ntmps3
  go_wp2_with (go_at_call 6; refine (big_no _ a len cap hl).mono ?_; rintro e w0 ⟨rfl, rfl⟩)
  go_at_call 7
  refine (drawParse_any _ a len cap hl HK.out.1).mono ?_
  rintro e w1 ⟨s, hs, rfl, hb1⟩
  have HK1 := Lib.hid (HK.out.below hb1)
  have HB1 := Lib.hid (hb1)
  clear hb1
  by_cases hn : ∃ n, IsNum s.data.toList n
  · obtain ⟨n, hn⟩ := hn
    have HN := Lib.hid hn
    have hn1 := hn.1
    clear hn
    have heq : (!Lib.itoa (n : Int) == s.toList) = false := str_eq (by rw [Lib.itoa_nonneg]; exact HN.out.2.symm)
    go_wp2_with (go_at_call 8; refine (parse_yes n s HN.out _ HK1.out.2.1).mono ?_; rintro e w2 ⟨rfl, hb2⟩; have HK2 := Lib.hid (HK1.out.below hb2); have HB2 := Lib.hid (HB1.out.trans (hb2.mono HB1.out.size)); clear hb2)
    go_at_call 9
    refine (drawFormat_any _ a len cap hl HK2.out.1).mono ?_
    rintro e w3 ⟨m, hm, rfl, hb3⟩
    have HK3 := Lib.hid (HK2.out.below hb3)
    have HB3 := Lib.hid (HB2.out.trans (hb3.mono HB2.out.size))
    clear hb3
    have HM := Lib.hid hm
    obtain ⟨hma, hmb⟩ := hm
    rcases Int.lt_or_le m 0 with hm0 | hm0
    · have HMO : Hid (¬ (0 ≤ m ∧ m ≤ 1000000000000)) := Lib.hid (by omega)
      go_wp2_with fail
      go_at_call 10
      refine (format_any m _ HM.out.1 HM.out.2 HK3.out.2.1).mono ?_
      rintro e w4 ⟨rfl, hb4⟩
      have HK4 := Lib.hid (HK3.out.below hb4)
      have HB4 := Lib.hid (HB3.out.trans (hb4.mono HB3.out.size))
      clear hb4
      go_wp2_with fail
      go_at_call 8
      refine (parse_itoa_out m HM.out HMO.out _ HK4.out.2.1 HK4.out.2.2).mono ?_
      rintro e w5 ⟨rfl, hb5⟩
      have HK5 := Lib.hid (HK4.out.below hb5)
      have HB5 := Lib.hid (HB4.out.trans (hb5.mono HB4.out.size))
      clear hb5
      go_wp2_with fail
      go_at_call 11
      refine (drawCeil_any _ a len cap hl HK5.out.1).mono ?_
      rintro e w6 ⟨x, y, hx, hy, rfl, hb6⟩
      have HK6 := Lib.hid (HK5.out.below hb6)
      have HB6 := Lib.hid (HB5.out.trans (hb6.mono HB5.out.size))
      clear hb6
      have HX := Lib.hid hx
      obtain ⟨hxa, hxb⟩ := hx
      obtain ⟨hya, hyb⟩ := hy
      by_cases hyr : inR y 1 1000000000000 = true
      · obtain ⟨hy0, hy1⟩ := inR_true.1 hyr
        have hb := tmod_bd (p := x) hy0
        obtain ⟨hbd1, hbd2⟩ := hb
        have hme0 := Int.emod_nonneg x (show y ≠ 0 by omega)
        have hme1 := Int.emod_lt_of_pos x (show 0 < y by omega)
        by_cases hxr : inR x 0 1000000000000 = true
        · obtain ⟨hx0, hx1⟩ := inR_true.1 hxr
          go_wp2_with (first | (go_at_call 12; refine (ceil_in x y hxr hyr _).mono ?_; rintro e w9 ⟨q, hq0, hq1, hq2, hq3, rfl, rfl⟩) | (go_at_call 13; refine (mod_in x y HX.out hyr _).mono ?_; rintro e w8 ⟨r, hr0, hr1, hr2, hr3, rfl, rfl⟩) | (go_at_call 10; refine (format_any _ _ (by omega) (by omega) HK6.out.2.1).mono ?_; rintro e w7 ⟨rfl, hb7⟩; have HK7 := Lib.hid (HK6.out.below hb7); have HB7 := Lib.hid (HB6.out.trans (hb7.mono HB6.out.size)); clear hb7))
          go_ret
          exact ⟨by first | rfl | exact ret_bool (by simp; omega), HB7.out⟩
        · have hxo := inR_false.1 (show inR x 0 1000000000000 = false by simpa using hxr)
          have HCO : Hid (¬ (inR x 0 1000000000000 = true ∧ inR y 1 1000000000000 = true)) := Lib.hid (fun h => hxr h.1)
          clear hxr
          by_cases hx0 : x < 0
          · go_wp2_with (first | (go_at_call 12; refine (ceil_out x y HCO.out _).mono ?_; rintro e w9 ⟨rfl, rfl⟩) | (go_at_call 13; refine (mod_in x y HX.out hyr _).mono ?_; rintro e w8 ⟨r, hr0, hr1, hr2, hr3, rfl, rfl⟩) | (go_at_call 10; refine (format_any _ _ (by omega) (by omega) HK6.out.2.1).mono ?_; rintro e w7 ⟨rfl, hb7⟩; have HK7 := Lib.hid (HK6.out.below hb7); have HB7 := Lib.hid (HB6.out.trans (hb7.mono HB6.out.size)); clear hb7))
            go_ret
            exact ⟨by first | rfl | exact ret_bool (by simp; omega), HB7.out⟩
          · go_wp2_with (first | (go_at_call 12; refine (ceil_out x y HCO.out _).mono ?_; rintro e w9 ⟨rfl, rfl⟩) | (go_at_call 13; refine (mod_in x y HX.out hyr _).mono ?_; rintro e w8 ⟨r, hr0, hr1, hr2, hr3, rfl, rfl⟩) | (go_at_call 10; refine (format_any _ _ (by omega) (by omega) HK6.out.2.1).mono ?_; rintro e w7 ⟨rfl, hb7⟩; have HK7 := Lib.hid (HK6.out.below hb7); have HB7 := Lib.hid (HB6.out.trans (hb7.mono HB6.out.size)); clear hb7))
            go_ret
            exact ⟨by first | rfl | exact ret_bool (by simp; omega), HB7.out⟩
      · have hyo := inR_false.1 (show inR y 1 1000000000000 = false by simpa using hyr)
        have HCO : Hid (¬ (inR x 0 1000000000000 = true ∧ inR y 1 1000000000000 = true)) := Lib.hid (fun h => hyr h.2)
        have HYO : Hid (inR y 1 1000000000000 = false) := Lib.hid (by simpa using hyr)
        clear hyr
        by_cases hy0 : y < 1
        · go_wp2_with (first | (go_at_call 12; refine (ceil_out x y HCO.out _).mono ?_; rintro e w9 ⟨rfl, rfl⟩) | (go_at_call 13; refine (mod_out x y HX.out HYO.out _).mono ?_; rintro e w8 ⟨rfl, rfl⟩) | (go_at_call 10; refine (format_any _ _ (by omega) (by omega) HK6.out.2.1).mono ?_; rintro e w7 ⟨rfl, hb7⟩; have HK7 := Lib.hid (HK6.out.below hb7); have HB7 := Lib.hid (HB6.out.trans (hb7.mono HB6.out.size)); clear hb7))
          go_ret
          exact ⟨by first | rfl | exact ret_bool (by simp; omega), HB7.out⟩
        · go_wp2_with (first | (go_at_call 12; refine (ceil_out x y HCO.out _).mono ?_; rintro e w9 ⟨rfl, rfl⟩) | (go_at_call 13; refine (mod_out x y HX.out HYO.out _).mono ?_; rintro e w8 ⟨rfl, rfl⟩) | (go_at_call 10; refine (format_any _ _ (by omega) (by omega) HK6.out.2.1).mono ?_; rintro e w7 ⟨rfl, hb7⟩; have HK7 := Lib.hid (HK6.out.below hb7); have HB7 := Lib.hid (HB6.out.trans (hb7.mono HB6.out.size)); clear hb7))
          go_ret
          exact ⟨by first | rfl | exact ret_bool (by simp; omega), HB7.out⟩
    · rcases Int.lt_or_le 1000000000000 m with hm1 | hm1
      · have HMO : Hid (¬ (0 ≤ m ∧ m ≤ 1000000000000)) := Lib.hid (by omega)
        go_wp2_with fail
        go_at_call 10
        refine (format_any m _ HM.out.1 HM.out.2 HK3.out.2.1).mono ?_
        rintro e w4 ⟨rfl, hb4⟩
        have HK4 := Lib.hid (HK3.out.below hb4)
        have HB4 := Lib.hid (HB3.out.trans (hb4.mono HB3.out.size))
        clear hb4
        go_wp2_with fail
        go_at_call 8
        refine (parse_itoa_out m HM.out HMO.out _ HK4.out.2.1 HK4.out.2.2).mono ?_
        rintro e w5 ⟨rfl, hb5⟩
        have HK5 := Lib.hid (HK4.out.below hb5)
        have HB5 := Lib.hid (HB4.out.trans (hb5.mono HB4.out.size))
        clear hb5
        go_wp2_with fail
        go_at_call 11
        refine (drawCeil_any _ a len cap hl HK5.out.1).mono ?_
        rintro e w6 ⟨x, y, hx, hy, rfl, hb6⟩
        have HK6 := Lib.hid (HK5.out.below hb6)
        have HB6 := Lib.hid (HB5.out.trans (hb6.mono HB5.out.size))
        clear hb6
        have HX := Lib.hid hx
        obtain ⟨hxa, hxb⟩ := hx
        obtain ⟨hya, hyb⟩ := hy
        by_cases hyr : inR y 1 1000000000000 = true
        · obtain ⟨hy0, hy1⟩ := inR_true.1 hyr
          have hb := tmod_bd (p := x) hy0
          obtain ⟨hbd1, hbd2⟩ := hb
          have hme0 := Int.emod_nonneg x (show y ≠ 0 by omega)
          have hme1 := Int.emod_lt_of_pos x (show 0 < y by omega)
          by_cases hxr : inR x 0 1000000000000 = true
          · obtain ⟨hx0, hx1⟩ := inR_true.1 hxr
            go_wp2_with (first | (go_at_call 12; refine (ceil_in x y hxr hyr _).mono ?_; rintro e w9 ⟨q, hq0, hq1, hq2, hq3, rfl, rfl⟩) | (go_at_call 13; refine (mod_in x y HX.out hyr _).mono ?_; rintro e w8 ⟨r, hr0, hr1, hr2, hr3, rfl, rfl⟩) | (go_at_call 10; refine (format_any _ _ (by omega) (by omega) HK6.out.2.1).mono ?_; rintro e w7 ⟨rfl, hb7⟩; have HK7 := Lib.hid (HK6.out.below hb7); have HB7 := Lib.hid (HB6.out.trans (hb7.mono HB6.out.size)); clear hb7))
            go_ret
            exact ⟨by first | rfl | exact ret_bool (by simp; omega), HB7.out⟩
          · have hxo := inR_false.1 (show inR x 0 1000000000000 = false by simpa using hxr)
            have HCO : Hid (¬ (inR x 0 1000000000000 = true ∧ inR y 1 1000000000000 = true)) := Lib.hid (fun h => hxr h.1)
            clear hxr
            by_cases hx0 : x < 0
            · go_wp2_with (first | (go_at_call 12; refine (ceil_out x y HCO.out _).mono ?_; rintro e w9 ⟨rfl, rfl⟩) | (go_at_call 13; refine (mod_in x y HX.out hyr _).mono ?_; rintro e w8 ⟨r, hr0, hr1, hr2, hr3, rfl, rfl⟩) | (go_at_call 10; refine (format_any _ _ (by omega) (by omega) HK6.out.2.1).mono ?_; rintro e w7 ⟨rfl, hb7⟩; have HK7 := Lib.hid (HK6.out.below hb7); have HB7 := Lib.hid (HB6.out.trans (hb7.mono HB6.out.size)); clear hb7))
              go_ret
              exact ⟨by first | rfl | exact ret_bool (by simp; omega), HB7.out⟩
            · go_wp2_with (first | (go_at_call 12; refine (ceil_out x y HCO.out _).mono ?_; rintro e w9 ⟨rfl, rfl⟩) | (go_at_call 13; refine (mod_in x y HX.out hyr _).mono ?_; rintro e w8 ⟨r, hr0, hr1, hr2, hr3, rfl, rfl⟩) | (go_at_call 10; refine (format_any _ _ (by omega) (by omega) HK6.out.2.1).mono ?_; rintro e w7 ⟨rfl, hb7⟩; have HK7 := Lib.hid (HK6.out.below hb7); have HB7 := Lib.hid (HB6.out.trans (hb7.mono HB6.out.size)); clear hb7))
              go_ret
              exact ⟨by first | rfl | exact ret_bool (by simp; omega), HB7.out⟩
        · have hyo := inR_false.1 (show inR y 1 1000000000000 = false by simpa using hyr)
          have HCO : Hid (¬ (inR x 0 1000000000000 = true ∧ inR y 1 1000000000000 = true)) := Lib.hid (fun h => hyr h.2)
          have HYO : Hid (inR y 1 1000000000000 = false) := Lib.hid (by simpa using hyr)
          clear hyr
          by_cases hy0 : y < 1
          · go_wp2_with (first | (go_at_call 12; refine (ceil_out x y HCO.out _).mono ?_; rintro e w9 ⟨rfl, rfl⟩) | (go_at_call 13; refine (mod_out x y HX.out HYO.out _).mono ?_; rintro e w8 ⟨rfl, rfl⟩) | (go_at_call 10; refine (format_any _ _ (by omega) (by omega) HK6.out.2.1).mono ?_; rintro e w7 ⟨rfl, hb7⟩; have HK7 := Lib.hid (HK6.out.below hb7); have HB7 := Lib.hid (HB6.out.trans (hb7.mono HB6.out.size)); clear hb7))
            go_ret
            exact ⟨by first | rfl | exact ret_bool (by simp; omega), HB7.out⟩
          · go_wp2_with (first | (go_at_call 12; refine (ceil_out x y HCO.out _).mono ?_; rintro e w9 ⟨rfl, rfl⟩) | (go_at_call 13; refine (mod_out x y HX.out HYO.out _).mono ?_; rintro e w8 ⟨rfl, rfl⟩) | (go_at_call 10; refine (format_any _ _ (by omega) (by omega) HK6.out.2.1).mono ?_; rintro e w7 ⟨rfl, hb7⟩; have HK7 := Lib.hid (HK6.out.below hb7); have HB7 := Lib.hid (HB6.out.trans (hb7.mono HB6.out.size)); clear hb7))
            go_ret
            exact ⟨by first | rfl | exact ret_bool (by simp; omega), HB7.out⟩
      · skip
        go_wp2_with fail
        go_at_call 10
        refine (format_any m _ HM.out.1 HM.out.2 HK3.out.2.1).mono ?_
        rintro e w4 ⟨rfl, hb4⟩
        have HK4 := Lib.hid (HK3.out.below hb4)
        have HB4 := Lib.hid (HB3.out.trans (hb4.mono HB3.out.size))
        clear hb4
        go_wp2_with fail
        go_at_call 8
        refine (parse_itoa_in m hm0 hm1 _ HK4.out.2.1).mono ?_
        rintro e w5 ⟨rfl, hb5⟩
        have HK5 := Lib.hid (HK4.out.below hb5)
        have HB5 := Lib.hid (HB4.out.trans (hb5.mono HB4.out.size))
        clear hb5
        go_wp2_with fail
        go_at_call 11
        refine (drawCeil_any _ a len cap hl HK5.out.1).mono ?_
        rintro e w6 ⟨x, y, hx, hy, rfl, hb6⟩
        have HK6 := Lib.hid (HK5.out.below hb6)
        have HB6 := Lib.hid (HB5.out.trans (hb6.mono HB5.out.size))
        clear hb6
        have HX := Lib.hid hx
        obtain ⟨hxa, hxb⟩ := hx
        obtain ⟨hya, hyb⟩ := hy
        by_cases hyr : inR y 1 1000000000000 = true
        · obtain ⟨hy0, hy1⟩ := inR_true.1 hyr
          have hb := tmod_bd (p := x) hy0
          obtain ⟨hbd1, hbd2⟩ := hb
          have hme0 := Int.emod_nonneg x (show y ≠ 0 by omega)
          have hme1 := Int.emod_lt_of_pos x (show 0 < y by omega)
          by_cases hxr : inR x 0 1000000000000 = true
          · obtain ⟨hx0, hx1⟩ := inR_true.1 hxr
            go_wp2_with (first | (go_at_call 12; refine (ceil_in x y hxr hyr _).mono ?_; rintro e w9 ⟨q, hq0, hq1, hq2, hq3, rfl, rfl⟩) | (go_at_call 13; refine (mod_in x y HX.out hyr _).mono ?_; rintro e w8 ⟨r, hr0, hr1, hr2, hr3, rfl, rfl⟩) | (go_at_call 10; refine (format_any _ _ (by omega) (by omega) HK6.out.2.1).mono ?_; rintro e w7 ⟨rfl, hb7⟩; have HK7 := Lib.hid (HK6.out.below hb7); have HB7 := Lib.hid (HB6.out.trans (hb7.mono HB6.out.size)); clear hb7))
            go_ret
            exact ⟨by first | rfl | exact ret_bool (by simp; omega), HB7.out⟩
          · have hxo := inR_false.1 (show inR x 0 1000000000000 = false by simpa using hxr)
            have HCO : Hid (¬ (inR x 0 1000000000000 = true ∧ inR y 1 1000000000000 = true)) := Lib.hid (fun h => hxr h.1)
            clear hxr
            by_cases hx0 : x < 0
            · go_wp2_with (first | (go_at_call 12; refine (ceil_out x y HCO.out _).mono ?_; rintro e w9 ⟨rfl, rfl⟩) | (go_at_call 13; refine (mod_in x y HX.out hyr _).mono ?_; rintro e w8 ⟨r, hr0, hr1, hr2, hr3, rfl, rfl⟩) | (go_at_call 10; refine (format_any _ _ (by omega) (by omega) HK6.out.2.1).mono ?_; rintro e w7 ⟨rfl, hb7⟩; have HK7 := Lib.hid (HK6.out.below hb7); have HB7 := Lib.hid (HB6.out.trans (hb7.mono HB6.out.size)); clear hb7))
              go_ret
              exact ⟨by first | rfl | exact ret_bool (by simp; omega), HB7.out⟩
            · go_wp2_with (first | (go_at_call 12; refine (ceil_out x y HCO.out _).mono ?_; rintro e w9 ⟨rfl, rfl⟩) | (go_at_call 13; refine (mod_in x y HX.out hyr _).mono ?_; rintro e w8 ⟨r, hr0, hr1, hr2, hr3, rfl, rfl⟩) | (go_at_call 10; refine (format_any _ _ (by omega) (by omega) HK6.out.2.1).mono ?_; rintro e w7 ⟨rfl, hb7⟩; have HK7 := Lib.hid (HK6.out.below hb7); have HB7 := Lib.hid (HB6.out.trans (hb7.mono HB6.out.size)); clear hb7))
              go_ret
              exact ⟨by first | rfl | exact ret_bool (by simp; omega), HB7.out⟩
        · have hyo := inR_false.1 (show inR y 1 1000000000000 = false by simpa using hyr)
          have HCO : Hid (¬ (inR x 0 1000000000000 = true ∧ inR y 1 1000000000000 = true)) := Lib.hid (fun h => hyr h.2)
          have HYO : Hid (inR y 1 1000000000000 = false) := Lib.hid (by simpa using hyr)
          clear hyr
          by_cases hy0 : y < 1
          · go_wp2_with (first | (go_at_call 12; refine (ceil_out x y HCO.out _).mono ?_; rintro e w9 ⟨rfl, rfl⟩) | (go_at_call 13; refine (mod_out x y HX.out HYO.out _).mono ?_; rintro e w8 ⟨rfl, rfl⟩) | (go_at_call 10; refine (format_any _ _ (by omega) (by omega) HK6.out.2.1).mono ?_; rintro e w7 ⟨rfl, hb7⟩; have HK7 := Lib.hid (HK6.out.below hb7); have HB7 := Lib.hid (HB6.out.trans (hb7.mono HB6.out.size)); clear hb7))
            go_ret
            exact ⟨by first | rfl | exact ret_bool (by simp; omega), HB7.out⟩
          · go_wp2_with (first | (go_at_call 12; refine (ceil_out x y HCO.out _).mono ?_; rintro e w9 ⟨rfl, rfl⟩) | (go_at_call 13; refine (mod_out x y HX.out HYO.out _).mono ?_; rintro e w8 ⟨rfl, rfl⟩) | (go_at_call 10; refine (format_any _ _ (by omega) (by omega) HK6.out.2.1).mono ?_; rintro e w7 ⟨rfl, hb7⟩; have HK7 := Lib.hid (HK6.out.below hb7); have HB7 := Lib.hid (HB6.out.trans (hb7.mono HB6.out.size)); clear hb7))
            go_ret
            exact ⟨by first | rfl | exact ret_bool (by simp; omega), HB7.out⟩
  · have HN : Hid (∀ n, ¬ IsNum s.data.toList n) := Lib.hid (fun n h => hn ⟨n, h⟩)
    clear hn
    go_wp2_with (go_at_call 8; refine (parse_no s (by omega) HN.out _ HK1.out.2.1 HK1.out.2.2).mono ?_; rintro e w2 ⟨rfl, hb2⟩; have HK2 := Lib.hid (HK1.out.below hb2); have HB2 := Lib.hid (HB1.out.trans (hb2.mono HB1.out.size)); clear hb2)
    go_at_call 9
    refine (drawFormat_any _ a len cap hl HK2.out.1).mono ?_
    rintro e w3 ⟨m, hm, rfl, hb3⟩
    have HK3 := Lib.hid (HK2.out.below hb3)
    have HB3 := Lib.hid (HB2.out.trans (hb3.mono HB2.out.size))
    clear hb3
    have HM := Lib.hid hm
    obtain ⟨hma, hmb⟩ := hm
    rcases Int.lt_or_le m 0 with hm0 | hm0
    · have HMO : Hid (¬ (0 ≤ m ∧ m ≤ 1000000000000)) := Lib.hid (by omega)
      go_wp2_with fail
      go_at_call 10
      refine (format_any m _ HM.out.1 HM.out.2 HK3.out.2.1).mono ?_
      rintro e w4 ⟨rfl, hb4⟩
      have HK4 := Lib.hid (HK3.out.below hb4)
      have HB4 := Lib.hid (HB3.out.trans (hb4.mono HB3.out.size))
      clear hb4
      go_wp2_with fail
      go_at_call 8
      refine (parse_itoa_out m HM.out HMO.out _ HK4.out.2.1 HK4.out.2.2).mono ?_
      rintro e w5 ⟨rfl, hb5⟩
      have HK5 := Lib.hid (HK4.out.below hb5)
      have HB5 := Lib.hid (HB4.out.trans (hb5.mono HB4.out.size))
      clear hb5
      go_wp2_with fail
      go_at_call 11
      refine (drawCeil_any _ a len cap hl HK5.out.1).mono ?_
      rintro e w6 ⟨x, y, hx, hy, rfl, hb6⟩
      have HK6 := Lib.hid (HK5.out.below hb6)
      have HB6 := Lib.hid (HB5.out.trans (hb6.mono HB5.out.size))
      clear hb6
      have HX := Lib.hid hx
      obtain ⟨hxa, hxb⟩ := hx
      obtain ⟨hya, hyb⟩ := hy
      by_cases hyr : inR y 1 1000000000000 = true
      · obtain ⟨hy0, hy1⟩ := inR_true.1 hyr
        have hb := tmod_bd (p := x) hy0
        obtain ⟨hbd1, hbd2⟩ := hb
        have hme0 := Int.emod_nonneg x (show y ≠ 0 by omega)
        have hme1 := Int.emod_lt_of_pos x (show 0 < y by omega)
        by_cases hxr : inR x 0 1000000000000 = true
        · obtain ⟨hx0, hx1⟩ := inR_true.1 hxr
          go_wp2_with (first | (go_at_call 12; refine (ceil_in x y hxr hyr _).mono ?_; rintro e w9 ⟨q, hq0, hq1, hq2, hq3, rfl, rfl⟩) | (go_at_call 13; refine (mod_in x y HX.out hyr _).mono ?_; rintro e w8 ⟨r, hr0, hr1, hr2, hr3, rfl, rfl⟩))
          go_ret
          exact ⟨by first | rfl | exact ret_bool (by simp; omega), HB6.out⟩
        · have hxo := inR_false.1 (show inR x 0 1000000000000 = false by simpa using hxr)
          have HCO : Hid (¬ (inR x 0 1000000000000 = true ∧ inR y 1 1000000000000 = true)) := Lib.hid (fun h => hxr h.1)
          clear hxr
          by_cases hx0 : x < 0
          · go_wp2_with (first | (go_at_call 12; refine (ceil_out x y HCO.out _).mono ?_; rintro e w9 ⟨rfl, rfl⟩) | (go_at_call 13; refine (mod_in x y HX.out hyr _).mono ?_; rintro e w8 ⟨r, hr0, hr1, hr2, hr3, rfl, rfl⟩))
            go_ret
            exact ⟨by first | rfl | exact ret_bool (by simp; omega), HB6.out⟩
          · go_wp2_with (first | (go_at_call 12; refine (ceil_out x y HCO.out _).mono ?_; rintro e w9 ⟨rfl, rfl⟩) | (go_at_call 13; refine (mod_in x y HX.out hyr _).mono ?_; rintro e w8 ⟨r, hr0, hr1, hr2, hr3, rfl, rfl⟩))
            go_ret
            exact ⟨by first | rfl | exact ret_bool (by simp; omega), HB6.out⟩
      · have hyo := inR_false.1 (show inR y 1 1000000000000 = false by simpa using hyr)
        have HCO : Hid (¬ (inR x 0 1000000000000 = true ∧ inR y 1 1000000000000 = true)) := Lib.hid (fun h => hyr h.2)
        have HYO : Hid (inR y 1 1000000000000 = false) := Lib.hid (by simpa using hyr)
        clear hyr
        by_cases hy0 : y < 1
        · go_wp2_with (first | (go_at_call 12; refine (ceil_out x y HCO.out _).mono ?_; rintro e w9 ⟨rfl, rfl⟩) | (go_at_call 13; refine (mod_out x y HX.out HYO.out _).mono ?_; rintro e w8 ⟨rfl, rfl⟩))
          go_ret
          exact ⟨by first | rfl | exact ret_bool (by simp; omega), HB6.out⟩
        · go_wp2_with (first | (go_at_call 12; refine (ceil_out x y HCO.out _).mono ?_; rintro e w9 ⟨rfl, rfl⟩) | (go_at_call 13; refine (mod_out x y HX.out HYO.out _).mono ?_; rintro e w8 ⟨rfl, rfl⟩))
          go_ret
          exact ⟨by first | rfl | exact ret_bool (by simp; omega), HB6.out⟩
    · rcases Int.lt_or_le 1000000000000 m with hm1 | hm1
      · have HMO : Hid (¬ (0 ≤ m ∧ m ≤ 1000000000000)) := Lib.hid (by omega)
        go_wp2_with fail
        go_at_call 10
        refine (format_any m _ HM.out.1 HM.out.2 HK3.out.2.1).mono ?_
        rintro e w4 ⟨rfl, hb4⟩
        have HK4 := Lib.hid (HK3.out.below hb4)
        have HB4 := Lib.hid (HB3.out.trans (hb4.mono HB3.out.size))
        clear hb4
        go_wp2_with fail
        go_at_call 8
        refine (parse_itoa_out m HM.out HMO.out _ HK4.out.2.1 HK4.out.2.2).mono ?_
        rintro e w5 ⟨rfl, hb5⟩
        have HK5 := Lib.hid (HK4.out.below hb5)
        have HB5 := Lib.hid (HB4.out.trans (hb5.mono HB4.out.size))
        clear hb5
        go_wp2_with fail
        go_at_call 11
        refine (drawCeil_any _ a len cap hl HK5.out.1).mono ?_
        rintro e w6 ⟨x, y, hx, hy, rfl, hb6⟩
        have HK6 := Lib.hid (HK5.out.below hb6)
        have HB6 := Lib.hid (HB5.out.trans (hb6.mono HB5.out.size))
        clear hb6
        have HX := Lib.hid hx
        obtain ⟨hxa, hxb⟩ := hx
        obtain ⟨hya, hyb⟩ := hy
        by_cases hyr : inR y 1 1000000000000 = true
        · obtain ⟨hy0, hy1⟩ := inR_true.1 hyr
          have hb := tmod_bd (p := x) hy0
          obtain ⟨hbd1, hbd2⟩ := hb
          have hme0 := Int.emod_nonneg x (show y ≠ 0 by omega)
          have hme1 := Int.emod_lt_of_pos x (show 0 < y by omega)
          by_cases hxr : inR x 0 1000000000000 = true
          · obtain ⟨hx0, hx1⟩ := inR_true.1 hxr
            go_wp2_with (first | (go_at_call 12; refine (ceil_in x y hxr hyr _).mono ?_; rintro e w9 ⟨q, hq0, hq1, hq2, hq3, rfl, rfl⟩) | (go_at_call 13; refine (mod_in x y HX.out hyr _).mono ?_; rintro e w8 ⟨r, hr0, hr1, hr2, hr3, rfl, rfl⟩))
            go_ret
            exact ⟨by first | rfl | exact ret_bool (by simp; omega), HB6.out⟩
          · have hxo := inR_false.1 (show inR x 0 1000000000000 = false by simpa using hxr)
            have HCO : Hid (¬ (inR x 0 1000000000000 = true ∧ inR y 1 1000000000000 = true)) := Lib.hid (fun h => hxr h.1)
            clear hxr
            by_cases hx0 : x < 0
            · go_wp2_with (first | (go_at_call 12; refine (ceil_out x y HCO.out _).mono ?_; rintro e w9 ⟨rfl, rfl⟩) | (go_at_call 13; refine (mod_in x y HX.out hyr _).mono ?_; rintro e w8 ⟨r, hr0, hr1, hr2, hr3, rfl, rfl⟩))
              go_ret
              exact ⟨by first | rfl | exact ret_bool (by simp; omega), HB6.out⟩
            · go_wp2_with (first | (go_at_call 12; refine (ceil_out x y HCO.out _).mono ?_; rintro e w9 ⟨rfl, rfl⟩) | (go_at_call 13; refine (mod_in x y HX.out hyr _).mono ?_; rintro e w8 ⟨r, hr0, hr1, hr2, hr3, rfl, rfl⟩))
              go_ret
              exact ⟨by first | rfl | exact ret_bool (by simp; omega), HB6.out⟩
        · have hyo := inR_false.1 (show inR y 1 1000000000000 = false by simpa using hyr)
          have HCO : Hid (¬ (inR x 0 1000000000000 = true ∧ inR y 1 1000000000000 = true)) := Lib.hid (fun h => hyr h.2)
          have HYO : Hid (inR y 1 1000000000000 = false) := Lib.hid (by simpa using hyr)
          clear hyr
          by_cases hy0 : y < 1
          · go_wp2_with (first | (go_at_call 12; refine (ceil_out x y HCO.out _).mono ?_; rintro e w9 ⟨rfl, rfl⟩) | (go_at_call 13; refine (mod_out x y HX.out HYO.out _).mono ?_; rintro e w8 ⟨rfl, rfl⟩))
            go_ret
            exact ⟨by first | rfl | exact ret_bool (by simp; omega), HB6.out⟩
          · go_wp2_with (first | (go_at_call 12; refine (ceil_out x y HCO.out _).mono ?_; rintro e w9 ⟨rfl, rfl⟩) | (go_at_call 13; refine (mod_out x y HX.out HYO.out _).mono ?_; rintro e w8 ⟨rfl, rfl⟩))
            go_ret
            exact ⟨by first | rfl | exact ret_bool (by simp; omega), HB6.out⟩
      · skip
        go_wp2_with fail
        go_at_call 10
        refine (format_any m _ HM.out.1 HM.out.2 HK3.out.2.1).mono ?_
        rintro e w4 ⟨rfl, hb4⟩
        have HK4 := Lib.hid (HK3.out.below hb4)
        have HB4 := Lib.hid (HB3.out.trans (hb4.mono HB3.out.size))
        clear hb4
        go_wp2_with fail
        go_at_call 8
        refine (parse_itoa_in m hm0 hm1 _ HK4.out.2.1).mono ?_
        rintro e w5 ⟨rfl, hb5⟩
        have HK5 := Lib.hid (HK4.out.below hb5)
        have HB5 := Lib.hid (HB4.out.trans (hb5.mono HB4.out.size))
        clear hb5
        go_wp2_with fail
        go_at_call 11
        refine (drawCeil_any _ a len cap hl HK5.out.1).mono ?_
        rintro e w6 ⟨x, y, hx, hy, rfl, hb6⟩
        have HK6 := Lib.hid (HK5.out.below hb6)
        have HB6 := Lib.hid (HB5.out.trans (hb6.mono HB5.out.size))
        clear hb6
        have HX := Lib.hid hx
        obtain ⟨hxa, hxb⟩ := hx
        obtain ⟨hya, hyb⟩ := hy
        by_cases hyr : inR y 1 1000000000000 = true
        · obtain ⟨hy0, hy1⟩ := inR_true.1 hyr
          have hb := tmod_bd (p := x) hy0
          obtain ⟨hbd1, hbd2⟩ := hb
          have hme0 := Int.emod_nonneg x (show y ≠ 0 by omega)
          have hme1 := Int.emod_lt_of_pos x (show 0 < y by omega)
          by_cases hxr : inR x 0 1000000000000 = true
          · obtain ⟨hx0, hx1⟩ := inR_true.1 hxr
            go_wp2_with (first | (go_at_call 12; refine (ceil_in x y hxr hyr _).mono ?_; rintro e w9 ⟨q, hq0, hq1, hq2, hq3, rfl, rfl⟩) | (go_at_call 13; refine (mod_in x y HX.out hyr _).mono ?_; rintro e w8 ⟨r, hr0, hr1, hr2, hr3, rfl, rfl⟩))
            go_ret
            exact ⟨by first | rfl | exact ret_bool (by simp; omega), HB6.out⟩
          · have hxo := inR_false.1 (show inR x 0 1000000000000 = false by simpa using hxr)
            have HCO : Hid (¬ (inR x 0 1000000000000 = true ∧ inR y 1 1000000000000 = true)) := Lib.hid (fun h => hxr h.1)
            clear hxr
            by_cases hx0 : x < 0
            · go_wp2_with (first | (go_at_call 12; refine (ceil_out x y HCO.out _).mono ?_; rintro e w9 ⟨rfl, rfl⟩) | (go_at_call 13; refine (mod_in x y HX.out hyr _).mono ?_; rintro e w8 ⟨r, hr0, hr1, hr2, hr3, rfl, rfl⟩))
              go_ret
              exact ⟨by first | rfl | exact ret_bool (by simp; omega), HB6.out⟩
            · go_wp2_with (first | (go_at_call 12; refine (ceil_out x y HCO.out _).mono ?_; rintro e w9 ⟨rfl, rfl⟩) | (go_at_call 13; refine (mod_in x y HX.out hyr _).mono ?_; rintro e w8 ⟨r, hr0, hr1, hr2, hr3, rfl, rfl⟩))
              go_ret
              exact ⟨by first | rfl | exact ret_bool (by simp; omega), HB6.out⟩
        · have hyo := inR_false.1 (show inR y 1 1000000000000 = false by simpa using hyr)
          have HCO : Hid (¬ (inR x 0 1000000000000 = true ∧ inR y 1 1000000000000 = true)) := Lib.hid (fun h => hyr h.2)
          have HYO : Hid (inR y 1 1000000000000 = false) := Lib.hid (by simpa using hyr)
          clear hyr
          by_cases hy0 : y < 1
          · go_wp2_with (first | (go_at_call 12; refine (ceil_out x y HCO.out _).mono ?_; rintro e w9 ⟨rfl, rfl⟩) | (go_at_call 13; refine (mod_out x y HX.out HYO.out _).mono ?_; rintro e w8 ⟨rfl, rfl⟩))
            go_ret
            exact ⟨by first | rfl | exact ret_bool (by simp; omega), HB6.out⟩
          · go_wp2_with (first | (go_at_call 12; refine (ceil_out x y HCO.out _).mono ?_; rintro e w9 ⟨rfl, rfl⟩) | (go_at_call 13; refine (mod_out x y HX.out HYO.out _).mono ?_; rintro e w8 ⟨rfl, rfl⟩))
            go_ret
            exact ⟨by first | rfl | exact ret_bool (by simp; omega), HB6.out⟩
theorem lawInt_walk (a : Option Addr) (len cap : Nat) (z : List Int) (W : World) (w0 : IsRow .u8 W a len cap z) (hT : HasTab W) (hE : HasErrs W) :
    Calls Tryd.prog 3 #[.slice a len cap] W (RetTrue W) := by
  by_cases hl : len ≤ 1048576
  · exact lawInt_small a len cap W hl ⟨code_of w0, hT, hE⟩
  · clear w0 hT hE
    go_enter Tryd.func3, Tryd.ntmps3
    go_wp2_with (go_at_call 6; refine (big_yes _ a len cap hl).mono ?_; rintro e w0 ⟨rfl, rfl⟩)
    go_ret
    exact ⟨rfl, Below.refl _ _⟩
end Go.Proofs.YtjijcnkgdmjnoaaDoor
