/- The contracts of FormatInt and ParseInt, the program's and the model's. -/
import Derived.Test.YtjijcnkgdmjnoaaDoorLaid
import Derived.Test.YtjijcnkgdmjnoaaDoorNumLib
import Derived.Test.YtjijcnkgdmjnoaaDoorFmtW
import Derived.Test.YtjijcnkgdmjnoaaDoorIntW
import Derived.Test.YtjijcnkgdmjnoaaDoorShelf
namespace Go.Proofs.YtjijcnkgdmjnoaaDoor
open Go.RowKit Go.Sort
theorem below_grow (w : World) (k : Nat) (os : Array Obj) : Below w.heap.size w (grow (w.drewN k) os) := ⟨rfl, rfl, rfl, by first | (simp [grow]; done) | (simp [grow]; omega), fun i hi => by show ((w.drewN k).heap ++ os)[i]? = _; rw [Array.getElem?_append_left (by show i < w.heap.size; omega)]; rfl⟩
theorem format_any (n : Int) (w : World) (h1 : -9223372036854775808 ≤ n) (h2 : n ≤ 9223372036854775807) (ht : HasTab w) : Calls Tryd.prog 10 #[.int .i64 n] w fun e w' => e = .returned (.string ⟨(Lib.itoa n).toArray⟩) ∧ Below w.heap.size w w' := by
  go_enter Tryd.func10, Tryd.ntmps10
  go_wp2_with (go_at_call 23; refine (Tryd.strconv_Itoa n h1 h2 _ ht.1).mono ?_; rintro e w' ⟨rfl, k, os, rfl⟩)
  go_ret
  exact ⟨rfl, below_grow w k os⟩
theorem atoi_ok (s : ByteArray) (hmax : s.size ≤ 281474976710656) (v : Int) (h : Lib.atoiAll s.data.toList = .ok v) (w : World) : Calls Tryd.prog 20 #[.string s] w fun e w' => e = .returned (.tuple #[.int .i64 v, .nilIface]) ∧ Below w.heap.size w w' :=
  (Tryd.strconv_Atoi_ok s (by omega) v h w).mono fun e w' ⟨he, hw⟩ => ⟨he, by
    rcases hw with rfl | ⟨t, rfl⟩
    · exact Below.refl _ _
    · exact Lib.bytesWorld_below _ _ _⟩
/-- A parse that fails: an error that is not nil. -/
def Fails (w : World) (e : Ending) (w' : World) : Prop := ∃ v t p, e = .returned (.tuple #[.int .i64 v, .iface t p]) ∧ Below w.heap.size w w'
theorem atoi_fail (s : ByteArray) (hmax : s.size ≤ 281474976710656) (h : ∀ v, Lib.atoiAll s.data.toList ≠ .ok v) (w : World) (he : HasErrs w) : Calls Tryd.prog 20 #[.string s] w (Fails w) := by
  obtain ⟨⟨t1, p1, h1⟩, ⟨t2, p2, h2⟩, _, _⟩ := he
  cases hc : Lib.atoiAll s.data.toList
  · exact absurd hc (h _)
  · exact (Any.strconv_Atoi_syntax_var Tryd.laysC172 s hmax hc t1 p1 w h1).mono fun e w' ⟨N, he, _, _, hb⟩ => ⟨_, _, _, he, hb⟩
  · exact (Any.strconv_Atoi_range_var Tryd.laysC172 s hmax hc t2 p2 w h2).mono fun e w' ⟨N, he, _, _, hb⟩ => ⟨_, _, _, he, hb⟩
theorem parse_yes (n : Nat) (s : ByteArray) (h : IsNum s.data.toList n) (w : World) (ht : HasTab w) : Calls Tryd.prog 8 #[.string s] w fun e w' => e = .returned (.tuple #[.int .i64 n, .bool true]) ∧ Below w.heap.size w w' := by
  have hn := h.1
  have hlen : s.size ≤ 281474976710656 := by rw [size_list, h.2]; have := digits_len hn; omega
  have ha : Lib.atoiAll s.data.toList = .ok (n : Int) := by rw [h.2]; exact atoiAll_digits hn
  obtain rfl : s = ⟨(Lib.decDigits n).toArray⟩ := ba_eq h.2
  have HA := Lib.hid ha
  have hr : inR n 0 1000000000000 = true := inR_true.2 (by omega)
  have hi : Lib.itoa n = Lib.decDigits n := Lib.itoa_nonneg n
  have HT := Lib.hid ht
  clear ha h ht
  go_enter Tryd.func8, Tryd.ntmps8
  go_wp2_with (first | (go_at_call 20; refine (atoi_ok _ hlen _ HA.out _).mono ?_; rintro e w1 ⟨rfl, hb1⟩; have HB1 := Lib.hid hb1; have HT1 := Lib.hid (HT.out.below hb1); clear hb1) | (go_at_call 21; refine (inRange_any _ _ _ _).mono ?_; rintro e w2 ⟨rfl, rfl⟩) | (go_at_call 10; refine (format_any _ _ (by omega) (by omega) HT1.out).mono ?_; rintro e w2 ⟨rfl, hb2⟩; have HB2 := Lib.hid hb2; clear hb2))
  go_ret2
  exact ⟨rfl, HB1.out.trans (HB2.out.mono HB1.out.size)⟩
theorem str_ne {l : List UInt8} {s : ByteArray} (h : l ≠ s.data.toList) : (!l == s.toList) = true := by
  rw [ByteArray.toList_eq]
  simpa using h
theorem str_eq {l : List UInt8} {s : ByteArray} (h : l = s.data.toList) : (!l == s.toList) = false := by
  rw [ByteArray.toList_eq]
  simpa using h
theorem itoa_no {s : ByteArray} (h : ∀ n, ¬ IsNum s.data.toList n) {v : Int} (h0 : 0 ≤ v) (h1 : v ≤ 1000000000000) : Lib.itoa v ≠ s.data.toList := by
  obtain ⟨m, rfl⟩ : ∃ m : Nat, v = (m : Int) := ⟨v.toNat, by omega⟩
  rw [Lib.itoa_nonneg]
  exact fun e => h m ⟨by omega, e.symm⟩
theorem parse_no (s : ByteArray) (hs : s.size ≤ 281474976710656) (h : ∀ n, ¬ IsNum s.data.toList n) (w : World) (ht : HasTab w) (he : HasErrs w) : Calls Tryd.prog 8 #[.string s] w fun e w' => e = .returned (.tuple #[.int .i64 0, .bool false]) ∧ Below w.heap.size w w' := by
  by_cases hv : ∃ v, Lib.atoiAll s.data.toList = .ok v
  · obtain ⟨v, hv⟩ := hv
    have HA := Lib.hid hv
    have HT := Lib.hid ht
    have HN := Lib.hid h
    have hb := Lib.atoiAll_bounds hv
    obtain ⟨hb1, hb2⟩ := hb
    clear hv h ht he
    by_cases hr : inR v 0 1000000000000 = true
    · obtain ⟨hr1, hr2⟩ := inR_true.1 hr
      have hne := str_ne (itoa_no HN.out hr1 hr2)
      go_enter Tryd.func8, Tryd.ntmps8
      go_wp2_with (first | (go_at_call 20; refine (atoi_ok _ hs _ HA.out _).mono ?_; rintro e w1 ⟨rfl, hb1⟩; have HB1 := Lib.hid hb1; have HT1 := Lib.hid (HT.out.below hb1); clear hb1) | (go_at_call 21; refine (inRange_any _ _ _ _).mono ?_; rintro e w2 ⟨rfl, rfl⟩) | (go_at_call 10; refine (format_any _ _ (by omega) (by omega) HT1.out).mono ?_; rintro e w2 ⟨rfl, hb2⟩; have HB2 := Lib.hid hb2; clear hb2))
      go_ret2
      exact ⟨rfl, HB1.out.trans (HB2.out.mono HB1.out.size)⟩
    · have hr' : inR v 0 1000000000000 = false := by simpa using hr
      clear hr
      go_enter Tryd.func8, Tryd.ntmps8
      go_wp2_with (first | (go_at_call 20; refine (atoi_ok _ hs _ HA.out _).mono ?_; rintro e w1 ⟨rfl, hb1⟩; have HB1 := Lib.hid hb1; have HT1 := Lib.hid (HT.out.below hb1); clear hb1) | (go_at_call 21; refine (inRange_any _ _ _ _).mono ?_; rintro e w2 ⟨rfl, rfl⟩))
      go_ret2
      exact ⟨rfl, HB1.out⟩
  · have HF : Hid (∀ v, Lib.atoiAll s.data.toList ≠ .ok v) := Lib.hid (fun v hv' => hv ⟨v, hv'⟩)
    have HE := Lib.hid he
    clear hv h ht he
    go_enter Tryd.func8, Tryd.ntmps8
    go_wp2_with (go_at_call 20; refine (atoi_fail _ hs HF.out _ HE.out).mono ?_; rintro e w1 ⟨v, t, p, rfl, hb1⟩; have HB1 := Lib.hid hb1; clear hb1)
    go_ret2
    exact ⟨rfl, HB1.out⟩
/-- The model's loop over the digits: what it has read so far. -/
theorem dec_lt {l : List UInt8} {k n : Nat} (h : Lib.decFrom 0 (l.take k) = some n) (hk : k ≤ 13) : n < 10000000000000 := by
  have h1 := Lib.decFrom_lt _ _ _ h
  have h2 : (l.take k).length ≤ 13 := Nat.le_trans (List.length_take_le _ _) hk
  have h3 : 10 ^ (l.take k).length ≤ 10 ^ 13 := Nat.pow_le_pow_right (by decide) h2
  omega
theorem at_list (s : ByteArray) (k : Nat) (h : k < s.size) : s.data.toList[k]? = some s[k] := by
  rw [Array.getElem?_toList, Array.getElem?_eq_getElem h]; rfl
def GotNum (n : Nat) (w : World) (e : Ending) (w' : World) : Prop := e = .returned (.tuple #[.int .i64 n, .bool true]) ∧ Below w.heap.size w w'
def GotNone (w : World) (e : Ending) (w' : World) : Prop := e = .returned (.tuple #[.int .i64 0, .bool false]) ∧ Below w.heap.size w w'
set_option maxHeartbeats 400000 in
theorem specParse_yes (n : Nat) (s : ByteArray) (h : IsNum s.data.toList n) (w : World) : Calls Tryd.prog 15 #[.string s] w (GotNum n w) := by
  have hn := h.1
  have hlen : s.size ≤ 13 := by rw [size_list, h.2]; exact digits_len hn
  have hpos : 1 ≤ s.size := by
    rw [size_list, h.2]
    exact Nat.one_le_iff_ne_zero.2 (fun e => digits_ne n (List.eq_nil_of_length_eq_zero e))
  have HA := Lib.hid h
  have hr : inR s.size 1 13 = true := inR_true.2 (by omega)
  clear h
  go_enter Tryd.func15, Tryd.ntmps15
  go_wp2_with (go_at_call 24; refine (l1In_any _ _ _ _).mono ?_; rintro e w2 ⟨rfl, rfl⟩)
  go_loop [4, 5] (fun a i => ∃ (k m : Nat), k ≤ s.size ∧ i = .int .i64 k ∧ a = .int .i64 m ∧ Hid (Lib.decFrom 0 (s.data.toList.take k) = some m)) (fun _ i => s.size - (intOf i).toNat)
  case atStart => exact ⟨0, 0, Nat.zero_le _, rfl, rfl, Lib.hid (by simp [Lib.decFrom])⟩
  case round =>
    obtain ⟨k, m, hk, rfl, rfl, HM⟩ := hrel
    have hm := dec_lt HM.out (by omega)
    by_cases hlt : k < s.size
    · obtain ⟨d, hd⟩ := Lib.digit_of_decFrom _ _ _ (isNum_digits HA.out) k s[k] (at_list s k hlt)
      obtain ⟨hd1, hd2, hd3⟩ := Lib.digitVal_eq hd
      have HD := Lib.hid hd
      have hrd : inR (s[k].toNat : Int) 48 57 = true := inR_true.2 (by omega)
      clear hd
      go_wp2_with (go_at_call 24; refine (l1In_any _ _ _ _).mono ?_; rintro e w2 ⟨rfl, rfl⟩)
      go_round
      case rel => exact ⟨k + 1, m * 10 + d, by omega, by go_num, by rw [show (10 * (m : Int) + ((s[k].toNat : Int) - 48)) = ((m * 10 + d : Nat) : Int) by omega], Lib.hid (Lib.decFrom_take _ _ _ _ _ _ HM.out (at_list s k hlt) HD.out)⟩
      case measure => simp [intOf]; omega
    · have hk2 : k = s.size := by omega
      have hmn : m = n := by
        have h1 := HM.out
        rw [List.take_of_length_le (by rw [← size_list]; omega), isNum_digits HA.out] at h1
        exact (Option.some.inj h1).symm
      subst hmn
      have heq : (!Lib.itoa (m : Int) == s.toList) = false := str_eq (by rw [Lib.itoa_nonneg]; exact HA.out.2.symm)
      clear HM hm
      go_wp2_with (first | (go_at_call 24; refine (l1In_any _ _ _ _).mono ?_; rintro e w2 ⟨rfl, rfl⟩) | (go_at_call 14; refine (specFormat_any _ _ (by omega) (by omega)).mono ?_; rintro e w2 ⟨rfl, hb2⟩; have HB2 := Lib.hid hb2; clear hb2))
      go_ret2
      exact ⟨rfl, HB2.out⟩
set_option maxHeartbeats 400000 in
theorem specParse_no (s : ByteArray) (h : ∀ n, ¬ IsNum s.data.toList n) (hs : s.size ≤ 9223372036854775807) (w : World) : Calls Tryd.prog 15 #[.string s] w (GotNone w) := by
  have HA := Lib.hid h
  clear h
  by_cases hr : inR s.size 1 13 = true
  · obtain ⟨hpos, hlen⟩ := inR_true.1 hr
    go_enter Tryd.func15, Tryd.ntmps15
    go_wp2_with (go_at_call 24; refine (l1In_any _ _ _ _).mono ?_; rintro e w2 ⟨rfl, rfl⟩)
    go_loop [4, 5] (fun a i => ∃ (k m : Nat), k ≤ s.size ∧ i = .int .i64 k ∧ a = .int .i64 m ∧ Hid (Lib.decFrom 0 (s.data.toList.take k) = some m)) (fun _ i => s.size - (intOf i).toNat)
    case atStart => exact ⟨0, 0, Nat.zero_le _, rfl, rfl, Lib.hid (by simp [Lib.decFrom])⟩
    case round =>
      obtain ⟨k, m, hk, rfl, rfl, HM⟩ := hrel
      have hm := dec_lt HM.out (by omega)
      by_cases hlt : k < s.size
      · by_cases hrd : inR (s[k].toNat : Int) 48 57 = true
        · obtain ⟨hd1, hd2⟩ := inR_true.1 hrd
          have HD : Hid (Lib.digitVal s[k] = some (s[k].toNat - 48)) := Lib.hid (by unfold Lib.digitVal; rw [if_pos (by omega)])
          go_wp2_with (go_at_call 24; refine (l1In_any _ _ _ _).mono ?_; rintro e w2 ⟨rfl, rfl⟩)
          go_round
          case rel => exact ⟨k + 1, m * 10 + (s[k].toNat - 48), by omega, by go_num, by rw [show (10 * (m : Int) + ((s[k].toNat : Int) - 48)) = ((m * 10 + (s[k].toNat - 48) : Nat) : Int) by omega], Lib.hid (Lib.decFrom_take _ _ _ _ _ _ HM.out (at_list s k hlt) HD.out)⟩
          case measure => simp [intOf]; omega
        · have hrd' : inR (s[k].toNat : Int) 48 57 = false := by simpa using hrd
          have hb0 : (s[k].toNat : Int) ≤ 255 := by have := s[k].toNat_lt; omega
          clear hrd
          go_wp2_with (go_at_call 24; refine (l1In_any _ _ _ _).mono ?_; rintro e w2 ⟨rfl, rfl⟩)
          go_ret2
          exact ⟨rfl, Below.refl _ _⟩
      · by_cases hmax : m ≤ 1000000000000
        · have hne := str_ne (itoa_no HA.out (v := (m : Int)) (by omega) (by omega))
          go_wp2_with (first | (go_at_call 24; refine (l1In_any _ _ _ _).mono ?_; rintro e w2 ⟨rfl, rfl⟩) | (go_at_call 14; refine (specFormat_any _ _ (by omega) (by omega)).mono ?_; rintro e w2 ⟨rfl, hb2⟩; have HB2 := Lib.hid hb2; clear hb2))
          go_ret2
          exact ⟨rfl, HB2.out⟩
        · go_wp2_with (first | (go_at_call 24; refine (l1In_any _ _ _ _).mono ?_; rintro e w2 ⟨rfl, rfl⟩) | (go_at_call 14; refine (specFormat_any _ _ (by omega) (by omega)).mono ?_; rintro e w2 ⟨rfl, hb2⟩; have HB2 := Lib.hid hb2; clear hb2))
          go_ret2
          exact ⟨rfl, Below.refl _ _⟩
  · have hr' : inR s.size 1 13 = false := by simpa using hr
    clear hr
    go_enter Tryd.func15, Tryd.ntmps15
    go_wp2_with (go_at_call 24; refine (l1In_any _ _ _ _).mono ?_; rintro e w2 ⟨rfl, rfl⟩)
    go_ret2
    exact ⟨rfl, Below.refl _ _⟩
end Go.Proofs.YtjijcnkgdmjnoaaDoor
