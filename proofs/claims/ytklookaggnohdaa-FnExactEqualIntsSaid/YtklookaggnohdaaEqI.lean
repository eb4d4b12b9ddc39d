/- Lists of integers compared: the model's EqualInts and the program's. -/
import Derived.Test.YtklookaggnohdaaSlI
import Derived.Test.YtklookaggnohdaaMinB
namespace Go.Proofs.Ytklookaggnohdaa
open Go.RowKit
def eqL (xs ys : List Int) : Bool := decide (xs = ys)
theorem eqL_len {xs ys : List Int} (h : ¬ xs.length = ys.length) : eqL xs ys = false := decide_eq_false fun e => h (by rw [e])
theorem eqL_at {xs ys : List Int} {k : Nat} (h : ¬ xs.getD k 0 = ys.getD k 0) : eqL xs ys = false := decide_eq_false fun e => h (by rw [e])
theorem eqL_all {xs ys : List Int} {k : Nat} (h : xs.take k = ys.take k) (h1 : xs.length ≤ k) (h2 : ys.length ≤ k) : eqL xs ys = true := by
  rw [List.take_of_length_le h1, List.take_of_length_le h2] at h
  exact decide_eq_true h
theorem take_same {xs ys : List Int} {k : Nat} (h : xs.take k = ys.take k) (h1 : k < xs.length) (h2 : k < ys.length) (e : xs.getD k 0 = ys.getD k 0) : xs.take (k + 1) = ys.take (k + 1) := by
  rw [List.take_succ_eq_append_getElem h1, List.take_succ_eq_append_getElem h2, h]
  simp [List.getD, h1, h2] at e
  rw [e]
set_option maxHeartbeats 1600000 in
theorem specEqualInts_any (W : World) (a1 : Option Addr) (len1 cap1 : Nat) (a2 : Option Addr) (len2 cap2 : Nat) (xs ys : List Int) (hl1 : len1 ≤ 1073741824) (hl2 : len2 ≤ 1073741824) (h1 : Sees .i64 W a1 len1 xs) (h2 : Sees .i64 W a2 len2 ys) :
    Calls Try.prog 42 #[.slice a1 len1 cap1, .slice a2 len2 cap2] W fun e w' => e = .returned (.bool (eqL xs ys)) ∧ Below W.heap.size W w' := by
  have H1 := Lib.hid h1
  have H2 := Lib.hid h2
  clear h1 h2
  by_cases hlen : len1 = len2
  · subst hlen
    go_enter Try.func42, Try.ntmps42
    go_wp2_with fail
    go_loopw [5] (fun i wr => ∃ k : Nat, k ≤ len1 ∧ i = .int .i64 k ∧ xs.take k = ys.take k ∧ Below W.heap.size W wr) (fun i _ => len1 - (intOf i).toNat)
    case atStart => exact ⟨0, Nat.zero_le _, rfl, by simp, Below.refl _ _⟩
    case round =>
      obtain ⟨k, hk, rfl, ht, hbw⟩ := hrel
      have HB := Lib.hid hbw
      have HT := Lib.hid ht
      clear ht
      by_cases hlt : k < len1
      · rcases H1.out.2.2 with h0 | ⟨b1, o1, rfl, hb1, hc1⟩
        · omega
        · rcases H2.out.2.2 with h0 | ⟨b2, o2, rfl, hb2, hc2⟩
          · omega
          · have hx := (hbw.cell (p := ⟨b1, o1 + k, none⟩) hb1).trans (hc1 k hlt)
            have hy := (hbw.cell (p := ⟨b2, o2 + k, none⟩) hb2).trans (hc2 k hlt)
            have HN := Lib.hid (eqL_at (xs := xs) (ys := ys) (k := k))
            have HM := Lib.hid (take_same HT.out (by rw [H1.out.1]; exact hlt) (by rw [H2.out.1]; exact hlt))
            obtain ⟨x, hxe⟩ : ∃ x, x = xs.getD k 0 := ⟨_, rfl⟩
            obtain ⟨y, hye⟩ : ∃ y, y = ys.getD k 0 := ⟨_, rfl⟩
            rw [← hxe, ← hye] at HN HM
            rw [← hxe] at hx
            rw [← hye] at hy
            clear hc1 hc2 hbw hxe hye
            by_cases hxy : x = y
            · have HM2 := Lib.hid (HM.out hxy)
              subst hxy
              clear HM
              go_wp2
              go_quiet (fail)
              go_wp2
              go_roundw
              case rel => exact ⟨k + 1, by omega, by go_num, HM2.out, below_drewN HB.out _⟩
              case measure => simp [intOf]; omega
            · have HE := Lib.hid (HN.out hxy)
              go_wp2
              go_quiet (fail)
              go_wp2
              go_ret
              exact ⟨ret_bool HE.out.symm, below_drewN HB.out _⟩
      · have HE := Lib.hid (eqL_all HT.out (by rw [H1.out.1]; omega) (by rw [H2.out.1]; omega))
        clear hbw
        go_wp2
        go_ret
        exact ⟨ret_bool HE.out.symm, HB.out⟩
  · have HE := Lib.hid (eqL_len (xs := xs) (ys := ys) (by rw [H1.out.1, H2.out.1]; exact hlen))
    go_enter Try.func42, Try.ntmps42
    go_wp2
    go_ret
    exact ⟨ret_bool HE.out.symm, Below.refl _ _⟩
set_option maxHeartbeats 800000 in
theorem entry_in (W : World) (a : Option Addr) (len cap : Nat) (zs : List Int) (i : Nat) (x : Int) (hxe : x = zs.getD i 0) (hi : i < len) (hs : Sees .i64 W a len zs) :
    Calls Try.prog 58 #[.slice a len cap, .int .i64 i] W fun e w' => e = .returned (.agg #[.int .i64 x, .bool true]) ∧ Below W.heap.size W w' := by
  rcases hs.2.2 with h0 | ⟨b, off, rfl, hb, hc⟩
  · omega
  · have hx := hc i hi
    rw [← hxe] at hx
    clear hs hc hxe
    go_enter Try.func58, Try.ntmps58
    go_wp2
    exact bodyPost_ret (v := .agg #[.int .i64 x, .bool true]) (by simp [results, Try.results58, go_sem]) rfl ⟨rfl, (Below.refl _ _).alloc (Nat.le_refl _) _⟩
set_option maxHeartbeats 800000 in
theorem entry_out (W : World) (a : Option Addr) (len cap : Nat) (i : Nat) (hi : len ≤ i) :
    Calls Try.prog 58 #[.slice a len cap, .int .i64 i] W fun e w' => e = .returned (.agg #[.int .i64 0, .bool false]) ∧ Below W.heap.size W w' := by
  go_enter Try.func58, Try.ntmps58
  go_wp2
  exact bodyPost_ret (v := .agg #[.int .i64 0, .bool false]) (by simp [results, Try.results58, go_sem]) rfl ⟨rfl, (Below.refl _ _).alloc (Nat.le_refl _) _⟩
/-- The greater of two lengths. -/
def MaxN (m n : Nat) (w : World) (e : Ending) (w' : World) : Prop := ∃ k : Nat, (m ≤ k ∧ n ≤ k ∧ (k = m ∨ k = n)) ∧ e = .returned (.int .i64 k) ∧ Below w.heap.size w w'
theorem maxN_any (m n : Nat) (w : World) : Calls Try.prog 57 #[.int .i64 m, .int .i64 n] w (MaxN m n w) :=
  (max_bel m n w).mono fun _ _ ⟨he, hb⟩ => ⟨if m < n then n else m, by split <;> omega, by rw [he]; unfold maxV; split <;> split <;> first | rfl | omega, hb⟩
set_option maxHeartbeats 1600000 in
theorem equalInts_any (W : World) (a1 : Option Addr) (len1 cap1 : Nat) (a2 : Option Addr) (len2 cap2 : Nat) (xs ys : List Int) (hl1 : len1 ≤ 1073741824) (h1 : Sees .i64 W a1 len1 xs) (h2 : Sees .i64 W a2 len2 ys) :
    Calls Try.prog 43 #[.slice a1 len1 cap1, .slice a2 len2 cap2] W fun e w' => e = .returned (.bool (eqL xs ys)) ∧ Below W.heap.size W w' := by
  have H1 := Lib.hid h1
  have H2 := Lib.hid h2
  clear h1 h2
  go_enter Try.func43, Try.ntmps43
  go_wp2_with fail
  go_at_call 57
  refine (maxN_any _ _ _).mono ?_
  rintro e w1 ⟨n, ⟨hm1, hm2, hm3⟩, rfl, hb1⟩
  have HB1 := Lib.hid hb1
  have HM3 := Lib.hid hm3
  clear hb1 hm3
  go_wp2_with fail
  go_loopw [11] (fun i wr => ∃ k : Nat, k ≤ n ∧ k ≤ len1 ∧ k ≤ len2 ∧ i = .int .i64 k ∧ xs.take k = ys.take k ∧ Below W.heap.size W wr) (fun i _ => n - (intOf i).toNat)
  case atStart => exact ⟨0, Nat.zero_le _, Nat.zero_le _, Nat.zero_le _, rfl, by simp, HB1.out⟩
  case round =>
    obtain ⟨k, hk, hk1, hk2, rfl, ht, hbw⟩ := hrel
    have HB := Lib.hid hbw
    have HT := Lib.hid ht
    clear ht hbw
    by_cases hlt : k < n
    · obtain ⟨x, hxe⟩ : ∃ x, x = xs.getD k 0 := ⟨_, rfl⟩
      obtain ⟨y, hye⟩ : ∃ y, y = ys.getD k 0 := ⟨_, rfl⟩
      have HXE := Lib.hid hxe
      have HYE := Lib.hid hye
      clear hxe hye
      by_cases hx1 : k < len1
      · go_wp2_with fail
        go_at_call 58
        refine (entry_in _ _ _ _ xs k x HXE.out hx1 (H1.out.below HB.out)).mono ?_
        rintro e w2 ⟨rfl, hb2⟩
        have HB2 := Lib.hid (below_up HB.out hb2 (Nat.le_refl _))
        clear hb2
        by_cases hx2 : k < len2
        · go_wp2_with fail
          go_at_call 58
          refine (entry_in _ _ _ _ ys k y HYE.out hx2 (H2.out.below HB2.out)).mono ?_
          rintro e w3 ⟨rfl, hb3⟩
          have HB3 := Lib.hid (below_up HB2.out hb3 (Nat.le_refl _))
          have HN := Lib.hid (eqL_at (xs := xs) (ys := ys) (k := k))
          have HM := Lib.hid (take_same HT.out (by rw [H1.out.1]; exact hx1) (by rw [H2.out.1]; exact hx2))
          rw [← HXE.out, ← HYE.out] at HN HM
          clear hb3
          by_cases hxy : x = y
          · have HM2 := Lib.hid (HM.out hxy)
            subst hxy
            clear HM
            go_wp2
            go_roundw
            case rel => exact ⟨k + 1, by omega, by omega, by omega, by go_num, HM2.out, HB3.out⟩
            case measure => simp [intOf]; omega
          · have HE := Lib.hid (HN.out hxy)
            go_wp2
            go_ret
            exact ⟨ret_bool HE.out.symm, HB3.out⟩
        · go_wp2_with fail
          go_at_call 58
          refine (entry_out _ _ _ _ k (by omega)).mono ?_
          rintro e w3 ⟨rfl, hb3⟩
          have HB3 := Lib.hid (below_up HB2.out hb3 (Nat.le_refl _))
          have HE := Lib.hid (eqL_len (xs := xs) (ys := ys) (by rw [H1.out.1, H2.out.1]; omega))
          clear hb3
          go_wp2
          go_ret
          exact ⟨ret_bool HE.out.symm, HB3.out⟩
      · go_wp2_with fail
        go_at_call 58
        refine (entry_out _ _ _ _ k (by omega)).mono ?_
        rintro e w2 ⟨rfl, hb2⟩
        have HB2 := Lib.hid (below_up HB.out hb2 (Nat.le_refl _))
        have hx2 : k < len2 := by have := HM3.out; omega
        clear hb2
        go_wp2_with fail
        go_at_call 58
        refine (entry_in _ _ _ _ ys k y HYE.out hx2 (H2.out.below HB2.out)).mono ?_
        rintro e w3 ⟨rfl, hb3⟩
        have HB3 := Lib.hid (below_up HB2.out hb3 (Nat.le_refl _))
        have HE := Lib.hid (eqL_len (xs := xs) (ys := ys) (by rw [H1.out.1, H2.out.1]; omega))
        clear hb3
        go_wp2
        go_ret
        exact ⟨ret_bool HE.out.symm, HB3.out⟩
    · have HE := Lib.hid (eqL_all HT.out (by rw [H1.out.1]; omega) (by rw [H2.out.1]; omega))
      go_wp2
      go_ret
      exact ⟨ret_bool HE.out.symm, HB.out⟩
end Go.Proofs.Ytklookaggnohdaa
