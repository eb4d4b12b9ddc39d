/- A fraction's text: the program's, the model's, the law's walk. -/
import Derived.Test.YtecmfipedpfoaaaDoorRatP
import Derived.Test.YtecmfipedpfoaaaDoorParseW
import Derived.Test.YtecmfipedpfoaaaDoorLaidFrom
import Derived.Deep.RegionHeld3
namespace Go.Proofs.YtecmfipedpfoaaaDoor
open Go.RowKit
/-- An integer's text. -/
def strI (n : Int) : ByteArray := ⟨(Lib.itoa n).toArray⟩
/-- A fraction's text. -/
def fmtR (n d : Int) : ByteArray := if isR n d = true then (if d = 1 then strI n else strI n ++ ⟨#[47]⟩ ++ strI d) else ⟨#[]⟩
theorem fmtR_no {n d : Int} (h : isR n d = false) : fmtR n d = ⟨#[]⟩ := by unfold fmtR; rw [h]; rfl
theorem fmtR_one {n d : Int} (h : isR n d = true) (h1 : d = 1) : fmtR n d = strI n := by unfold fmtR; rw [if_pos h, if_pos h1]
theorem fmtR_two {n d : Int} (h : isR n d = true) (h1 : d ≠ 1) : fmtR n d = strI n ++ ⟨#[47]⟩ ++ strI d := by unfold fmtR; rw [if_pos h, if_neg h1]
theorem strI_size {n : Int} (h0 : -1000000000 ≤ n) (h1 : n ≤ 1000000000) : (strI n).size ≤ 21 := by
  unfold strI
  rw [size_list]
  exact Lib.itoa_length_le n (by omega) (by omega)
theorem specFmtV_any (n : Int) (A : ByteArray) (w : World) (hA : A = strI n) (h1 : -1000000000 ≤ n) (h2 : n ≤ 1000000000) (_ : HasTab w) : Calls Tryd.prog 8 #[.int .i64 n] w fun e w' => e = .returned (.string A) ∧ Below w.heap.size w w' := by
  subst hA
  exact specFormat_any n w (by omega) (by omega)
theorem fmtV_any (n : Int) (A : ByteArray) (w : World) (hA : A = strI n) (h1 : -1000000000 ≤ n) (h2 : n ≤ 1000000000) (ht : HasTab w) : Calls Tryd.prog 10 #[.int .i64 n] w fun e w' => e = .returned (.string A) ∧ Below w.heap.size w w' := by
  subst hA
  exact format_any n w (by omega) (by omega) ht
theorem cat_size (a b : ByteArray) : (a ++ b).size = a.size + b.size := ByteArray.size_append
theorem ret_strV {a b : ByteArray} (h : a = b) : Ending.returned (.string a) = .returned (.string b) := by rw [h]
theorem slash_size : (⟨#[47]⟩ : ByteArray).size = 1 := rfl
set_option maxHeartbeats 800000 in
theorem specFmtR_any (n d : Int) (S : ByteArray) (w : World) (hS : S = fmtR n d) (hn : IsI64 n) (hd : IsI64 d) (ht : HasTab w) : Calls Tryd.prog 4 #[.agg #[.int .i64 n, .int .i64 d]] w fun e w' => e = .returned (.string S) ∧ Below w.heap.size w w' := by
  have HIN := Lib.hid hn
  have HID := Lib.hid hd
  have HT := Lib.hid ht
  have HS := Lib.hid hS
  clear hn hd ht hS
  cases hv : isR n d
  · have HE := Lib.hid (HS.out.trans (fmtR_no hv))
    go_enter Tryd.func4, Tryd.ntmps4
    go_wp2_with fail
    go_at_call 7
    refine (specIsR_any n d _).mono ?_
    rintro e w1 ⟨rfl, hb1⟩
    have HP1 := Lib.hid ((pair_new w n d 25).below hb1)
    have HB1 := Lib.hid (((Below.refl w.heap.size w).alloc (Nat.le_refl _) (.cells #[.int .i64 n, .int .i64 d] 25)).trans (hb1.mono (by simp)))
    have HT1 := Lib.hid (HT.out.below HB1.out)
    clear hb1
    have p0 := HP1.out.c0
    have p1 := HP1.out.c1
    go_wp2
    go_ret
    exact ⟨ret_strV HE.out.symm, HB1.out⟩
  · obtain ⟨n0, n1, d0, d1⟩ := isR_bd hv
    obtain ⟨A, hA⟩ : ∃ A, A = strI n := ⟨_, rfl⟩
    have hsa : A.size ≤ 21 := by rw [hA]; exact strI_size n0 n1
    have HA := Lib.hid hA
    by_cases hd1 : d = 1
    · have HE := Lib.hid (HS.out.trans ((fmtR_one hv hd1).trans hA.symm))
      clear hA
      subst hd1
      go_enter Tryd.func4, Tryd.ntmps4
      go_wp2_with fail
      go_at_call 7
      refine (specIsR_any n 1 _).mono ?_
      rintro e w1 ⟨rfl, hb1⟩
      have HP1 := Lib.hid ((pair_new w n 1 25).below hb1)
      have HB1 := Lib.hid (((Below.refl w.heap.size w).alloc (Nat.le_refl _) (.cells #[.int .i64 n, .int .i64 1] 25)).trans (hb1.mono (by simp)))
      have HT1 := Lib.hid (HT.out.below HB1.out)
      clear hb1
      have p0 := HP1.out.c0
      have p1 := HP1.out.c1
      go_wp2_with (go_at_call 8; refine (specFmtV_any n A _ HA.out n0 n1 HT1.out).mono ?_; rintro e w2 ⟨rfl, hb2⟩; have HB2 := Lib.hid hb2; clear hb2)
      go_ret
      exact ⟨ret_strV HE.out.symm, HB1.out.trans (HB2.out.mono HB1.out.size)⟩
    · obtain ⟨B, hB⟩ : ∃ B, B = strI d := ⟨_, rfl⟩
      have hsb : B.size ≤ 21 := by rw [hB]; exact strI_size (by omega) d1
      have HBB := Lib.hid hB
      have HE : Hid (S = A ++ ⟨#[47]⟩ ++ B) := Lib.hid (by rw [HS.out, fmtR_two hv hd1, hA, hB])
      have hs1 : ¬ 9223372036854775807 < A.size + 1 := by omega
      have hs2 : ¬ 9223372036854775807 < A.size + 1 + B.size := by omega
      clear hA hB
      go_enter Tryd.func4, Tryd.ntmps4
      go_wp2_with fail
      go_at_call 7
      refine (specIsR_any n d _).mono ?_
      rintro e w1 ⟨rfl, hb1⟩
      have HP1 := Lib.hid ((pair_new w n d 25).below hb1)
      have HB1 := Lib.hid (((Below.refl w.heap.size w).alloc (Nat.le_refl _) (.cells #[.int .i64 n, .int .i64 d] 25)).trans (hb1.mono (by simp)))
      have HT1 := Lib.hid (HT.out.below HB1.out)
      clear hb1
      have p0 := HP1.out.c0
      have p1 := HP1.out.c1
      go_wp2_with fail
      go_region_held3 (fun w' => w'.cell? ⟨w.heap.size, 0, none⟩ = some (.int .i64 n) ∧ w'.cell? ⟨w.heap.size, 1, none⟩ = some (.int .i64 d)) (go_keep) (first
        | (go_at_call_of 8 (Value.int .i64 n); refine (specFmtV_any n A _ HA.out n0 n1 (HT1.out.below (Below.refl _ _).drew)).mono ?_; rintro e w2 ⟨rfl, hb⟩; have HB2 := Lib.hid (below_up (w0 := w1) (Below.refl _ _).drew hb (Nat.le_refl _)); have p0 := (HP1.out.below HB2.out).c0; have p1 := (HP1.out.below HB2.out).c1; clear hb)
        | (go_at_call_of 8 (Value.int .i64 d); refine (specFmtV_any d B _ HBB.out (by omega) d1 (HT1.out.below HB2.out)).mono ?_; rintro e w3 ⟨rfl, hb⟩; have HB3 := Lib.hid (below_up (w0 := w1) HB2.out hb (Nat.le_refl _)); have p0 := (HP1.out.below HB3.out).c0; have p1 := (HP1.out.below HB3.out).c1; clear hb))
      all_goals
        go_wp2
        go_ret
        exact ⟨ret_strV HE.out.symm, HB1.out.trans (HB3.out.mono HB1.out.size)⟩
set_option maxHeartbeats 800000 in
theorem fmtR_any (n d : Int) (S : ByteArray) (w : World) (hS : S = fmtR n d) (hn : IsI64 n) (hd : IsI64 d) (ht : HasTab w) : Calls Tryd.prog 6 #[.agg #[.int .i64 n, .int .i64 d]] w fun e w' => e = .returned (.string S) ∧ Below w.heap.size w w' := by
  have HIN := Lib.hid hn
  have HID := Lib.hid hd
  have HT := Lib.hid ht
  have HS := Lib.hid hS
  clear hn hd ht hS
  cases hv : isR n d
  · have HE := Lib.hid (HS.out.trans (fmtR_no hv))
    go_enter Tryd.func6, Tryd.ntmps6
    go_wp2_with fail
    go_at_call 9
    refine (isRat_any n d _ HIN.out HID.out).mono ?_
    rintro e w1 ⟨rfl, hb1⟩
    have HP1 := Lib.hid ((pair_new w n d 25).below hb1)
    have HB1 := Lib.hid (((Below.refl w.heap.size w).alloc (Nat.le_refl _) (.cells #[.int .i64 n, .int .i64 d] 25)).trans (hb1.mono (by simp)))
    have HT1 := Lib.hid (HT.out.below HB1.out)
    clear hb1
    have p0 := HP1.out.c0
    have p1 := HP1.out.c1
    go_wp2
    go_ret
    exact ⟨ret_strV HE.out.symm, HB1.out⟩
  · obtain ⟨n0, n1, d0, d1⟩ := isR_bd hv
    obtain ⟨A, hA⟩ : ∃ A, A = strI n := ⟨_, rfl⟩
    have hsa : A.size ≤ 21 := by rw [hA]; exact strI_size n0 n1
    have HA := Lib.hid hA
    by_cases hd1 : d = 1
    · have HE := Lib.hid (HS.out.trans ((fmtR_one hv hd1).trans hA.symm))
      clear hA
      subst hd1
      go_enter Tryd.func6, Tryd.ntmps6
      go_wp2_with fail
      go_at_call 9
      refine (isRat_any n 1 _ HIN.out HID.out).mono ?_
      rintro e w1 ⟨rfl, hb1⟩
      have HP1 := Lib.hid ((pair_new w n 1 25).below hb1)
      have HB1 := Lib.hid (((Below.refl w.heap.size w).alloc (Nat.le_refl _) (.cells #[.int .i64 n, .int .i64 1] 25)).trans (hb1.mono (by simp)))
      have HT1 := Lib.hid (HT.out.below HB1.out)
      clear hb1
      have p0 := HP1.out.c0
      have p1 := HP1.out.c1
      go_wp2_with (go_at_call 10; refine (fmtV_any n A _ HA.out n0 n1 HT1.out).mono ?_; rintro e w2 ⟨rfl, hb2⟩; have HB2 := Lib.hid hb2; clear hb2)
      go_ret
      exact ⟨ret_strV HE.out.symm, HB1.out.trans (HB2.out.mono HB1.out.size)⟩
    · obtain ⟨B, hB⟩ : ∃ B, B = strI d := ⟨_, rfl⟩
      have hsb : B.size ≤ 21 := by rw [hB]; exact strI_size (by omega) d1
      have HBB := Lib.hid hB
      have HE : Hid (S = A ++ ⟨#[47]⟩ ++ B) := Lib.hid (by rw [HS.out, fmtR_two hv hd1, hA, hB])
      have hs1 : ¬ 9223372036854775807 < A.size + 1 := by omega
      have hs2 : ¬ 9223372036854775807 < A.size + 1 + B.size := by omega
      clear hA hB
      go_enter Tryd.func6, Tryd.ntmps6
      go_wp2_with fail
      go_at_call 9
      refine (isRat_any n d _ HIN.out HID.out).mono ?_
      rintro e w1 ⟨rfl, hb1⟩
      have HP1 := Lib.hid ((pair_new w n d 25).below hb1)
      have HB1 := Lib.hid (((Below.refl w.heap.size w).alloc (Nat.le_refl _) (.cells #[.int .i64 n, .int .i64 d] 25)).trans (hb1.mono (by simp)))
      have HT1 := Lib.hid (HT.out.below HB1.out)
      clear hb1
      have p0 := HP1.out.c0
      have p1 := HP1.out.c1
      go_wp2_with fail
      go_region_held3 (fun w' => w'.cell? ⟨w.heap.size, 0, none⟩ = some (.int .i64 n) ∧ w'.cell? ⟨w.heap.size, 1, none⟩ = some (.int .i64 d)) (go_keep) (first
        | (go_at_call_of 10 (Value.int .i64 n); refine (fmtV_any n A _ HA.out n0 n1 (HT1.out.below (Below.refl _ _).drew)).mono ?_; rintro e w2 ⟨rfl, hb⟩; have HB2 := Lib.hid (below_up (w0 := w1) (Below.refl _ _).drew hb (Nat.le_refl _)); have p0 := (HP1.out.below HB2.out).c0; have p1 := (HP1.out.below HB2.out).c1; clear hb)
        | (go_at_call_of 10 (Value.int .i64 d); refine (fmtV_any d B _ HBB.out (by omega) d1 (HT1.out.below HB2.out)).mono ?_; rintro e w3 ⟨rfl, hb⟩; have HB3 := Lib.hid (below_up (w0 := w1) HB2.out hb (Nat.le_refl _)); have p0 := (HP1.out.below HB3.out).c0; have p1 := (HP1.out.below HB3.out).c1; clear hb))
      all_goals
        go_wp2
        go_ret
        exact ⟨ret_strV HE.out.symm, HB1.out.trans (HB3.out.mono HB1.out.size)⟩
end Go.Proofs.YtecmfipedpfoaaaDoor
