/- IsInSpan: the model's and the program's. -/
import Derived.Test.YtbclnklejleobaaRem
import Derived.Test.YtbclnklejleobaaRRP
namespace Go.Proofs.Ytbclnklejleobaa
open Go.RowKit
/-- Rows and a row that are matrices with as many columns. -/
def bothV (ms : List (List Int)) (z : List Int) : Bool := isMat ms (z.length : Int) && isMat [z] (z.length : Int)
def inSpanV (ms : List (List Int)) (z : List Int) : Bool := bothV ms z && decide (leadL (remL z (rrL ms z.length) (rrL ms z.length).length) = z.length)
theorem seesM_one {w : World} {b : Option Addr} {lb cb : Nat} {z : List Int} (h : Sees .i64 w b lb z) (h1 : lb ≤ cb) (h2 : cb ≤ maxLen) (t : TypeId) : SeesM (w.alloc (.cells #[.slice b lb cb] t)) (some ⟨w.heap.size, 0, none⟩) 1 [z] := by
  refine ⟨rfl, fun r hr => ?_⟩
  obtain rfl : r = 0 := by omega
  have hz : row [z] 0 = z := rfl
  rw [hz, h.1]
  exact ⟨w.heap.size, 0, b, cb, rfl, by simp, by simp, h1, h2, h.alloc _⟩
theorem small_one {z : List Int} (h : z.length ≤ 6) : SmallM [z] := by
  unfold SmallM
  show 1 + (0 + (row [z] 0).length) ≤ _
  have : row [z] 0 = z := rfl
  rw [this]
  omega
theorem isMat_len {ms : List (List Int)} {n : Nat} (h : isMat ms (n : Int) = true) : 1 ≤ n ∧ n ≤ 6 := by have := (isMat_true h).1; omega
theorem both_row {ms : List (List Int)} {z : List Int} (h : bothV ms z = true) : ∀ j, -2 ≤ vec z j ∧ vec z j ≤ 2 := fun j => by
  simp only [bothV, Bool.and_eq_true] at h
  rcases Nat.lt_or_ge j z.length with hj | hj
  · exact ((isMat_true h.2).2.2 0 (Nat.lt_succ_self 0)).2 j hj
  · rw [vec_beyond hj]; decide
theorem both_fine {ms : List (List Int)} {z : List Int} (h : bothV ms z = true) : Fine z.length z.length ms := by
  simp only [bothV, Bool.and_eq_true] at h
  have := fine_of h.1
  simpa using this
theorem both_len {ms : List (List Int)} {z : List Int} (h : bothV ms z = true) : 1 ≤ z.length ∧ z.length ≤ 6 := by
  simp only [bothV, Bool.and_eq_true] at h
  exact isMat_len h.1
set_option maxHeartbeats 800000 in
theorem specBoth_any (W : World) (a : Option Addr) (len cap : Nat) (ms : List (List Int)) (b : Option Addr) (lb cb : Nat) (z : List Int) (hsm : SmallM ms) (hs : SeesM W a len ms) (hl : lb ≤ 1073741824) (hc : lb ≤ cb) (hcm : cb ≤ maxLen) (hs2 : Sees .i64 W b lb z) :
    Calls Try.prog 49 #[.slice a len cap, .slice b lb cb] W fun e w' => e = .returned (.bool (bothV ms z)) ∧ Below W.heap.size W w' := by
  obtain rfl : z.length = lb := hs2.1
  have HS := Lib.hid hs
  have HSM := Lib.hid hsm
  have HS2 := Lib.hid hs2
  clear hs hsm hs2
  cases h1 : isMat ms (z.length : Int)
  · have HE : Hid (bothV ms z = false) := Lib.hid (by unfold bothV; rw [h1]; rfl)
    have H1 := Lib.hid h1
    clear h1
    go_enter Try.func49, Try.ntmps49
    go_wp2_with (go_at_call 15; refine (specIsM_any _ a len cap ms (z.length : Int) HSM.out (by omega) (by omega) HS.out).mono ?_; rw [H1.out]; rintro e w1 ⟨rfl, hb1⟩; have HB1 := Lib.hid hb1; clear hb1)
    go_ret
    exact ⟨ret_bool HE.out.symm, HB1.out⟩
  · have hz6 := (isMat_len h1).2
    have HE : Hid (bothV ms z = isMat [z] (z.length : Int)) := Lib.hid (by unfold bothV; rw [h1]; rfl)
    have HSO := Lib.hid (small_one hz6)
    have H1 := Lib.hid h1
    clear h1
    go_enter Try.func49, Try.ntmps49
    go_wp2_with (first
      | (go_at_call 15; refine (specIsM_any _ (some ⟨w1.heap.size, 0, none⟩) 1 1 [z] (z.length : Int) HSO.out (by omega) (by omega) (seesM_one (HS2.out.below HB1.out) hc hcm _)).mono ?_; rintro e w2 ⟨rfl, hb2⟩; have HB2 := Lib.hid (below_up (HB1.out.alloc HB1.out.size _) hb2 (Nat.le_refl _)); clear hb2)
      | (go_at_call 15; refine (specIsM_any _ a len cap ms (z.length : Int) HSM.out (by omega) (by omega) HS.out).mono ?_; rw [H1.out]; rintro e w1 ⟨rfl, hb1⟩; have HB1 := Lib.hid hb1; clear hb1))
    go_ret
    exact ⟨ret_bool HE.out.symm, HB2.out⟩
set_option maxHeartbeats 800000 in
theorem both_any (W : World) (a : Option Addr) (len cap : Nat) (ms : List (List Int)) (b : Option Addr) (lb cb : Nat) (z : List Int) (hsm : SmallM ms) (hs : SeesM W a len ms) (hl : lb ≤ 1073741824) (hc : lb ≤ cb) (hcm : cb ≤ maxLen) (hs2 : Sees .i64 W b lb z) :
    Calls Try.prog 42 #[.slice a len cap, .slice b lb cb] W fun e w' => e = .returned (.bool (bothV ms z)) ∧ Below W.heap.size W w' := by
  obtain rfl : z.length = lb := hs2.1
  have HS := Lib.hid hs
  have HSM := Lib.hid hsm
  have HS2 := Lib.hid hs2
  clear hs hsm hs2
  cases h1 : isMat ms (z.length : Int)
  · have HE : Hid (bothV ms z = false) := Lib.hid (by unfold bothV; rw [h1]; rfl)
    have H1 := Lib.hid h1
    clear h1
    go_enter Try.func42, Try.ntmps42
    go_wp2_with (go_at_call 14; refine (isM_any _ a len cap ms (z.length : Int) HSM.out (by omega) (by omega) HS.out).mono ?_; rw [H1.out]; rintro e w1 ⟨rfl, hb1⟩; have HB1 := Lib.hid hb1; clear hb1)
    go_ret
    exact ⟨ret_bool HE.out.symm, HB1.out⟩
  · have hz6 := (isMat_len h1).2
    have HE : Hid (bothV ms z = isMat [z] (z.length : Int)) := Lib.hid (by unfold bothV; rw [h1]; rfl)
    have HSO := Lib.hid (small_one hz6)
    have H1 := Lib.hid h1
    clear h1
    go_enter Try.func42, Try.ntmps42
    go_wp2_with (first
      | (go_at_call 14; refine (isM_any _ (some ⟨w1.heap.size, 0, none⟩) 1 1 [z] (z.length : Int) HSO.out (by omega) (by omega) (seesM_one (HS2.out.below HB1.out) hc hcm _)).mono ?_; rintro e w2 ⟨rfl, hb2⟩; have HB2 := Lib.hid (below_up (HB1.out.alloc HB1.out.size _) hb2 (Nat.le_refl _)); clear hb2)
      | (go_at_call 14; refine (isM_any _ a len cap ms (z.length : Int) HSM.out (by omega) (by omega) HS.out).mono ?_; rw [H1.out]; rintro e w1 ⟨rfl, hb1⟩; have HB1 := Lib.hid hb1; clear hb1))
    go_ret
    exact ⟨ret_bool HE.out.symm, HB2.out⟩
end Go.Proofs.Ytbclnklejleobaa
