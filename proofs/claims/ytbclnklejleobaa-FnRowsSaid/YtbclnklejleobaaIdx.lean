/- The library's search in a slice of integers, with the program's tests. -/
import Derived.Test.YtbclnklejleobaaLead
import Derived.Test.YtbclnklejleobaaMat
namespace Go.Proofs.Ytbclnklejleobaa
open Go.RowKit
/-- The first place where p holds, or -1. -/
def idxV (p : Int → Bool) (zs : List Int) : Int := if findA (fun j => if p (zs.getD j 0) then 1 else 0) zs.length 0 = zs.length then -1 else (findA (fun j => if p (zs.getD j 0) then 1 else 0) zs.length 0 : Nat)
theorem idxV_none {p : Int → Bool} {zs : List Int} (h : ∀ j, j < zs.length → p (zs.getD j 0) = false) : idxV p zs = -1 := by
  unfold idxV
  rw [if_pos]
  exact findA_eq (Nat.zero_le _) (by omega) (fun i _ hi => by simp only [h i hi]; rfl) (.inl (by omega))
theorem idxV_at {p : Int → Bool} {zs : List Int} {k : Nat} (hk : k < zs.length) (h : ∀ j, j < k → p (zs.getD j 0) = false) (h1 : p (zs.getD k 0) = true) : idxV p zs = (k : Int) := by
  have e : findA (fun j => if p (zs.getD j 0) then 1 else 0) zs.length 0 = k := findA_eq (Nat.zero_le _) (by omega) (fun i _ hi => by simp only [h i hi]; rfl) (.inr (by simp only [h1]; decide))
  unfold idxV
  rw [e, if_neg (by omega)]
/-- A test: whether an integer lies outside of what a cell may be. -/
def beyondP (x : Int) : Bool := !inR x (-2) 2
def notZeroP (x : Int) : Bool := decide (x ≠ 0)
/-- Where a row begins, or -1. -/
def startV (zs : List Int) : Int := if leadL zs = zs.length then -1 else (leadL zs : Int)
theorem startV_idx (zs : List Int) : idxV notZeroP zs = startV zs := by
  unfold startV
  rcases Nat.lt_or_eq_of_le (leadL_le zs) with h | h
  · rw [if_neg (by omega)]
    exact idxV_at h (fun j hj => by have : vec zs j = 0 := leadL_before hj; unfold vec at this; rw [this]; rfl) (decide_eq_true (leadL_at h))
  · rw [if_pos h]
    exact idxV_none fun j _ => by have : vec zs j = 0 := leadL_all h j; unfold vec at this; rw [this]; rfl
/-- Whether p holds somewhere. -/
def hasV (p : Int → Bool) (zs : List Int) : Bool := decide (0 ≤ idxV p zs)
theorem idxV_lo (p : Int → Bool) (zs : List Int) : -1 ≤ idxV p zs := by unfold idxV; split <;> omega
theorem beyond_any (x : Int) (W : World) : Calls Try.prog 40 #[.int .i64 x] W fun e w' => e = .returned (.bool (beyondP x)) ∧ W = w' := by
  go_enter Try.func40, Try.ntmps40
  go_wp2_with (go_at_call 38; refine (inRange_any _ _ _ _).mono ?_; rintro e w' ⟨rfl, rfl⟩)
  go_ret
  exact ⟨rfl, rfl⟩
theorem notZero_any (x : Int) (W : World) : Calls Try.prog 66 #[.int .i64 x] W fun e w' => e = .returned (.bool (notZeroP x)) ∧ W = w' := by
  by_cases h : x = 0
  · subst h
    go_enter Try.func66, Try.ntmps66
    go_wp2
    go_ret
    exact ⟨rfl, rfl⟩
  · have HE : Hid (notZeroP x = true) := Lib.hid (by simp [notZeroP, h])
    go_enter Try.func66, Try.ntmps66
    go_wp2
    go_ret
    exact ⟨by rw [HE.out]; simp [h], rfl⟩
set_option maxHeartbeats 800000 in
theorem idxBeyond_any (W : World) (a : Option Addr) (len cap : Nat) (zs : List Int) (hl : len ≤ 1073741824) (hs : Sees .i64 W a len zs) :
    Calls Try.prog 62 #[.slice a len cap, .func (.func 40) #[] #[]] W fun e w' => e = .returned (.int .i64 (idxV beyondP zs)) ∧ W = w' := by
  have HS := Lib.hid hs
  have HL := Lib.hid hs.1
  clear hs
  obtain ⟨v, hv⟩ : ∃ v : Int, v = idxV beyondP zs := ⟨_, rfl⟩
  rw [← hv]
  have HV := Lib.hid hv
  clear hv
  go_enter Try.func62, Try.ntmps62
  go_wp2
  go_loop [8, 5] (fun i _ => ∃ k : Nat, k ≤ len ∧ i = .int .i64 k ∧ Hid (∀ j, j < k → beyondP (zs.getD j 0) = false)) (fun i _ => len - (intOf i).toNat)
  case atStart => exact ⟨0, Nat.zero_le _, rfl, Lib.hid (fun j hj => by omega)⟩
  case round =>
    obtain ⟨k, hk, rfl, HZ⟩ := hrel
    by_cases hlt : k < len
    · rcases HS.out.2.2 with h0 | ⟨b, off, rfl, hbB, hcell⟩
      · omega
      · have hc := hcell k hlt
        obtain ⟨x, hx⟩ : ∃ x, x = zs.getD k 0 := ⟨_, rfl⟩
        rw [← hx] at hc
        have HX := Lib.hid hx
        clear hcell hx
        cases hp : beyondP x
        · have HP := Lib.hid hp
          clear hp
          go_wp2_with (go_at_call 40; refine (beyond_any _ _).mono ?_; rw [HP.out]; rintro e w' ⟨rfl, rfl⟩)
          go_round
          case rel => exact ⟨k + 1, by omega, by go_num, Lib.hid (fun j hj => by rcases Nat.lt_or_eq_of_le (Nat.lt_succ_iff.1 hj) with h | h; exact HZ.out j h; subst h; rw [← HX.out]; exact HP.out)⟩
          case measure => simp [intOf]; omega
        · have HP := Lib.hid hp
          clear hp
          have HE : Hid (v = k) := Lib.hid (by rw [HV.out]; exact idxV_at (by rw [HL.out]; exact hlt) HZ.out (by rw [← HX.out]; exact HP.out))
          go_wp2_with (go_at_call 40; refine (beyond_any _ _).mono ?_; rw [HP.out]; rintro e w' ⟨rfl, rfl⟩)
          go_ret
          exact ⟨ret_intV HE.out.symm, rfl⟩
    · obtain rfl : k = len := by omega
      have HE : Hid (v = -1) := Lib.hid (by rw [HV.out]; exact idxV_none (fun j hj => HZ.out j (by rw [HL.out] at hj; exact hj)))
      go_wp2
      go_ret
      exact ⟨ret_intV HE.out.symm, rfl⟩
set_option maxHeartbeats 800000 in
theorem idxNotZero_any (W : World) (a : Option Addr) (len cap : Nat) (zs : List Int) (hl : len ≤ 1073741824) (hs : Sees .i64 W a len zs) :
    Calls Try.prog 62 #[.slice a len cap, .func (.func 66) #[] #[]] W fun e w' => e = .returned (.int .i64 (idxV notZeroP zs)) ∧ W = w' := by
  have HS := Lib.hid hs
  have HL := Lib.hid hs.1
  clear hs
  obtain ⟨v, hv⟩ : ∃ v : Int, v = idxV notZeroP zs := ⟨_, rfl⟩
  rw [← hv]
  have HV := Lib.hid hv
  clear hv
  go_enter Try.func62, Try.ntmps62
  go_wp2
  go_loop [8, 5] (fun i _ => ∃ k : Nat, k ≤ len ∧ i = .int .i64 k ∧ Hid (∀ j, j < k → notZeroP (zs.getD j 0) = false)) (fun i _ => len - (intOf i).toNat)
  case atStart => exact ⟨0, Nat.zero_le _, rfl, Lib.hid (fun j hj => by omega)⟩
  case round =>
    obtain ⟨k, hk, rfl, HZ⟩ := hrel
    by_cases hlt : k < len
    · rcases HS.out.2.2 with h0 | ⟨b, off, rfl, hbB, hcell⟩
      · omega
      · have hc := hcell k hlt
        obtain ⟨x, hx⟩ : ∃ x, x = zs.getD k 0 := ⟨_, rfl⟩
        rw [← hx] at hc
        have HX := Lib.hid hx
        clear hcell hx
        cases hp : notZeroP x
        · have HP := Lib.hid hp
          clear hp
          go_wp2_with (go_at_call 66; refine (notZero_any _ _).mono ?_; rw [HP.out]; rintro e w' ⟨rfl, rfl⟩)
          go_round
          case rel => exact ⟨k + 1, by omega, by go_num, Lib.hid (fun j hj => by rcases Nat.lt_or_eq_of_le (Nat.lt_succ_iff.1 hj) with h | h; exact HZ.out j h; subst h; rw [← HX.out]; exact HP.out)⟩
          case measure => simp [intOf]; omega
        · have HP := Lib.hid hp
          clear hp
          have HE : Hid (v = k) := Lib.hid (by rw [HV.out]; exact idxV_at (by rw [HL.out]; exact hlt) HZ.out (by rw [← HX.out]; exact HP.out))
          go_wp2_with (go_at_call 66; refine (notZero_any _ _).mono ?_; rw [HP.out]; rintro e w' ⟨rfl, rfl⟩)
          go_ret
          exact ⟨ret_intV HE.out.symm, rfl⟩
    · obtain rfl : k = len := by omega
      have HE : Hid (v = -1) := Lib.hid (by rw [HV.out]; exact idxV_none (fun j hj => HZ.out j (by rw [HL.out] at hj; exact hj)))
      go_wp2
      go_ret
      exact ⟨ret_intV HE.out.symm, rfl⟩
theorem hasBeyond_any (W : World) (a : Option Addr) (len cap : Nat) (zs : List Int) (hl : len ≤ 1073741824) (hs : Sees .i64 W a len zs) :
    Calls Try.prog 39 #[.slice a len cap, .func (.func 40) #[] #[]] W fun e w' => e = .returned (.bool (hasV beyondP zs)) ∧ W = w' := by
  have HS := Lib.hid hs
  clear hs
  unfold hasV
  obtain ⟨v, hv⟩ : ∃ v : Int, idxV beyondP zs = v := ⟨_, rfl⟩
  have HV := Lib.hid hv
  rw [hv]
  clear hv
  go_enter Try.func39, Try.ntmps39
  go_wp2_with (go_at_call 62; refine (idxBeyond_any _ _ _ _ zs hl HS.out).mono ?_; rw [HV.out]; rintro e w' ⟨rfl, rfl⟩)
  go_ret
  exact ⟨rfl, rfl⟩
theorem startOf_any (W : World) (a : Option Addr) (len cap : Nat) (zs : List Int) (hl : len ≤ 1073741824) (hs : Sees .i64 W a len zs) :
    Calls Try.prog 47 #[.slice a len cap] W fun e w' => e = .returned (.int .i64 (startV zs)) ∧ W = w' := by
  have HS := Lib.hid hs
  have HV := Lib.hid (startV_idx zs)
  clear hs
  go_enter Try.func47, Try.ntmps47
  go_wp2_with (go_at_call 62; refine (idxNotZero_any _ _ _ _ zs hl HS.out).mono ?_; rw [HV.out]; rintro e w' ⟨rfl, rfl⟩)
  go_ret
  exact ⟨rfl, rfl⟩
end Go.Proofs.Ytbclnklejleobaa
