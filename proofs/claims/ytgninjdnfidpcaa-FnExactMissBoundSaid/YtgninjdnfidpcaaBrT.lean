/- MissBound and TriesFor: plain words, and the model's. -/
import Derived.Test.YtgninjdnfidpcaaIntW
import Derived.Deep.DeepCutAuto
namespace Go.Proofs.Ytgninjdnfidpcaa
open Go.RowKit
def pa (n : Int) : Nat → Int
  | 0 => n
  | k + 1 => pa n k * (n - 1)
def pb (n : Int) : Nat → Int
  | 0 => 1
  | k + 1 => pb n k * n
theorem pab_bd {n : Int} (h1 : 1 ≤ n) (h2 : n ≤ 4) : ∀ k, k < 21 → 0 ≤ pa n k ∧ pa n k ≤ 14000000000 ∧ 1 ≤ pb n k ∧ pb n k ≤ 1100000000000 := by
  have h : n = 1 ∨ n = 2 ∨ n = 3 ∨ n = 4 := by omega
  rcases h with rfl | rfl | rfl | rfl
  · decide
  · decide
  · decide
  · decide
def missOk (n t : Int) : Bool := inR n 1 4 && inR t 0 20
def missA (n t : Int) : Int := if missOk n t = true then pa n t.toNat else 1
def missB (n t : Int) : Int := if missOk n t = true then pb n t.toNat else 1
theorem miss_no {n t : Int} (h : missOk n t = false) : missA n t = 1 ∧ missB n t = 1 := by simp [missA, missB, h]
theorem miss_yes {n : Int} {k : Nat} (h : missOk n (k : Int) = true) : missA n (k : Int) = pa n k ∧ missB n (k : Int) = pb n k := by simp [missA, missB, h]
/-- What MissBound leaves. -/
def Two (a b : Int) (w : World) (e : Ending) (w' : World) : Prop := e = .returned (.tuple #[.int .i64 a, .int .i64 b]) ∧ w = w'
/-- What the program's MissBound leaves. -/
def TwoB (a b : Int) (w : World) (e : Ending) (w' : World) : Prop := e = .returned (.tuple #[.int .i64 a, .int .i64 b]) ∧ Below w.heap.size w w'
set_option maxRecDepth 20000 in
set_option maxHeartbeats 1600000 in
theorem specMiss_any (n t : Int) (W : World) : Calls Try.prog 32 #[.int .i64 n, .int .i64 t] W (Two (missA n t) (missB n t) W) := by
  obtain ⟨A, hA⟩ : ∃ A, A = missA n t := ⟨_, rfl⟩
  obtain ⟨B, hB⟩ : ∃ B, B = missB n t := ⟨_, rfl⟩
  rw [← hA, ← hB]
  cases h1 : inR n 1 4
  · have H1 := Lib.hid h1
    have HE : Hid (A = 1 ∧ B = 1) := Lib.hid (by have h := miss_no (n := n) (t := t) (by unfold missOk; rw [h1]; rfl); exact ⟨hA.trans h.1, hB.trans h.2⟩)
    clear h1 hA hB
    go_enter Try.func32, Try.ntmps32
    go_wp2_with (go_at_call 61; refine (l1In_any _ _ _ _).mono ?_; rw [H1.out]; rintro e w' ⟨rfl, rfl⟩)
    go_ret2
    exact ⟨by rw [HE.out.1, HE.out.2]; rfl, rfl⟩
  · have H1 := Lib.hid h1
    cases h2 : inR t 0 20
    · have H2 := Lib.hid h2
      have HE : Hid (A = 1 ∧ B = 1) := Lib.hid (by have h := miss_no (n := n) (t := t) (by unfold missOk; rw [h1, h2]; rfl); exact ⟨hA.trans h.1, hB.trans h.2⟩)
      clear h1 h2 hA hB
      go_enter Try.func32, Try.ntmps32
      go_wp2_with (go_at_call 61; refine (l1In_any _ _ _ _).mono ?_; (first | rw [H1.out] | rw [H2.out]); rintro e w' ⟨rfl, rfl⟩)
      go_ret2
      exact ⟨by rw [HE.out.1, HE.out.2]; rfl, rfl⟩
    · have H2 := Lib.hid h2
      have b1 := inR_true.1 h1
      have b2 := inR_true.1 h2
      obtain ⟨T, rfl⟩ : ∃ T : Nat, t = (T : Int) := ⟨t.toNat, by omega⟩
      have hT : T ≤ 20 := by omega
      have HE : Hid (A = pa n T ∧ B = pb n T) := Lib.hid (by have h := miss_yes (n := n) (k := T) (by unfold missOk; rw [h1, h2]; rfl); exact ⟨hA.trans h.1, hB.trans h.2⟩)
      have HP := Lib.hid (pab_bd b1.1 b1.2)
      obtain ⟨n1, hn1⟩ : ∃ m, m = n - 1 := ⟨_, rfl⟩
      have wn : IntKind.i64.wrap (n - 1) = n1 := (IntWalk.i64_in _ (by omega)).trans hn1.symm
      have HN1 := Lib.hid hn1
      clear h1 h2 hA hB b1 b2 hn1
      go_enter Try.func32, Try.ntmps32
      go_wp2_with (go_at_call 61; refine (l1In_any _ _ _ _).mono ?_; (first | rw [H1.out] | rw [H2.out]); rintro e w' ⟨rfl, rfl⟩)
      go_loopw [6, 7, 8] (fun a b i wr => ∃ k : Nat, k ≤ T ∧ a = .int .i64 (pa n k) ∧ b = .int .i64 (pb n k) ∧ i = .int .i64 k ∧ wr = W) (fun _ _ i _ => T - (intOf i).toNat)
      case atStart => exact ⟨0, Nat.zero_le _, rfl, rfl, rfl, rfl⟩
      case round =>
        obtain ⟨k, hk, rfl, rfl, rfl, rfl⟩ := hrel
        by_cases hlt : k < T
        · have hki : (k : Int) < (T : Int) := by omega
          have hb := HP.out (k + 1) (by omega)
          obtain ⟨x, hx⟩ : ∃ x, x = pa n k := ⟨_, rfl⟩
          obtain ⟨y, hy⟩ : ∃ y, y = pb n k := ⟨_, rfl⟩
          obtain ⟨x2, hx2⟩ : ∃ x, x = pa n (k + 1) := ⟨_, rfl⟩
          obtain ⟨y2, hy2⟩ : ∃ y, y = pb n (k + 1) := ⟨_, rfl⟩
          have ex : x * n1 = x2 := by rw [hx, hx2, HN1.out]; rfl
          have ey : y * n = y2 := by rw [hy, hy2]; rfl
          have wx : IntKind.i64.wrap (x * n1) = x2 := by rw [ex]; exact IntWalk.i64_in _ (by omega)
          have wy : IntKind.i64.wrap (y * n) = y2 := by rw [ey]; exact IntWalk.i64_in _ (by omega)
          rw [← hx, ← hy]
          have HX2 := Lib.hid hx2
          have HY2 := Lib.hid hy2
          clear ex ey hx hy hx2 hy2 hb
          go_wp2
          go_roundw
          case rel => exact ⟨k + 1, hlt, by rw [← HX2.out], by rw [← HY2.out], by go_num, trivial⟩
          case measure => simp [intOf]; omega
        · obtain rfl : k = T := by omega
          go_wp2
          go_ret2
          exact ⟨by rw [HE.out.1, HE.out.2]; rfl, rfl⟩
def hitAt (n p : Int) (t : Nat) : Bool := decide (100 * pa n t ≤ p * pb n t)
def triesI (n p : Int) : Nat := (List.range 21).findIdx (hitAt n p)
def triesV (n p : Int) : Int := if (inR n 1 4 && inR p 0 100) = true then (if triesI n p < 21 then (triesI n p : Int) else -1) else -1
theorem triesI_at {n p : Int} {k : Nat} (hk : k < 21) (h : ∀ j, j < k → hitAt n p j = false) (h1 : hitAt n p k = true) : triesI n p = k := by
  have hl : k < (List.range 21).length := by simpa using hk
  exact (List.findIdx_eq hl).2 ⟨by simpa using h1, fun j hj => by simpa using h j hj⟩
theorem triesI_none {n p : Int} (h : ∀ j, j < 21 → hitAt n p j = false) : triesI n p = 21 := by
  have e := List.findIdx_eq_length (p := hitAt n p) (xs := List.range 21)
  unfold triesI
  rw [show (21 : Nat) = (List.range 21).length by simp]
  exact e.2 fun x hx => by rw [List.mem_range] at hx; exact h x hx
theorem tries_no {n p : Int} (h : (inR n 1 4 && inR p 0 100) = false) : triesV n p = -1 := by unfold triesV; rw [if_neg (by simp [h])]
theorem tries_at {n p : Int} (h0 : (inR n 1 4 && inR p 0 100) = true) {k : Nat} (hk : k < 21) (h : ∀ j, j < k → hitAt n p j = false) (h1 : hitAt n p k = true) : triesV n p = (k : Int) := by
  unfold triesV
  rw [if_pos h0, triesI_at hk h h1, if_pos hk]
theorem tries_none {n p : Int} (h0 : (inR n 1 4 && inR p 0 100) = true) (h : ∀ j, j < 21 → hitAt n p j = false) : triesV n p = -1 := by
  unfold triesV
  rw [if_pos h0, triesI_none h, if_neg (by decide)]
theorem next_allT {P : Nat → Prop} {k : Nat} (h : ∀ j, j < k → P j) (h1 : P k) : ∀ j, j < k + 1 → P j := fun j hj => by
  rcases Nat.lt_or_eq_of_le (Nat.lt_succ_iff.1 hj) with h2 | h2
  · exact h j h2
  · rw [h2]; exact h1
set_option maxRecDepth 20000 in
set_option maxHeartbeats 1600000 in
theorem specTries_any (n p : Int) (W : World) : Calls Try.prog 33 #[.int .i64 n, .int .i64 p] W fun e w' => e = .returned (.int .i64 (triesV n p)) ∧ W = w' := by
  obtain ⟨v, hv⟩ : ∃ v, v = triesV n p := ⟨_, rfl⟩
  rw [← hv]
  have HV := Lib.hid hv
  clear hv
  cases h1 : inR n 1 4
  · have H1 := Lib.hid h1
    have HE : Hid (-1 = v) := Lib.hid (by rw [HV.out]; exact (tries_no (by rw [h1]; rfl)).symm)
    clear h1
    go_enter Try.func33, Try.ntmps33
    go_wp2_with (go_at_call 61; refine (l1In_any _ _ _ _).mono ?_; rw [H1.out]; rintro e w' ⟨rfl, rfl⟩)
    go_ret
    exact ⟨ret_int HE.out, rfl⟩
  · have H1 := Lib.hid h1
    cases h2 : inR p 0 100
    · have H2 := Lib.hid h2
      have HE : Hid (-1 = v) := Lib.hid (by rw [HV.out]; exact (tries_no (by rw [h1, h2]; rfl)).symm)
      clear h1 h2
      go_enter Try.func33, Try.ntmps33
      go_wp2_with (go_at_call 61; refine (l1In_any _ _ _ _).mono ?_; (first | rw [H1.out] | rw [H2.out]); rintro e w' ⟨rfl, rfl⟩)
      go_ret
      exact ⟨ret_int HE.out, rfl⟩
    · have H2 := Lib.hid h2
      have HOK : Hid ((inR n 1 4 && inR p 0 100) = true) := Lib.hid (by rw [h1, h2]; rfl)
      have b1 := inR_true.1 h1
      have b2 := inR_true.1 h2
      have HP := Lib.hid (pab_bd b1.1 b1.2)
      have HB2 := Lib.hid b2
      have HM : Hid (∀ k : Nat, k < 21 → missA n (k : Int) = pa n k ∧ missB n (k : Int) = pb n k) := Lib.hid (fun k hk => miss_yes (by unfold missOk; rw [h1, inR_true.2 (by omega)]; rfl))
      clear h1 h2 b1 b2
      go_enter Try.func33, Try.ntmps33
      go_wp2_with (go_at_call 61; refine (l1In_any _ _ _ _).mono ?_; (first | rw [H1.out] | rw [H2.out]); rintro e w' ⟨rfl, rfl⟩)
      go_loopw [5, 6, 7, 20] (fun i _ _ _ wr => ∃ k : Nat, k ≤ 21 ∧ i = .int .i64 k ∧ Hid (∀ j, j < k → hitAt n p j = false) ∧ wr = W) (fun i _ _ _ _ => 21 - (intOf i).toNat)
      case atStart => exact ⟨0, by omega, rfl, Lib.hid (fun j hj => absurd hj (Nat.not_lt_zero _)), rfl⟩
      case round =>
        obtain ⟨k, hk, rfl, HR, rfl⟩ := hrel
        by_cases hlt : k < 21
        · have hki : (k : Int) ≤ 20 := by omega
          obtain ⟨x, hx⟩ : ∃ x, x = pa n k := ⟨_, rfl⟩
          obtain ⟨y, hy⟩ : ∃ y, y = pb n k := ⟨_, rfl⟩
          have hb := HP.out k hlt
          rw [← hx, ← hy] at hb
          have HMK : Hid (missA n (k : Int) = x ∧ missB n (k : Int) = y) := Lib.hid (by rw [hx, hy]; exact HM.out k hlt)
          have hpy0 : 0 ≤ p * y := Int.mul_nonneg HB2.out.1 (by omega)
          have hpy1 : p * y ≤ 100 * y := Int.mul_le_mul_of_nonneg_right HB2.out.2 (by omega)
          have wx : IntKind.i64.wrap (100 * x) = 100 * x := IntWalk.i64_in _ (by omega)
          have wy : IntKind.i64.wrap (p * y) = p * y := IntWalk.i64_in _ (by omega)
          have HHIT : Hid (hitAt n p k = decide (100 * x ≤ p * y)) := Lib.hid (by unfold hitAt; rw [hx, hy])
          clear hx hy hb hpy0 hpy1
          by_cases hh : 100 * x ≤ p * y
          · have HE : Hid ((k : Int) = v) := Lib.hid (by rw [HV.out]; exact (tries_at HOK.out hlt HR.out (by rw [HHIT.out]; exact decide_eq_true hh)).symm)
            go_wp2_with (go_at_call 32; refine (specMiss_any n (k : Int) _).mono ?_; rw [HMK.out.1, HMK.out.2]; rintro e w' ⟨rfl, rfl⟩)
            go_ret
            exact ⟨ret_int HE.out, rfl⟩
          · have HN : Hid (hitAt n p k = false) := Lib.hid (by rw [HHIT.out]; exact decide_eq_false hh)
            go_wp2_with (go_at_call 32; refine (specMiss_any n (k : Int) _).mono ?_; rw [HMK.out.1, HMK.out.2]; rintro e w' ⟨rfl, rfl⟩)
            go_roundw
            case rel => exact ⟨k + 1, hlt, by go_num, Lib.hid (next_allT HR.out HN.out), trivial⟩
            case measure => simp [intOf]; omega
        · obtain rfl : k = 21 := by omega
          have HE : Hid (-1 = v) := Lib.hid (by rw [HV.out]; exact (tries_none HOK.out HR.out).symm)
          go_wp2
          go_ret
          exact ⟨ret_int HE.out, rfl⟩
end Go.Proofs.Ytgninjdnfidpcaa
