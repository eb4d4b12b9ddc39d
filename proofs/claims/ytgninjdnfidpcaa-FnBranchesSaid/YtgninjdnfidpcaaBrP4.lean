/- MissBound and TriesFor, the program's. -/
import Derived.Test.YtgninjdnfidpcaaBrT
import Derived.Test.YtgninjdnfidpcaaBrL
namespace Go.Proofs.Ytgninjdnfidpcaa
open Go.RowKit
def pw (b : Int) : Nat → Int
  | 0 => 1
  | k + 1 => pw b k * b
theorem pa_pw (n : Int) : ∀ k, pa n k = n * pw (n - 1) k
  | 0 => by simp [pa, pw]
  | k + 1 => by rw [pa, pw, pa_pw n k, Int.mul_assoc]
theorem pb_pw (n : Int) : ∀ k, pb n k = pw n k
  | 0 => rfl
  | k + 1 => by rw [pb, pw, pb_pw n k]
theorem pw_bd {b : Int} (h0 : 0 ≤ b) (h1 : b ≤ 4) : ∀ k, k < 21 → 0 ≤ pw b k ∧ pw b k ≤ 1100000000000 := by
  have h : b = 0 ∨ b = 1 ∨ b = 2 ∨ b = 3 ∨ b = 4 := by omega
  rcases h with rfl | rfl | rfl | rfl | rfl
  · decide
  · decide
  · decide
  · decide
  · decide
set_option maxHeartbeats 800000 in
theorem power_any (b : Int) (T : Nat) (W : World) (h0 : 0 ≤ b) (h1 : b ≤ 4) (hT : T ≤ 20) :
    Calls Try.prog 59 #[.int .i64 b, .int .i64 T] W fun e w' => e = .returned (.int .i64 (pw b T)) ∧ W = w' := by
  have HP := Lib.hid (pw_bd h0 h1)
  obtain ⟨v, hv⟩ : ∃ v, v = pw b T := ⟨_, rfl⟩
  rw [← hv]
  have HV := Lib.hid hv
  clear hv h0 h1
  go_enter Try.func59, Try.ntmps59
  go_wp2
  go_loopw [5, 7] (fun x i wr => ∃ k : Nat, k ≤ T ∧ x = .int .i64 (pw b k) ∧ i = .int .i64 k ∧ wr = W) (fun _ i _ => T - (intOf i).toNat)
  case atStart => exact ⟨0, Nat.zero_le _, rfl, rfl, rfl⟩
  case round =>
    obtain ⟨k, hk, rfl, rfl, rfl⟩ := hrel
    by_cases hlt : k < T
    · have hki : (k : Int) < (T : Int) := by omega
      have hb := HP.out (k + 1) (by omega)
      obtain ⟨x, hx⟩ : ∃ x, x = pw b k := ⟨_, rfl⟩
      obtain ⟨x2, hx2⟩ : ∃ x, x = pw b (k + 1) := ⟨_, rfl⟩
      have ex : x * b = x2 := by rw [hx, hx2]; rfl
      rw [← hx2] at hb
      have wx : IntKind.i64.wrap (x * b) = x2 := by rw [ex]; exact IntWalk.i64_in _ (by omega)
      rw [← hx]
      have HX2 := Lib.hid hx2
      clear ex hx hx2 hb
      go_wp2
      go_roundw
      case rel => exact ⟨k + 1, hlt, by rw [← HX2.out], by go_num, trivial⟩
      case measure => simp [intOf]; omega
    · obtain rfl : k = T := by omega
      go_wp2
      go_ret
      exact ⟨ret_int HV.out.symm, rfl⟩
set_option maxRecDepth 20000 in
set_option maxHeartbeats 1600000 in
theorem missP_any (n t : Int) (W : World) : Calls Try.prog 19 #[.int .i64 n, .int .i64 t] W (TwoB (missA n t) (missB n t) W) := by
  obtain ⟨A, hA⟩ : ∃ A, A = missA n t := ⟨_, rfl⟩
  obtain ⟨B, hB⟩ : ∃ B, B = missB n t := ⟨_, rfl⟩
  rw [← hA, ← hB]
  cases h1 : inR n 1 4
  · have H1 := Lib.hid h1
    have HE : Hid (A = 1 ∧ B = 1) := Lib.hid (by have h := miss_no (n := n) (t := t) (by unfold missOk; rw [h1]; rfl); exact ⟨hA.trans h.1, hB.trans h.2⟩)
    clear h1 hA hB
    go_enter Try.func19, Try.ntmps19
    go_wp2_with (go_at_call 58; refine (inRange_any _ _ _ _).mono ?_; rw [H1.out]; rintro e w' ⟨rfl, rfl⟩)
    go_ret2
    exact ⟨by rw [HE.out.1, HE.out.2]; rfl, Below.refl _ _⟩
  · have H1 := Lib.hid h1
    cases h2 : inR t 0 20
    · have H2 := Lib.hid h2
      have HE : Hid (A = 1 ∧ B = 1) := Lib.hid (by have h := miss_no (n := n) (t := t) (by unfold missOk; rw [h1, h2]; rfl); exact ⟨hA.trans h.1, hB.trans h.2⟩)
      clear h1 h2 hA hB
      go_enter Try.func19, Try.ntmps19
      go_wp2_with (go_at_call 58; refine (inRange_any _ _ _ _).mono ?_; (first | rw [H1.out] | rw [H2.out]); rintro e w' ⟨rfl, rfl⟩)
      go_ret2
      exact ⟨by rw [HE.out.1, HE.out.2]; rfl, Below.refl _ _⟩
    · have H2 := Lib.hid h2
      have b1 := inR_true.1 h1
      have b2 := inR_true.1 h2
      obtain ⟨T, rfl⟩ : ∃ T : Nat, t = (T : Int) := ⟨t.toNat, by omega⟩
      have hT : T ≤ 20 := by omega
      obtain ⟨n1, hn1⟩ : ∃ m, m = n - 1 := ⟨_, rfl⟩
      have wn : IntKind.i64.wrap (n - 1) = n1 := (IntWalk.i64_in _ (by omega)).trans hn1.symm
      obtain ⟨x, hx⟩ : ∃ x, x = pw n1 T := ⟨_, rfl⟩
      obtain ⟨y, hy⟩ : ∃ y, y = pw n T := ⟨_, rfl⟩
      have hpb := pab_bd b1.1 b1.2 T (by omega)
      have ea : n * x = pa n T := by rw [pa_pw, hx, hn1]
      have eb : y = pb n T := by rw [pb_pw, hy]
      have wx : IntKind.i64.wrap (n * x) = A := by
        have h := miss_yes (n := n) (k := T) (by unfold missOk; rw [h1, h2]; rfl)
        rw [ea, hA, h.1]
        exact IntWalk.i64_in _ (by omega)
      have HY : Hid (y = B) := Lib.hid (by
        have h := miss_yes (n := n) (k := T) (by unfold missOk; rw [h1, h2]; rfl)
        rw [eb, hB, h.2])
      have HX := Lib.hid hx
      have HYE := Lib.hid hy
      have HB1 := Lib.hid (show (0 ≤ n1 ∧ n1 ≤ 4) ∧ (0 ≤ n ∧ n ≤ 4) by omega)
      clear h1 h2 hA hB b1 b2 hn1 hx hy hpb ea eb
      go_enter Try.func19, Try.ntmps19
      go_wp2_with (first
        | (go_at_call 58; refine (inRange_any _ _ _ _).mono ?_; (first | rw [H1.out] | rw [H2.out]); rintro e w' ⟨rfl, rfl⟩)
        | (go_at_call 59; (with_reducible refine (power_any n1 T _ HB1.out.1.1 HB1.out.1.2 hT).mono ?_); rw [← HX.out]; rintro e w' ⟨rfl, rfl⟩)
        | (go_at_call 59; (with_reducible refine (power_any n T _ HB1.out.2.1 HB1.out.2.2 hT).mono ?_); rw [← HYE.out]; rintro e w' ⟨rfl, rfl⟩))
      go_ret2
      exact ⟨by rw [HY.out]; rfl, Below.refl _ _⟩
set_option maxRecDepth 20000 in
set_option maxHeartbeats 1600000 in
theorem triesP_any (n p : Int) (W : World) : Calls Try.prog 18 #[.int .i64 n, .int .i64 p] W fun e w' => e = .returned (.int .i64 (triesV n p)) ∧ Below W.heap.size W w' := by
  obtain ⟨v, hv⟩ : ∃ v, v = triesV n p := ⟨_, rfl⟩
  rw [← hv]
  have HV := Lib.hid hv
  clear hv
  cases h1 : inR n 1 4
  · have H1 := Lib.hid h1
    have HE : Hid (-1 = v) := Lib.hid (by rw [HV.out]; exact (tries_no (by rw [h1]; rfl)).symm)
    clear h1
    go_enter Try.func18, Try.ntmps18
    go_wp2_with (go_at_call 58; refine (inRange_any _ _ _ _).mono ?_; rw [H1.out]; rintro e w' ⟨rfl, rfl⟩)
    go_ret
    exact ⟨ret_int HE.out, Below.refl _ _⟩
  · have H1 := Lib.hid h1
    cases h2 : inR p 0 100
    · have H2 := Lib.hid h2
      have HE : Hid (-1 = v) := Lib.hid (by rw [HV.out]; exact (tries_no (by rw [h1, h2]; rfl)).symm)
      clear h1 h2
      go_enter Try.func18, Try.ntmps18
      go_wp2_with (go_at_call 58; refine (inRange_any _ _ _ _).mono ?_; (first | rw [H1.out] | rw [H2.out]); rintro e w' ⟨rfl, rfl⟩)
      go_ret
      exact ⟨ret_int HE.out, Below.refl _ _⟩
    · have H2 := Lib.hid h2
      have HOK : Hid ((inR n 1 4 && inR p 0 100) = true) := Lib.hid (by rw [h1, h2]; rfl)
      have b1 := inR_true.1 h1
      have b2 := inR_true.1 h2
      have HP := Lib.hid (pab_bd b1.1 b1.2)
      have HB2 := Lib.hid b2
      have HM : Hid (∀ k : Nat, k < 21 → missA n (k : Int) = pa n k ∧ missB n (k : Int) = pb n k) := Lib.hid (fun k hk => miss_yes (by unfold missOk; rw [h1, inR_true.2 (by omega)]; rfl))
      clear h1 h2 b1 b2
      go_enter Try.func18, Try.ntmps18
      go_wp2_with (go_at_call 58; refine (inRange_any _ _ _ _).mono ?_; (first | rw [H1.out] | rw [H2.out]); rintro e w' ⟨rfl, rfl⟩)
      go_loopw [5, 6, 7, 16] (fun _ _ _ i wr => ∃ k : Nat, k ≤ 21 ∧ i = .int .i64 k ∧ Hid (∀ j, j < k → hitAt n p j = false) ∧ Below W.heap.size W wr) (fun _ _ _ i _ => 21 - (intOf i).toNat)
      case atStart => exact ⟨0, by omega, rfl, Lib.hid (fun j hj => absurd hj (Nat.not_lt_zero _)), Below.refl _ _⟩
      case round =>
        obtain ⟨k, hk, rfl, HR, hb⟩ := hrel
        have HB := Lib.hid hb
        clear hb
        by_cases hlt : k < 21
        · have hki : (k : Int) < 21 := by omega
          obtain ⟨x, hx⟩ : ∃ x, x = pa n k := ⟨_, rfl⟩
          obtain ⟨y, hy⟩ : ∃ y, y = pb n k := ⟨_, rfl⟩
          have hb := HP.out k hlt
          rw [← hx, ← hy] at hb
          have HMK : Hid (missA n (k : Int) = x ∧ missB n (k : Int) = y) := Lib.hid (by rw [hx, hy]; exact HM.out k hlt)
          have hpy0 : 0 ≤ p * y := Int.mul_nonneg HB2.out.1 (by omega)
          have hpy1 : p * y ≤ 100 * y := Int.mul_le_mul_of_nonneg_right HB2.out.2 (by omega)
          have wx : IntKind.i64.wrap (100 * x) = 100 * x := IntWalk.i64_in _ (by omega)
          have wy : IntKind.i64.wrap (p * y) = p * y := IntWalk.i64_in _ (by omega)
          have HHIT : Hid (hitAt n p k = decide (100 * x ≤ p * y)) := Lib.hid (by unfold hitAt; rw [hx, hy])
          clear hx hy hb hpy0 hpy1
          by_cases hh : 100 * x ≤ p * y
          · have HE : Hid ((k : Int) = v) := Lib.hid (by rw [HV.out]; exact (tries_at HOK.out hlt HR.out (by rw [HHIT.out]; exact decide_eq_true hh)).symm)
            go_wp2_with (go_at_call 19; refine (missP_any n (k : Int) _).mono ?_; rw [HMK.out.1, HMK.out.2]; rintro e w' ⟨rfl, hb2⟩; have HB3 := Lib.hid (below_up HB.out hb2 (Nat.le_refl _)); clear hb2)
            go_ret
            exact ⟨ret_int HE.out, HB3.out⟩
          · have HN : Hid (hitAt n p k = false) := Lib.hid (by rw [HHIT.out]; exact decide_eq_false hh)
            go_wp2_with (go_at_call 19; refine (missP_any n (k : Int) _).mono ?_; rw [HMK.out.1, HMK.out.2]; rintro e w' ⟨rfl, hb2⟩; have HB3 := Lib.hid (below_up HB.out hb2 (Nat.le_refl _)); clear hb2)
            go_roundw
            case rel => exact ⟨k + 1, hlt, by go_num, Lib.hid (next_allT HR.out HN.out), HB3.out⟩
            case measure => simp [intOf]; omega
        · obtain rfl : k = 21 := by omega
          have HE : Hid (-1 = v) := Lib.hid (by rw [HV.out]; exact (tries_none HOK.out HR.out).symm)
          go_wp2
          go_ret
          exact ⟨ret_int HE.out, HB.out⟩
end Go.Proofs.Ytgninjdnfidpcaa
