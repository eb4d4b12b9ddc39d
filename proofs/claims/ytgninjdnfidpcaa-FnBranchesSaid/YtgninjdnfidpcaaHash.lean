/- The hash: the model's function and the program's. -/
import Derived.Test.YtgninjdnfidpcaaSlA
import Derived.Test.YtgninjdnfidpcaaIntW
namespace Go.Proofs.Ytgninjdnfidpcaa
open Go.RowKit
def hstep (d v : Int) : Int := (d * 1000003 + v % 2147483647 + 13) % 2147483647
def hashV (vs : List Int) : Int := vs.foldl hstep 11
theorem hstep_bd (d v : Int) : 0 ≤ hstep d v ∧ hstep d v ≤ 2147483646 := by unfold hstep; omega
theorem foldl_bd : ∀ (vs : List Int) (d : Int), 0 ≤ d → d ≤ 2147483646 → 0 ≤ vs.foldl hstep d ∧ vs.foldl hstep d ≤ 2147483646 := by
  intro vs
  induction vs with
  | nil => intro d h0 h1; exact ⟨h0, h1⟩
  | cons v vs ih =>
    intro d _ _
    have h := hstep_bd d v
    rw [List.foldl_cons]
    exact ih _ h.1 h.2
theorem hashV_bd (vs : List Int) : 0 ≤ hashV vs ∧ hashV vs ≤ 2147483646 := foldl_bd vs 11 (by decide) (by decide)
theorem hashV_next {vs : List Int} {k : Nat} (h : k < vs.length) : hashV (vs.take (k + 1)) = hstep (hashV (vs.take k)) (vs.getD k 0) := by
  have e : vs.take (k + 1) = vs.take k ++ [vs.getD k 0] := by
    rw [List.take_succ_eq_append_getElem h]
    simp [List.getD, h]
  rw [e, hashV, List.foldl_append]
  rfl
/-- A remainder by the modulus. -/
def ModP (v : Int) (w : World) (e : Ending) (w' : World) : Prop := ∃ y : Int, y = v % 2147483647 ∧ (0 ≤ y ∧ y ≤ 2147483646) ∧ e = .returned (.int .i64 y) ∧ w = w'
theorem modV_p (v : Int) : modV v 2147483647 = v % 2147483647 := by
  unfold modV
  rw [if_pos (inR_true.2 (by decide))]
theorem specModP_any (v : Int) (w : World) (h0 : -9223372036854775808 ≤ v) (h1 : v ≤ 9223372036854775807) : Calls Try.prog 66 #[.int .i64 v, .int .i64 2147483647] w (ModP v w) :=
  (specMod_any v 2147483647 w ⟨h0, h1⟩).mono fun _ _ ⟨he, hw⟩ => ⟨_, rfl, by omega, by rw [he, modV_p], hw⟩
theorem modP_any (v : Int) (w : World) (h0 : -9223372036854775808 ≤ v) (h1 : v ≤ 9223372036854775807) : Calls Try.prog 92 #[.int .i64 v, .int .i64 2147483647] w (ModP v w) :=
  (mod_any v 2147483647 w ⟨h0, h1⟩).mono fun _ _ ⟨he, hw⟩ => ⟨_, rfl, by omega, by rw [he, modV_p], hw⟩
set_option maxHeartbeats 800000 in
theorem specHash_any (W : World) (a : Option Addr) (len cap : Nat) (vs : List Int) (hl : len ≤ 1073741840) (hs : Sees .i64 W a len vs) :
    Calls Try.prog 67 #[.slice a len cap] W fun e w' => e = .returned (.int .i64 (hashV vs)) ∧ W = w' := by
  have HS := Lib.hid hs
  have HL := Lib.hid hs.1
  clear hs
  go_enter Try.func67, Try.ntmps67
  go_wp2
  go_loop [3, 4] (fun d i => ∃ (k : Nat) (x : Int), k ≤ len ∧ i = .int .i64 k ∧ d = .int .i64 x ∧ x = hashV (vs.take k)) (fun _ i => len - (intOf i).toNat)
  case atStart => exact ⟨0, 11, Nat.zero_le _, rfl, rfl, rfl⟩
  case round =>
    obtain ⟨k, x, hk, rfl, rfl, hx⟩ := hrel
    have hb := hashV_bd (vs.take k)
    rw [← hx] at hb
    obtain ⟨hx0, hx1⟩ := hb
    have HX := Lib.hid hx
    clear hx
    by_cases hlt : k < len
    · rcases HS.out.2.2 with h0 | ⟨b, off, rfl, hbB, hcell⟩
      · omega
      · have hc := hcell k hlt
        have hvb := bounds_i64 (HS.out.2.1 _ (getD_mem (j := k) (by rw [HL.out]; exact hlt)))
        have HN0 := Lib.hid (hashV_next (vs := vs) (k := k) (by rw [HL.out]; exact hlt))
        obtain ⟨v, hv⟩ : ∃ v, v = vs.getD k 0 := ⟨_, rfl⟩
        rw [← hv] at hc hvb HN0
        rw [← HX.out] at HN0
        obtain ⟨hv0, hv1⟩ := hvb
        clear hcell hv
        go_wp2_with (go_at_call 66; refine (specModP_any _ _ hv0 hv1).mono ?_; rintro e w' ⟨y, hy, ⟨hy0, hy1⟩, rfl, rfl⟩; have HY := Lib.hid hy; clear hy)
        go_round
        case rel => exact ⟨k + 1, _, by omega, by go_num, rfl, by rw [HN0.out, HY.out]; rfl⟩
        case measure => simp [intOf]; omega
    · have HE : Hid (x = hashV vs) := Lib.hid (by rw [HX.out, List.take_of_length_le (by rw [HL.out]; omega)])
      go_wp2
      go_ret
      exact ⟨ret_int HE.out, rfl⟩
set_option maxHeartbeats 800000 in
theorem hash_any (W : World) (a : Option Addr) (len cap : Nat) (vs : List Int) (hl : len ≤ 1073741840) (hs : Sees .i64 W a len vs) :
    Calls Try.prog 93 #[.slice a len cap] W fun e w' => e = .returned (.int .i64 (hashV vs)) ∧ W = w' := by
  have HS := Lib.hid hs
  have HL := Lib.hid hs.1
  clear hs
  go_enter Try.func93, Try.ntmps93
  go_wp2
  go_loop [3, 8] (fun d i => ∃ (k : Nat) (x : Int), k ≤ len ∧ i = .int .i64 k ∧ d = .int .i64 x ∧ x = hashV (vs.take k)) (fun _ i => len - (intOf i).toNat)
  case atStart => exact ⟨0, 11, Nat.zero_le _, rfl, rfl, rfl⟩
  case round =>
    obtain ⟨k, x, hk, rfl, rfl, hx⟩ := hrel
    have hb := hashV_bd (vs.take k)
    rw [← hx] at hb
    obtain ⟨hx0, hx1⟩ := hb
    have HX := Lib.hid hx
    clear hx
    by_cases hlt : k < len
    · rcases HS.out.2.2 with h0 | ⟨b, off, rfl, hbB, hcell⟩
      · omega
      · have hc := hcell k hlt
        have hvb := bounds_i64 (HS.out.2.1 _ (getD_mem (j := k) (by rw [HL.out]; exact hlt)))
        have HN0 := Lib.hid (hashV_next (vs := vs) (k := k) (by rw [HL.out]; exact hlt))
        obtain ⟨v, hv⟩ : ∃ v, v = vs.getD k 0 := ⟨_, rfl⟩
        rw [← hv] at hc hvb HN0
        rw [← HX.out] at HN0
        obtain ⟨hv0, hv1⟩ := hvb
        clear hcell hv
        go_wp2_with (go_at_call 92; refine (modP_any _ _ hv0 hv1).mono ?_; rintro e w' ⟨y, hy, ⟨hy0, hy1⟩, rfl, rfl⟩; have HY := Lib.hid hy; clear hy)
        go_round
        case rel => exact ⟨k + 1, _, by omega, by go_num, rfl, by rw [HN0.out, HY.out]; rfl⟩
        case measure => simp [intOf]; omega
    · have HE : Hid (x = hashV vs) := Lib.hid (by rw [HX.out, List.take_of_length_le (by rw [HL.out]; omega)])
      go_wp2
      go_ret
      exact ⟨ret_int HE.out, rfl⟩
end Go.Proofs.Ytgninjdnfidpcaa
