/- The program's ReduceRows and RankOf. -/
import Derived.Test.YtbclnklejleobaaElimP
import Derived.Test.YtbclnklejleobaaIsMP
namespace Go.Proofs.Ytbclnklejleobaa
open Go.RowKit
theorem rrL_nil (n : Nat) : rrL [] n = [] := by
  have : ∀ k, (redL (([] : List (List Int)).map tidyL) k).1 = [] := by
    intro k
    have h : (redL (([] : List (List Int)).map tidyL) k).1.length = 0 := by
      induction k with
      | zero => rfl
      | succ k ih =>
        show (stepL k (redL _ k)).1.length = 0
        unfold stepL
        split
        · exact ih
        · rw [clrBy_len, swapL_len]; exact ih
    exact List.eq_nil_of_length_eq_zero h
  unfold rrL
  rw [this n]
  simp
theorem elimP_nil (n : Nat) (W : World) (lo hi : Nat) (a : Option Addr) (cap : Nat) (hO : OwnM W lo hi a 0 cap []) :
    Calls Try.prog 36 #[.slice a 0 cap, .int .i64 0, .int .i64 0] W (ElimEnd n [] lo hi a cap W) := by
  have HO := Lib.hid hO
  have HX := Lib.hid (rrL_nil n)
  cases a with
  | none =>
    clear hO
    go_enter Try.func36, Try.ntmps36
    go_wp2
    go_ret
    exact ⟨0, rfl, by rw [HX.out]; exact HO.out, Moved.refl _ _ _⟩
  | some x =>
    have hx : ∃ g, x = ⟨g, 0, none⟩ := by
      obtain ⟨_, _, _, A, C, h4, _⟩ := hO
      rcases ownsRow_spot h4 with ⟨h0, _⟩ | ⟨g, ha, _⟩
      · cases h0
      · exact ⟨g, Option.some.inj ha⟩
    obtain ⟨g, rfl⟩ := hx
    clear hO
    go_enter Try.func36, Try.ntmps36
    go_wp2
    go_ret
    exact ⟨0, rfl, by rw [HX.out]; exact HO.out, Moved.refl _ _ _⟩
theorem elimP_start (n : Nat) (ms : List (List Int)) (hf : Fine n n ms) (hn1 : 1 ≤ n) (W : World) (lo hi : Nat) (a : Option Addr) (len cap : Nat) (hO : OwnM W lo hi a len cap ms) (hlo : lo ≤ W.heap.size) :
    Calls Try.prog 36 #[.slice a len cap, .int .i64 0, .int .i64 0] W (ElimEnd n ms lo hi a cap W) := by
  rcases Nat.eq_zero_or_pos len with h0 | h0
  · subst h0
    obtain rfl : ms = [] := List.eq_nil_of_length_eq_zero hO.1
    exact elimP_nil n W lo hi a cap hO
  · have := elimP_any n ms hf hn1 n 0 0 ms W lo hi a len cap (by omega) (ElimAt.start hf) hO h0 hlo
    simpa using this
theorem ownM_nil (W : World) : OwnM (W.alloc (.cells #[] 29)) W.heap.size (W.heap.size + 1) (some ⟨W.heap.size, 0, none⟩) 0 0 [] :=
  ⟨rfl, by simp, fun x hx => by cases hx; exact ⟨Nat.le_refl _, Nat.lt_succ_self _⟩, fun _ => none, fun _ => 0, ⟨rfl, .inr ⟨W.heap.size, 0, #[], rfl, Nat.le_refl _, heap_alloc_new W _, Nat.le_refl _, Nat.zero_le _, rfl, rfl⟩⟩, fun r hr => absurd hr (Nat.not_lt_zero _)⟩
set_option maxRecDepth 20000 in
set_option maxHeartbeats 800000 in
theorem rrP_any (W : World) (a : Option Addr) (len cap : Nat) (ms : List (List Int)) (cols : Int) (hsm : SmallM ms) (hn : -9223372036854775808 ≤ cols) (hm : cols ≤ 9223372036854775807) (hs : SeesM W a len ms) :
    Calls Try.prog 13 #[.slice a len cap, .int .i64 cols] W (MadeM (rrV ms cols) W) := by
  have HS := Lib.hid hs
  have HSM := Lib.hid hsm
  clear hs hsm
  cases hv : isMat ms cols
  · have HE : Hid (rrV ms cols = []) := Lib.hid (by unfold rrV; rw [hv]; rfl)
    have HV := Lib.hid hv
    clear hv
    go_enter Try.func13, Try.ntmps13
    go_wp2_with (go_at_call 14; refine (isM_any _ a len cap ms cols HSM.out hn hm HS.out).mono ?_; rw [HV.out]; rintro e w1 ⟨rfl, hb1⟩; have HB1 := Lib.hid hb1; clear hb1)
    go_ret
    rw [HE.out]
    exact ⟨_, _, _, rfl, (ownM_nil w1).wide HB1.out.size (by simp) (Nat.le_refl _), HB1.out.alloc HB1.out.size _⟩
  · have HF := Lib.hid (fine_of hv)
    have hc := (isMat_true hv).1
    have HW : Hid (∀ r, r < ms.length → 0 < (row ms r).length) := Lib.hid (fun r hr => by have := ((isMat_true hv).2.2 r hr).1; omega)
    have HE : Hid (rrV ms cols = rrL ms cols.toNat) := Lib.hid (by unfold rrV; rw [if_pos hv])
    have hn1 : 1 ≤ cols.toNat := by omega
    have HV := Lib.hid hv
    clear hv
    go_enter Try.func13, Try.ntmps13
    go_wp2_with (first
      | (go_at_call 14; refine (isM_any _ a len cap ms cols HSM.out hn hm HS.out).mono ?_; rw [HV.out]; rintro e w1 ⟨rfl, hb1⟩; have HB1 := Lib.hid hb1; clear hb1)
      | (go_at_call 37; refine (copyRows_any _ a len cap ms HSM.out (HS.out.below HB1.out) HW.out).mono ?_; rintro e w2 ⟨a2, l2, c2, rfl, ho2, hb2⟩; have HO2 := Lib.hid ho2; have HB2 := Lib.hid hb2; clear ho2 hb2)
      | (go_at_call 36; refine (elimP_start cols.toNat ms HF.out hn1 _ w1.heap.size w2.heap.size a2 l2 c2 HO2.out HB2.out.size).mono ?_; rintro e w3 ⟨r3, rfl, ho3, hm3⟩; have HO3 := Lib.hid ho3; have HM3 := Lib.hid hm3; clear ho3 hm3))
    go_ret
    rw [HE.out]
    exact ⟨_, _, _, rfl, HO3.out.wide HB1.out.size HM3.out.size (Nat.le_refl _), below_moved (below_up HB1.out HB2.out (Nat.le_refl _)) HM3.out (Nat.le_refl _) HB1.out.size⟩
set_option maxRecDepth 20000 in
theorem rank_any (W : World) (a : Option Addr) (len cap : Nat) (ms : List (List Int)) (cols : Int) (hsm : SmallM ms) (hn : -9223372036854775808 ≤ cols) (hm : cols ≤ 9223372036854775807) (hs : SeesM W a len ms) :
    Calls Try.prog 18 #[.slice a len cap, .int .i64 cols] W fun e w' => e = .returned (.int .i64 ((rrV ms cols).length : Int)) ∧ Below W.heap.size W w' := by
  have HS := Lib.hid hs
  have HSM := Lib.hid hsm
  clear hs hsm
  go_enter Try.func18, Try.ntmps18
  go_wp2_with (go_at_call 13; refine (rrP_any _ a len cap ms cols HSM.out hn hm HS.out).mono ?_; rintro e w1 ⟨a1, l1, c1, rfl, hs1, hb1⟩; have HL1 := Lib.hid hs1.1; have HB1 := Lib.hid hb1; clear hs1 hb1)
  go_ret
  exact ⟨ret_intV (by rw [HL1.out]), HB1.out⟩
end Go.Proofs.Ytbclnklejleobaa
