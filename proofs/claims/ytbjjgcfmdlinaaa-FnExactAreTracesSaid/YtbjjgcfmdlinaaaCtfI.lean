/- The library's IndexFunc and ContainsFunc of numbers, with any plain function. -/
import Derived.Test.YtbjjgcfmdlinaaaSlA
import Derived.Test.YtbjjgcfmdlinaaaIntW
import Derived.Test.YtbjjgcfmdlinaaaIdxG
namespace Go.Proofs.Ytbjjgcfmdlinaaa
open Go.RowKit
/-- A plain function that says of a number whether p holds. -/
def SaysI (K : Nat) (p : Int → Bool) : Prop := Plain K ∧ ∀ (x : Int) (w : World), Calls Try.prog K #[.int .i64 x] w fun e w' => e = .returned (.bool (p x)) ∧ Below w.heap.size w w'
set_option maxHeartbeats 1600000 in
theorem idxI_any {K : Nat} {p : Int → Bool} (hK : SaysI K p) (W : World) (a : Option Addr) (len cap : Nat) (zs : List Int) (hl : len ≤ 1073741824) (hs : Sees .i64 W a len zs) :
    Calls Try.prog 87 #[.slice a len cap, .func (.func K) #[] #[]] W fun e w' => e = .returned (.int .i64 (idxG p zs)) ∧ Below W.heap.size W w' := by
  have HS := Lib.hid hs
  have HL := Lib.hid hs.1
  have HK := Lib.hid hK.2
  have HPL := Lib.hid hK.1
  clear hs hK
  obtain ⟨v, hv⟩ : ∃ v : Int, v = idxG p zs := ⟨_, rfl⟩
  rw [← hv]
  have HV := Lib.hid hv
  clear hv
  go_enter Try.func87, Try.ntmps87
  go_wp2
  go_loopw [8, 5] (fun i _ wr => ∃ k : Nat, k ≤ len ∧ i = .int .i64 k ∧ Hid (∀ j, j < k → p (zs.getD j 0) = false) ∧ Below W.heap.size W wr) (fun i _ _ => len - (intOf i).toNat)
  case atStart => exact ⟨0, Nat.zero_le _, rfl, Lib.hid (fun j hj => by omega), Below.refl _ _⟩
  case round =>
    obtain ⟨k, hk, rfl, HZ, hb⟩ := hrel
    have HB := Lib.hid hb
    by_cases hlt : k < len
    · rcases HS.out.2.2 with h0 | ⟨b, off, rfl, hbB, hcell⟩
      · omega
      · have hc := (hb.cell (p := ⟨b, off + k, none⟩) hbB).trans (hcell k hlt)
        obtain ⟨x, hx⟩ : ∃ x, x = zs.getD k 0 := ⟨_, rfl⟩
        rw [← hx] at hc
        have HX := Lib.hid hx
        clear hcell hx hb
        cases hp : p x
        · have HP := Lib.hid hp
          clear hp
          have hcf := HPL.out #[.int .i64 x] wr
          go_wp2_with (refine (HK.out x _).mono ?_; rw [HP.out]; rintro e w2 ⟨rfl, hb2⟩; have HB2 := Lib.hid (below_up HB.out hb2 (Nat.le_refl _)); clear hb2)
          go_roundw
          case rel => exact ⟨k + 1, by omega, by go_num, Lib.hid (fun j hj => by rcases Nat.lt_or_eq_of_le (Nat.lt_succ_iff.1 hj) with h | h; exact HZ.out j h; subst h; rw [← HX.out]; exact HP.out), HB2.out⟩
          case measure => simp [intOf]; omega
        · have HP := Lib.hid hp
          clear hp
          have HE : Hid (v = k) := Lib.hid (by rw [HV.out]; exact idxG_at 0 (by rw [HL.out]; exact hlt) (by rw [← HX.out]; exact HP.out) HZ.out)
          have hcf := HPL.out #[.int .i64 x] wr
          go_wp2_with (refine (HK.out x _).mono ?_; rw [HP.out]; rintro e w2 ⟨rfl, hb2⟩; have HB2 := Lib.hid (below_up HB.out hb2 (Nat.le_refl _)); clear hb2)
          go_ret
          exact ⟨ret_int HE.out.symm, HB2.out⟩
    · obtain rfl : k = len := by omega
      have HE : Hid (v = -1) := Lib.hid (by rw [HV.out]; exact idxG_none 0 (fun j hj => HZ.out j (by rw [HL.out] at hj; exact hj)))
      clear hb
      go_wp2
      go_ret
      exact ⟨ret_int HE.out.symm, HB.out⟩
theorem hasI_any {K : Nat} {p : Int → Bool} (hK : SaysI K p) (W : World) (a : Option Addr) (len cap : Nat) (zs : List Int) (hl : len ≤ 1073741824) (hs : Sees .i64 W a len zs) :
    Calls Try.prog 74 #[.slice a len cap, .func (.func K) #[] #[]] W fun e w' => e = .returned (.bool (zs.any p)) ∧ Below W.heap.size W w' := by
  have HX := Lib.hid (idxI_any hK W a len cap zs hl hs)
  have HC := Lib.hid (idxG_any p zs)
  obtain ⟨i, hi⟩ : ∃ i, idxG p zs = i := ⟨_, rfl⟩
  rw [hi] at HC HX
  rw [← HC.out]
  clear hi hs hK
  go_enter Try.func74, Try.ntmps74
  go_wp2_with (go_at_call 87; refine HX.out.mono ?_; rintro e w1 ⟨rfl, hb1⟩; have HB1 := Lib.hid hb1; clear hb1)
  go_ret
  exact ⟨rfl, HB1.out⟩
end Go.Proofs.Ytbjjgcfmdlinaaa
