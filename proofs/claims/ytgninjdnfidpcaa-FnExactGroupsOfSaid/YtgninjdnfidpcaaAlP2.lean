/- Whether Ids ascend, the program's. -/
import Derived.Test.YtgninjdnfidpcaaAlU
import Derived.Test.YtgninjdnfidpcaaAlM
namespace Go.Proofs.Ytgninjdnfidpcaa
open Go.RowKit
set_option maxHeartbeats 800000 in
theorem idxC_any (W : World) (a : Option Addr) (len cap : Nat) (zs : List Int) (x : Int) (hl : len ≤ 1073741824) (hs : Sees .i64 W a len zs) :
    Calls Try.prog 113 #[.slice a len cap, .int .i64 x] W fun e w' => ∃ i : Int, e = .returned (.int .i64 i) ∧ decide (i ≥ 0) = hasB zs x ∧ W = w' := by
  have HS := Lib.hid hs
  have HL := Lib.hid hs.1
  clear hs
  go_enter Try.func113, Try.ntmps113
  go_wp2
  go_loopw [5, 8] (fun _ i wr => ∃ k : Nat, k ≤ len ∧ i = .int .i64 k ∧ Hid (∀ j, j < k → ¬ zs.getD j 0 = x) ∧ wr = W) (fun _ i _ => len - (intOf i).toNat)
  case atStart => exact ⟨0, Nat.zero_le _, rfl, Lib.hid (fun j hj => by omega), rfl⟩
  case round =>
    obtain ⟨k, hk, rfl, HA, rfl⟩ := hrel
    by_cases hlt : k < len
    · rcases HS.out.2.2 with h0 | ⟨b, o, rfl, hb, hc⟩
      · omega
      have hx := hc k hlt
      obtain ⟨y, hy⟩ : ∃ y, zs.getD k 0 = y := ⟨_, rfl⟩
      rw [hy] at hx
      have HY := Lib.hid hy
      clear hc hy
      by_cases h : x = y
      · have HE : Hid (decide ((k : Int) ≥ 0) = hasB zs x) := Lib.hid (by rw [hasB_yes (by rw [HL.out]; exact hlt) (HY.out.trans h.symm)]; exact decide_eq_true (by omega))
        subst h
        go_wp2
        go_ret
        exact ⟨_, rfl, HE.out, rfl⟩
      · go_wp2
        go_roundw
        case rel => exact ⟨k + 1, by omega, by go_num, Lib.hid (next_all HA.out (by rw [HY.out]; exact fun e => h e.symm)), trivial⟩
        case measure => simp [intOf]; omega
    · obtain rfl : k = len := by omega
      have HE : Hid (decide ((-1 : Int) ≥ 0) = hasB zs x) := Lib.hid (by rw [hasB_no (fun j hj => HA.out j (by rw [HL.out] at hj; exact hj))]; rfl)
      go_wp2
      go_ret
      exact ⟨_, rfl, HE.out, rfl⟩
set_option maxHeartbeats 800000 in
theorem hasC_any (W : World) (a : Option Addr) (len cap : Nat) (zs : List Int) (x : Int) (hl : len ≤ 1073741824) (hs : Sees .i64 W a len zs) :
    Calls Try.prog 105 #[.slice a len cap, .int .i64 x] W fun e w' => e = .returned (.bool (hasB zs x)) ∧ W = w' := by
  have HX := Lib.hid (idxC_any W a len cap zs x hl hs)
  clear hs
  go_enter Try.func105, Try.ntmps105
  go_wp2_with (go_at_call 113; refine HX.out.mono ?_; rintro e w1 ⟨i, rfl, hd, rfl⟩; have HD := Lib.hid hd; clear hd)
  go_ret
  exact ⟨ret_bool HD.out, rfl⟩
theorem ascB_skip {ad : List Int} {l x y z : Int} {r : List (Int × Int × Int)} (h : hasB ad x = false) : ascB ad l ((x, y, z) :: r) = ascB ad l r := by
  rw [ascB, if_neg (by simp [h])]
theorem ascB_stop {ad : List Int} {l x y z : Int} {r : List (Int × Int × Int)} (h : hasB ad x = true) (h1 : z ≤ l) : ascB ad l ((x, y, z) :: r) = false := by
  rw [ascB, if_pos h, if_pos h1]
theorem ascB_on {ad : List Int} {l x y z : Int} {r : List (Int × Int × Int)} (h : hasB ad x = true) (h1 : ¬ z ≤ l) : ascB ad l ((x, y, z) :: r) = ascB ad z r := by
  rw [ascB, if_pos h, if_neg h1]
set_option maxRecDepth 20000 in
set_option maxHeartbeats 1600000 in
theorem idsP_any (W : World) (a : Option Addr) (len cap : Nat) (zs : List (Int × Int × Int)) (c : Option Addr) (la ca : Nat) (ad : List Int) (hl : len ≤ 1073741824) (hs : SeesY W a len zs) (hla : la ≤ 1073741824) (hsa : Sees .i64 W c la ad) :
    Calls Try.prog 82 #[.slice a len cap, .slice c la ca] W fun e w' => e = .returned (.bool (ascB ad (-1) zs)) ∧ Below W.heap.size W w' := by
  have HS := Lib.hid hs
  have HL := Lib.hid hs.1
  have HA := Lib.hid hsa
  obtain ⟨v, hv⟩ : ∃ v, v = ascB ad (-1) zs := ⟨_, rfl⟩
  rw [← hv]
  have HV := Lib.hid hv
  clear hs hsa hv
  go_enter Try.func82, Try.ntmps82
  go_wp2
  go_loopw [5, 7, 10] (fun s _ i wr => ∃ (k : Nat) (l : Int), k ≤ len ∧ i = .int .i64 k ∧ s = .int .i64 l ∧ Hid (v = ascB ad l (zs.drop k)) ∧ Below W.heap.size W wr) (fun _ _ i _ => len - (intOf i).toNat)
  case atStart => exact ⟨0, -1, Nat.zero_le _, rfl, rfl, Lib.hid (by rw [List.drop_zero]; exact HV.out), Below.refl _ _⟩
  case round =>
    obtain ⟨k, l, hk, rfl, rfl, HR, hb⟩ := hrel
    by_cases hlt : k < len
    · have hkx : k < zs.length := by rw [HL.out]; exact hlt
      obtain ⟨b, o, rfl, hb0, hc⟩ := HS.out.at hlt
      obtain ⟨c0, c1, c2⟩ := hc k hlt
      have hw0 := (hb.cell (p := ⟨b, o + k * 3, none⟩) hb0).trans c0
      have hw1 := (hb.cell (p := ⟨b, o + k * 3 + 1, none⟩) hb0).trans c1
      have hw2 := (hb.cell (p := ⟨b, o + k * 3 + 2, none⟩) hb0).trans c2
      obtain ⟨x, y, z, hp⟩ : ∃ x y z, rep zs k = (x, y, z) := ⟨_, _, _, rfl⟩
      rw [hp] at hw0 hw1 hw2
      have HN : Hid (v = ascB ad l ((x, y, z) :: zs.drop (k + 1))) := Lib.hid (by
        rw [HR.out, List.drop_eq_getElem_cons hkx, ← hp]
        simp [rep, List.getD, hkx])
      have HBA := Lib.hid (hb.alloc hb.size (.cells #[.int .i64 x, .int .i64 y, .int .i64 z] 86))
      have HAD := Lib.hid (HA.out.below HBA.out)
      clear c0 c1 c2 hb hp hc HR
      cases hin : hasB ad x
      · have HI := Lib.hid hin
        have HE := Lib.hid (HN.out.trans (ascB_skip hin))
        clear hin
        go_wp2_with (go_at_call 105; refine (hasC_any _ _ _ _ ad x hla HAD.out).mono ?_; rw [HI.out]; rintro e w' ⟨rfl, rfl⟩)
        go_roundw
        case rel => exact ⟨k + 1, l, by omega, by go_num, rfl, HE, HBA.out⟩
        case measure => simp [intOf]; omega
      · have HI := Lib.hid hin
        by_cases hz : z ≤ l
        · have HE := Lib.hid (HN.out.trans (ascB_stop hin hz))
          clear hin
          go_wp2_with (go_at_call 105; refine (hasC_any _ _ _ _ ad x hla HAD.out).mono ?_; rw [HI.out]; rintro e w' ⟨rfl, rfl⟩)
          go_ret
          exact ⟨ret_bool HE.out.symm, HBA.out⟩
        · have HE := Lib.hid (HN.out.trans (ascB_on hin hz))
          clear hin
          go_wp2_with (go_at_call 105; refine (hasC_any _ _ _ _ ad x hla HAD.out).mono ?_; rw [HI.out]; rintro e w' ⟨rfl, rfl⟩)
          go_roundw
          case rel => exact ⟨k + 1, z, by omega, by go_num, rfl, HE, HBA.out⟩
          case measure => simp [intOf]; omega
    · obtain rfl : k = len := by omega
      have HE : Hid (v = true) := Lib.hid (by rw [HR.out, List.drop_eq_nil_of_le (by rw [HL.out]; exact Nat.le_refl _)]; rfl)
      go_wp2
      go_ret
      exact ⟨ret_bool HE.out.symm, hb⟩
end Go.Proofs.Ytgninjdnfidpcaa
