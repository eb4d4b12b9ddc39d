/- The text of rows: the model's function. -/
import Derived.Test.YtbclnklejleobaaDoorFmtN
import Derived.Deep.RegionHeld3
namespace Go.Proofs.YtbclnklejleobaaDoor
open Go.RowKit
def sl (l : List UInt8) : ByteArray := ⟨l.toArray⟩
theorem sl_size (l : List UInt8) : (sl l).size = l.length := by unfold sl; rw [size_list]
theorem sl_app (a b : List UInt8) : sl a ++ sl b = sl (a ++ b) := by
  apply ByteArray.ext
  unfold sl
  simp [ByteArray.data_append]
/-- What stands before row i's text. -/
def baseT (ms : List (List Int)) (i : Nat) : List UInt8 := if i = 0 then [] else rowsT (ms.take i) ++ [59, 32]
/-- Row i's first k cells behind it. -/
def midT (ms : List (List Int)) (i k : Nat) : List UInt8 := baseT ms i ++ rowT ((row ms i).take k)
theorem rowT_nil : rowT [] = [] := by unfold rowT; rw [List.map_nil, Lib.join_nil]
theorem rowsT_nil : rowsT [] = [] := by unfold rowsT; rw [List.map_nil, Lib.join_nil]
theorem midT_zero (ms : List (List Int)) (i : Nat) : midT ms i 0 = baseT ms i := by
  unfold midT
  rw [List.take_zero, rowT_nil, List.append_nil]
theorem midT_all {ms : List (List Int)} {i : Nat} (h : i < ms.length) : midT ms i (row ms i).length = rowsT (ms.take (i + 1)) := by
  rw [rowsT_next h]
  unfold midT baseT
  rw [List.take_length]
  split
  · rw [List.nil_append]
  · rfl
theorem midT_next {ms : List (List Int)} {i k : Nat} (h : k < (row ms i).length) : midT ms i (k + 1) = if k = 0 then midT ms i 0 ++ Lib.itoa ((row ms i).getD 0 0) else midT ms i k ++ [32] ++ Lib.itoa ((row ms i).getD k 0) := by
  rw [midT_zero]
  unfold midT
  rw [rowT_next h]
  split
  · rename_i h0
    rw [h0]
  · simp [List.append_assoc]
theorem tot_le {ms : List (List Int)} {i : Nat} (h : i ≤ ms.length) : ∀ j, j ≤ i → tot (ms.take i) j = tot ms j
  | 0, _ => rfl
  | j + 1, hj => by
    simp only [tot]
    rw [tot_le h j (by omega)]
    congr 1
    have e : row (ms.take i) j = row ms j := by
      unfold row List.getD
      rw [List.getElem?_take, if_pos (by omega)]
    rw [e]
theorem baseT_len {ms : List (List Int)} (hf : ∀ r, r < ms.length → Fits (row ms r)) {i : Nat} (h : i ≤ ms.length) : (baseT ms i).length ≤ 2 * i + 2 + 22 * tot ms i := by
  unfold baseT
  split
  · simp
  · have := rowsT_len (ms := ms.take i) (fun r hr => by
      rw [List.length_take, Nat.min_eq_left h] at hr
      have e : row (ms.take i) r = row ms r := by
        unfold row List.getD
        rw [List.getElem?_take, if_pos hr]
      rw [e]
      exact hf r (by omega))
    rw [List.length_take, Nat.min_eq_left h, tot_le h i (Nat.le_refl _)] at this
    rw [List.length_append]
    simp only [List.length_cons, List.length_nil]
    omega
theorem midT_len {ms : List (List Int)} (hsm : SmallM ms) (hf : ∀ r, r < ms.length → Fits (row ms r)) {i k : Nat} (h : i < ms.length) : (midT ms i k).length ≤ 33554432 := by
  unfold midT
  rw [List.length_append]
  have h1 := baseT_len hf (Nat.le_of_lt h)
  have h2 := rowT_len ((hf i h).take k)
  have h3 : ((row ms i).take k).length ≤ (row ms i).length := by rw [List.length_take]; omega
  have h4 := hsm.row h
  have h5 : ms.length ≤ 1048576 := by unfold SmallM at hsm; omega
  omega
theorem rowsT_sm {ms : List (List Int)} (hsm : SmallM ms) (hf : ∀ r, r < ms.length → Fits (row ms r)) {i : Nat} (h : i ≤ ms.length) : (rowsT (ms.take i)).length ≤ 33554432 := by
  cases i with
  | zero => rw [List.take_zero, rowsT_nil]; simp
  | succ i => rw [← midT_all h]; exact midT_len hsm hf h
theorem base_next {ms : List (List Int)} {i : Nat} (h0 : i ≠ 0) : sl (rowsT (ms.take i)) ++ ⟨#[59, 32]⟩ = sl (midT ms i 0) := by
  have : (⟨#[59, 32]⟩ : ByteArray) = sl [59, 32] := rfl
  rw [this, sl_app, midT_zero, baseT, if_neg h0]
theorem base_zero {ms : List (List Int)} : sl (rowsT (ms.take 0)) = sl (midT ms 0 0) := by
  rw [midT_zero, baseT, if_pos rfl, List.take_zero, rowsT_nil]
theorem mid_next {ms : List (List Int)} {i k : Nat} {x : Int} (h : k < (row ms i).length) (hx : x = (row ms i).getD k 0) (h0 : k ≠ 0) : sl (midT ms i k) ++ ⟨#[32]⟩ ++ strN x = sl (midT ms i (k + 1)) := by
  have : (⟨#[32]⟩ : ByteArray) = sl [32] := rfl
  have e : strN x = sl (Lib.itoa x) := rfl
  rw [this, sl_app, e, sl_app, midT_next h, if_neg h0, hx]
theorem mid_first {ms : List (List Int)} {i : Nat} {x : Int} (h : 0 < (row ms i).length) (hx : x = (row ms i).getD 0 0) : sl (midT ms i 0) ++ strN x = sl (midT ms i 1) := by
  have e : strN x = sl (Lib.itoa x) := rfl
  rw [e, sl_app, midT_next h, if_pos rfl, hx]
theorem strN_size {n : Int} (h0 : -9223372036854775808 ≤ n) (h1 : n ≤ 9223372036854775807) : (strN n).size ≤ 21 := by
  unfold strN
  rw [size_list]
  exact Lib.itoa_length_le n h0 h1
theorem semi_size : (⟨#[59, 32]⟩ : ByteArray).size = 2 := rfl
theorem space_size : (⟨#[32]⟩ : ByteArray).size = 1 := rfl
theorem empty_sl : (⟨#[]⟩ : ByteArray) = sl [] := rfl
theorem specFmtX_any (n : Int) (A : ByteArray) (w : World) (hA : A = strN n) (h1 : -9223372036854775808 ≤ n) (h2 : n ≤ 9223372036854775807) : Calls Tryd.prog 10 #[.int .i64 n] w fun e w' => e = .returned (.string A) ∧ Below w.heap.size w w' := by
  subst hA
  exact specFormat_any n w h1 h2
set_option maxHeartbeats 1600000 in
theorem specFmtM_any (W : World) (a : Option Addr) (len cap : Nat) (ms : List (List Int)) (hsm : SmallM ms) (hs : SeesM W a len ms) :
    Calls Tryd.prog 5 #[.slice a len cap] W fun e w' => e = .returned (.string (fmtM ms)) ∧ Below W.heap.size W w' := by
  have HS := Lib.hid hs
  have HL := Lib.hid hs.1
  have hl : len ≤ 1048576 := by unfold SmallM at hsm; have := hs.1; omega
  have HSM := Lib.hid hsm
  have HF : Hid (∀ r, r < ms.length → Fits (row ms r)) := Lib.hid (fun r hr => sees_fitsM hs (by rw [← hs.1]; exact hr))
  obtain ⟨S, hS⟩ : ∃ S, S = fmtM ms := ⟨_, rfl⟩
  rw [← hS]
  have HV := Lib.hid hS
  clear hs hsm hS
  by_cases h0 : len = 0
  · have HE := Lib.hid (HV.out.trans (fmtM_nil (by rw [HL.out]; exact h0)))
    subst h0
    go_enter Tryd.func5, Tryd.ntmps5
    go_wp2
    go_loopw [3, 4, 5] (fun _ i _ wr => i = .int .i64 0 ∧ Below W.heap.size W wr) (fun _ _ _ _ => 0)
    case atStart => exact ⟨rfl, Below.refl _ _⟩
    case round =>
      obtain ⟨rfl, hb⟩ := hrel
      have HB := Lib.hid hb
      clear hb
      go_wp2
      go_ret
      exact ⟨ret_strM HE.out.symm, HB.out⟩
  · have HE := Lib.hid (HV.out.trans (fmtM_rows (by rw [HL.out]; exact h0)))
    have hne : ¬ (len : Int) = 0 := by omega
    go_enter Tryd.func5, Tryd.ntmps5
    go_wp2
    go_loopw [3, 4, 5] (fun s i _ wr => ∃ (k : Nat) (C : ByteArray), k ≤ len ∧ i = .int .i64 k ∧ s = .string C ∧ Hid (C = sl (rowsT (ms.take k))) ∧ Below W.heap.size W wr) (fun _ i _ _ => len - (intOf i).toNat)
    case atStart => exact ⟨0, _, Nat.zero_le _, rfl, rfl, Lib.hid (by rw [List.take_zero, rowsT_nil]; exact empty_sl), Below.refl _ _⟩
    case round =>
      obtain ⟨i, C, hi, rfl, rfl, HC, hb⟩ := hrel
      have HB := Lib.hid hb
      by_cases hlt : i < len
      · have him : i < ms.length := by rw [HL.out]; exact hlt
        obtain ⟨b, off, ar, cr, rfl, hbl, hc, _, _, hsr⟩ := HS.out.2 i hlt
        have hcs : C.size ≤ 33554432 := by rw [HC.out, sl_size]; exact rowsT_sm HSM.out HF.out (Nat.le_of_lt him)
        obtain ⟨zs, hzs⟩ : ∃ zs, zs = row ms i := ⟨_, rfl⟩
        rw [← hzs] at hc hsr
        have HZ := Lib.hid hzs
        have hzl : zs.length ≤ 1048576 := by have := HSM.out.row him; rw [hzs]; omega
        have HSR := Lib.hid hsr
        have HCW := Lib.hid hc
        clear hc hsr hzs hb
        have HX : Hid ((i = 0 → C = sl (midT ms i 0)) ∧ (i ≠ 0 → C ++ ⟨#[59, 32]⟩ = sl (midT ms i 0))) := Lib.hid ⟨fun h => by rw [HC.out, h]; exact base_zero, fun h => by rw [HC.out]; exact base_next h⟩
        have hs2 : ¬ 9223372036854775807 < C.size + 2 := by omega
        by_cases hi0 : i = 0
        · have HY := Lib.hid (HX.out.1 hi0)
          have hpos : ¬ (0 : Int) < (i : Int) := by omega
          clear hi0
          go_wp2
          go_loopw [3, 5] (fun s q wr2 => ∃ (k : Nat) (C : ByteArray), k ≤ zs.length ∧ q = .int .i64 k ∧ s = .string C ∧ Hid (C = sl (midT ms i k)) ∧ Below W.heap.size W wr2) (fun _ q _ => zs.length - (intOf q).toNat)
          case atStart => exact ⟨0, _, Nat.zero_le _, rfl, rfl, HY, HB.out⟩
          case round =>
            obtain ⟨k, C2, hk, rfl, rfl, HC2, hb⟩ := hrel
            have HB2 := Lib.hid hb
            have hcw := (hb.cell (p := ⟨b, off + i, none⟩) hbl).trans HCW.out
            have hcs2 : C2.size ≤ 33554432 := by rw [HC2.out, sl_size]; exact midT_len HSM.out HF.out him
            by_cases hkl : k < zs.length
            · rcases HSR.out.2.2 with h00 | ⟨b2, o2, rfl, hb2, hc2⟩
              · omega
              · have hcc := (hb.cell (p := ⟨b2, o2 + k, none⟩) hb2).trans (hc2 k hkl)
                have hvb := sees_fits HSR.out _ (getD_mem (l := zs) (j := k) hkl)
                obtain ⟨x, hx⟩ : ∃ x, x = zs.getD k 0 := ⟨_, rfl⟩
                rw [← hx] at hcc hvb
                obtain ⟨hv0, hv1⟩ := hvb
                have HX := Lib.hid hx
                obtain ⟨X, hX⟩ : ∃ X, X = strN x := ⟨_, rfl⟩
                have hxs : X.size ≤ 21 := by rw [hX]; exact strN_size hv0 hv1
                have HXS := Lib.hid hX
                have hs3 : ¬ 9223372036854775807 < C2.size + 1 := by omega
                have hs4 : ¬ 9223372036854775807 < C2.size + 1 + X.size := by omega
                have hs5 : ¬ 9223372036854775807 < C2.size + X.size := by omega
                clear hc2 hb hx hX
                by_cases hk0 : k = 0
                · have hposk : ¬ (0 : Int) < (k : Int) := by omega
                  have HN : Hid (C2 ++ X = sl (midT ms i (k + 1))) := Lib.hid (by
                    rw [HC2.out, HXS.out, hk0]
                    exact mid_first (by rw [← HZ.out]; omega) (by rw [HX.out, HZ.out, hk0]))
                  have HK0 := Lib.hid hk0
                  clear hk0
                  go_wp2_with (go_at_call 10; refine (specFmtX_any x X _ HXS.out hv0 hv1).mono ?_; rintro e w2 ⟨rfl, hb3⟩; have HB3 := Lib.hid (below_up HB2.out hb3 (Nat.le_refl _)); clear hb3)
                  go_roundw
                  case rel => exact ⟨k + 1, _, by omega, by go_num, rfl, HN, HB3.out⟩
                  case measure => simp [intOf]; omega
                · have hposk : (0 : Int) < (k : Int) := by omega
                  have HN : Hid (C2 ++ ⟨#[32]⟩ ++ X = sl (midT ms i (k + 1))) := Lib.hid (by
                    rw [HC2.out, HXS.out]
                    exact mid_next (by rw [← HZ.out]; exact hkl) (by rw [HX.out, HZ.out]) hk0)
                  go_wp2_with (go_at_call 10; refine (specFmtX_any x X _ HXS.out hv0 hv1).mono ?_; rintro e w2 ⟨rfl, hb3⟩; have HB3 := Lib.hid (below_up HB2.out hb3 (Nat.le_refl _)); clear hb3)
                  go_roundw
                  case rel => exact ⟨k + 1, _, by omega, by go_num, rfl, HN, HB3.out⟩
                  case measure => simp [intOf]; omega
            · obtain rfl : k = zs.length := by omega
              have HN : Hid (C2 = sl (rowsT (ms.take (i + 1)))) := Lib.hid (by rw [HC2.out, HZ.out, midT_all him])
              clear hb
              go_wp2
              go_roundw
              case rel => exact ⟨i + 1, _, by omega, by go_num, rfl, HN, HB2.out⟩
              case measure => simp [intOf]; omega
        · obtain ⟨D, hD⟩ : ∃ D, D = C ++ ⟨#[59, 32]⟩ := ⟨_, rfl⟩
          have HY : Hid (D = sl (midT ms i 0)) := Lib.hid (hD.trans (HX.out.2 hi0))
          have hpos : (0 : Int) < (i : Int) := by omega
          have hposn : 0 < i := by omega
          clear hi0
          go_wp2
          rw [← hD]
          clear hD
          go_loopw [3, 5] (fun s q wr2 => ∃ (k : Nat) (C : ByteArray), k ≤ zs.length ∧ q = .int .i64 k ∧ s = .string C ∧ Hid (C = sl (midT ms i k)) ∧ Below W.heap.size W wr2) (fun _ q _ => zs.length - (intOf q).toNat)
          case atStart => exact ⟨0, _, Nat.zero_le _, rfl, rfl, HY, HB.out⟩
          case round =>
            obtain ⟨k, C2, hk, rfl, rfl, HC2, hb⟩ := hrel
            have HB2 := Lib.hid hb
            have hcw := (hb.cell (p := ⟨b, off + i, none⟩) hbl).trans HCW.out
            have hcs2 : C2.size ≤ 33554432 := by rw [HC2.out, sl_size]; exact midT_len HSM.out HF.out him
            by_cases hkl : k < zs.length
            · rcases HSR.out.2.2 with h00 | ⟨b2, o2, rfl, hb2, hc2⟩
              · omega
              · have hcc := (hb.cell (p := ⟨b2, o2 + k, none⟩) hb2).trans (hc2 k hkl)
                have hvb := sees_fits HSR.out _ (getD_mem (l := zs) (j := k) hkl)
                obtain ⟨x, hx⟩ : ∃ x, x = zs.getD k 0 := ⟨_, rfl⟩
                rw [← hx] at hcc hvb
                obtain ⟨hv0, hv1⟩ := hvb
                have HX := Lib.hid hx
                obtain ⟨X, hX⟩ : ∃ X, X = strN x := ⟨_, rfl⟩
                have hxs : X.size ≤ 21 := by rw [hX]; exact strN_size hv0 hv1
                have HXS := Lib.hid hX
                have hs3 : ¬ 9223372036854775807 < C2.size + 1 := by omega
                have hs4 : ¬ 9223372036854775807 < C2.size + 1 + X.size := by omega
                have hs5 : ¬ 9223372036854775807 < C2.size + X.size := by omega
                clear hc2 hb hx hX
                by_cases hk0 : k = 0
                · have hposk : ¬ (0 : Int) < (k : Int) := by omega
                  have HN : Hid (C2 ++ X = sl (midT ms i (k + 1))) := Lib.hid (by
                    rw [HC2.out, HXS.out, hk0]
                    exact mid_first (by rw [← HZ.out]; omega) (by rw [HX.out, HZ.out, hk0]))
                  have HK0 := Lib.hid hk0
                  clear hk0
                  go_wp2_with (go_at_call 10; refine (specFmtX_any x X _ HXS.out hv0 hv1).mono ?_; rintro e w2 ⟨rfl, hb3⟩; have HB3 := Lib.hid (below_up HB2.out hb3 (Nat.le_refl _)); clear hb3)
                  go_roundw
                  case rel => exact ⟨k + 1, _, by omega, by go_num, rfl, HN, HB3.out⟩
                  case measure => simp [intOf]; omega
                · have hposk : (0 : Int) < (k : Int) := by omega
                  have HN : Hid (C2 ++ ⟨#[32]⟩ ++ X = sl (midT ms i (k + 1))) := Lib.hid (by
                    rw [HC2.out, HXS.out]
                    exact mid_next (by rw [← HZ.out]; exact hkl) (by rw [HX.out, HZ.out]) hk0)
                  go_wp2_with (go_at_call 10; refine (specFmtX_any x X _ HXS.out hv0 hv1).mono ?_; rintro e w2 ⟨rfl, hb3⟩; have HB3 := Lib.hid (below_up HB2.out hb3 (Nat.le_refl _)); clear hb3)
                  go_roundw
                  case rel => exact ⟨k + 1, _, by omega, by go_num, rfl, HN, HB3.out⟩
                  case measure => simp [intOf]; omega
            · obtain rfl : k = zs.length := by omega
              have HN : Hid (C2 = sl (rowsT (ms.take (i + 1)))) := Lib.hid (by rw [HC2.out, HZ.out, midT_all him])
              clear hb
              go_wp2
              go_roundw
              case rel => exact ⟨i + 1, _, by omega, by go_num, rfl, HN, HB2.out⟩
              case measure => simp [intOf]; omega
      · obtain rfl : i = len := by omega
        have HE2 : Hid (S = C) := Lib.hid (by
          rw [HE.out, HC.out]
          have := List.take_length (l := ms)
          rw [HL.out] at this
          rw [this]
          rfl)
        clear hb
        go_wp2
        go_ret
        exact ⟨ret_strM HE2.out.symm, HB.out⟩
end Go.Proofs.YtbclnklejleobaaDoor
