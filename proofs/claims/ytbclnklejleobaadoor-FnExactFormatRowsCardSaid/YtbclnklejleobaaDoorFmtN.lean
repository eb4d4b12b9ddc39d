/- The text of rows: the program's function and the model's. -/
import Derived.Test.YtbclnklejleobaaDoorFmtM
namespace Go.Proofs.YtbclnklejleobaaDoor
open Go.RowKit
theorem sees_fitsM {w : World} {a : Option Addr} {len : Nat} {ms : List (List Int)} (h : SeesM w a len ms) {r : Nat} (hr : r < len) : Fits (row ms r) := by
  obtain ⟨b, off, ar, cr, _, _, _, _, _, hs⟩ := h.2 r hr
  exact sees_fits hs
theorem ret_strM {a b : ByteArray} (h : a = b) : Ending.returned (.string a) = .returned (.string b) := by rw [h]
theorem fmtM_nil {ms : List (List Int)} (h : ms.length = 0) : fmtM ms = ⟨#[45]⟩ := if_pos h
theorem fmtM_rows {ms : List (List Int)} (h : ¬ ms.length = 0) : fmtM ms = ⟨(rowsT ms).toArray⟩ := if_neg h
theorem strR_at {ms : List (List Int)} {k : Nat} (h : k < (ms.map strR).length) : (ms.map strR)[k] = strR (row ms k) := by
  rw [List.length_map] at h
  simp [row, List.getD, h]
set_option maxHeartbeats 1600000 in
theorem fmtM_any (W : World) (a : Option Addr) (len cap : Nat) (ms : List (List Int)) (hsm : SmallM ms) (hs : SeesM W a len ms) (hT : HasTab W) :
    Calls Tryd.prog 7 #[.slice a len cap] W fun e w' => e = .returned (.string (fmtM ms)) ∧ Below W.heap.size W w' := by
  have HS := Lib.hid hs
  have HL := Lib.hid hs.1
  have hl : len ≤ 1048576 := by unfold SmallM at hsm; have := hs.1; omega
  have HSM := Lib.hid hsm
  have HT := Lib.hid hT
  obtain ⟨S, hS⟩ : ∃ S, S = fmtM ms := ⟨_, rfl⟩
  rw [← hS]
  have HV := Lib.hid hS
  clear hs hsm hT hS
  by_cases h0 : len = 0
  · have HE := Lib.hid (HV.out.trans (fmtM_nil (by rw [HL.out]; exact h0)))
    subst h0
    go_enter Tryd.func7, Tryd.ntmps7
    go_wp2
    go_ret
    exact ⟨ret_strM HE.out.symm, Below.refl _ _⟩
  · have HE := Lib.hid (HV.out.trans (fmtM_rows (by rw [HL.out]; exact h0)))
    have hne : ¬ (len : Int) = 0 := by omega
    obtain ⟨i0, hi, hz0, hz1, hz2⟩ := info_parts info_str
    go_enter Tryd.func7, Tryd.ntmps7
    go_wp2_with (at_make; refine wpList_make_full _ rfl _ _ 32 rfl W.heap.size 9 i0 (.string ⟨#[]⟩) 1 Tryd.underlying32 hi hz0 hz1 _ _ _ _ len rfl rfl rfl rfl (by rw [hz2]; omega) (by unfold maxLen; omega) (by simp) ?_; intro w1 hown1 hgrow1; have HB1 := Lib.hid ((Below.refl W.heap.size W).grown hgrow1 (Nat.le_refl _) (fun k e => by cases e)); have HO1 := Lib.hid (madeS w1 W.heap.size len W.heap.size hown1); clear hown1 hgrow1)
    go_loopw [14, 4, 5] (fun i _ _ wr => ∃ k : Nat, k ≤ len ∧ i = .int .i64 k ∧ OwnS wr W.heap.size (some ⟨W.heap.size, 0, none⟩) len len (wordsTo (ms.map strR) k) ∧ Below W.heap.size W wr) (fun i _ _ _ => len - (intOf i).toNat)
    case atStart => exact ⟨0, Nat.zero_le _, rfl, by rw [wordsTo_zero, List.length_map, HL.out]; exact HO1.out, HB1.out⟩
    case round =>
      obtain ⟨k, hk, rfl, ho, hb⟩ := hrel
      have HO := Lib.hid ho
      have HB := Lib.hid hb
      by_cases hlt : k < len
      · obtain ⟨b, off, ar, cr, rfl, hbl, hc, hle, hcm, hsr⟩ := HS.out.2 k hlt
        have hcw := (hb.cell (p := ⟨b, off + k, none⟩) hbl).trans hc
        have hset := wordsTo_set (ms.map strR) (k := k) (by rw [List.length_map, HL.out]; exact hlt)
        rw [strR_at] at hset
        have hxl : (row ms k).length ≤ 1048576 := by have := HSM.out.row (r := k) (by rw [HL.out]; exact hlt); omega
        obtain ⟨x, hx⟩ : ∃ x, x = row ms k := ⟨_, rfl⟩
        rw [← hx] at hcw hle hsr hset hxl
        have HSET := Lib.hid hset
        have HSR := Lib.hid (hsr.below hb)
        have HTR := Lib.hid (HT.out.below hb)
        clear hc hsr ho hb hx hset hle hcm
        go_wp2_with (go_at_call 12; refine (fmtInts_any _ _ x.length _ x hxl HSR.out HTR.out).mono ?_; rintro e w2 ⟨rfl, hb2⟩; have hO2 := HO.out.below hb2; have HO2 := Lib.hid hO2; have hcd := hO2.spot.2.2.1 k _ (List.getElem?_eq_getElem (show k < (wordsTo (ms.map strR) k).length by rw [wordsTo_len _ (by rw [List.length_map, HL.out]; omega), List.length_map, HL.out]; exact hlt)); rw [Nat.zero_add] at hcd; have hfd := hO2.spot.2.2.2 k; have HB2 := Lib.hid (below_up HB.out hb2 (Nat.le_refl _)); clear hb2 hO2)
        go_roundw
        case rel =>
          have hp := HO2.out.put k (strR x)
          rw [HSET.out] at hp
          exact ⟨k + 1, by omega, by go_num, hp.1, HB2.out.trans hp.2⟩
        case measure => simp [intOf]; omega
      · obtain rfl : k = len := by omega
        have hO : OwnS wr W.heap.size (some ⟨W.heap.size, 0, none⟩) k k (ms.map strR) := by
          have h := ho
          have e := wordsTo_all (ms.map strR)
          rw [List.length_map, HL.out] at e
          rw [e] at h
          exact h
        have hlen : (ms.map strR).length = k := by rw [List.length_map, HL.out]
        have htx : Lib.join ((ms.map strR).map (·.data.toList)) (⟨#[59, 32]⟩ : ByteArray).data.toList = rowsT ms := by
          unfold rowsT
          rw [List.map_map]
          rfl
        have hle := rowsT_len (ms := ms) (fun r hr => sees_fitsM HS.out (by rw [← HL.out]; exact hr))
        have hsm := HSM.out
        unfold SmallM at hsm
        rw [HL.out] at hle hsm
        have hj := Tryd.strings_Join W.heap.size 0 k (ms.map strR) ⟨#[59, 32]⟩ wr hO.spot.2.2.1 hO.spot.1 (by omega) (by omega) (by rw [htx]; omega)
        rw [htx, hlen] at hj
        have HJ := Lib.hid hj
        clear ho hb hO hlen htx hj hle hsm
        go_wp2_with (go_at_call 13; refine HJ.out.mono ?_; rintro e w2 ⟨rfl, hb2⟩; have HB2 := Lib.hid (below_up HB.out hb2 (Nat.le_refl _)); clear hb2)
        go_ret
        exact ⟨ret_strM HE.out.symm, HB2.out⟩
end Go.Proofs.YtbclnklejleobaaDoor
