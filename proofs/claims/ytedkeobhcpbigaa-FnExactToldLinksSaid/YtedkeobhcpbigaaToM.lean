/- UnitRow, MissingFor and ToldLinks, the model's. -/
import Derived.Test.YtedkeobhcpbigaaToF
namespace Go.Proofs.Ytedkeobhcpbigaa
open Go.RowKit
set_option maxRecDepth 20000 in
set_option maxHeartbeats 3200000 in
theorem specUnit_any (W : World) (k n : Int) (hk0 : -9223372036854775808 ≤ k) (hk1 : k ≤ 9223372036854775807) : Calls Try.prog 22 #[.int .i64 k, .int .i64 n] W (Made .i64 3 (unitV k n) W) := by
  have HO0 := Lib.hid ((own_nil .i64 3 W).wide (lo2 := W.heap.size) (hi2 := (W.alloc (.cells #[] 3)).heap.size) (Nat.le_refl _) (by simp) (Nat.le_refl _))
  have HB0 := Lib.hid ((Below.refl W.heap.size W).alloc (Nat.le_refl _) (.cells #[] 3))
  cases h1 : inR n 1 6
  · have H1 := Lib.hid h1
    have HE := Lib.hid (unitV_no (k := k) h1)
    clear h1
    go_enter Try.func22, Try.ntmps22
    go_wp2_with (first | (go_at_call 52; refine (l1In_any _ _ _ _).mono ?_; rw [H1.out]; rintro e w' ⟨rfl, rfl⟩))
    go_ret
    exact ⟨_, _, _, rfl, by rw [HE.out]; exact HO0.out, HB0.out⟩
  · have hn := inR_true.1 h1
    have H1 := Lib.hid h1
    have wn : IntKind.i64.wrap (n - 1) = n - 1 := IntWalk.i64_in _ (by omega)
    cases h2 : inR k 0 (n - 1)
    · have H2 := Lib.hid h2
      have HE := Lib.hid (unitV_out h2)
      clear h1 h2
      go_enter Try.func22, Try.ntmps22
      go_wp2_with (first | (go_at_call 52; refine (l1In_any _ _ _ _).mono ?_; (first | rw [H1.out] | rw [H2.out]); rintro e w' ⟨rfl, rfl⟩))
      go_ret
      exact ⟨_, _, _, rfl, by rw [HE.out]; exact HO0.out, HB0.out⟩
    · have H2 := Lib.hid h2
      have HE := Lib.hid (unitV_is h1 h2)
      obtain ⟨m, rfl⟩ : ∃ m : Nat, n = (m : Int) := ⟨n.toNat, by omega⟩
      rw [Int.toNat_natCast] at HE
      have hm : m ≤ 6 := by omega
      obtain ⟨i0, hi, hz0, hz1, hz2⟩ := info_parts info_i64
      clear h1 h2
      go_enter Try.func22, Try.ntmps22
      go_wp2_with (first | (go_at_call 52; refine (l1In_any _ _ _ _).mono ?_; (first | rw [H1.out] | rw [H2.out]); rintro e w' ⟨rfl, rfl⟩))
      go_loopw [5, 6, 7] (fun v s _ wr => ∃ (j : Nat) (a' : Option Addr) (c' : Nat), j ≤ m ∧ s = .int .i64 j ∧ v = .slice a' j c' ∧ Own .i64 3 wr W.heap.size wr.heap.size a' j c' (unitK k j) ∧ Below W.heap.size W wr) (fun _ s _ _ => m - (intOf s).toNat)
      case atStart => exact ⟨0, _, _, Nat.zero_le _, rfl, rfl, HO0.out, HB0.out⟩
      case round =>
        obtain ⟨j, a', c', hj, rfl, rfl, ho, hb⟩ := hrel
        have HO := Lib.hid ho
        have HB := Lib.hid hb
        have hsz := hb.size
        clear ho hb
        by_cases hlt : j < m
        · by_cases hjk : (j : Int) = k
          · have HN : Hid (unitK k (j + 1) = unitK k j ++ [1]) := Lib.hid (by rw [unitK, if_pos hjk])
            subst hjk
            go_wp2_with (at_builtin; refine wp_append_sees rfl _ _ 25 rfl 3 i0 .i64 8 Try.underlying25 hi hz0 hz1 hz2 _ _ _ _ rfl _ _ (HO.out.alloc _) _ _ _ _ rfl (sees_one (x := 1) (by decide) _ _) (by unfold maxLen; omega) (by omega) (by simp; omega) ?_; intro b2 len2 cap2 w2 hlen2 ho2 hm2; subst hlen2; have HO2 := Lib.hid ho2; have HM2 := Lib.hid hm2; clear ho2 hm2)
            go_roundw
            case rel => exact ⟨j + 1, _, _, by omega, by go_num, rfl, by rw [HN.out]; exact HO2.out, below_moved (HB.out.alloc hsz _) HM2.out (Nat.le_refl _) (Nat.le_refl _)⟩
            case measure => simp [intOf]; omega
          · have hjkb : ((j : Int) == k) = false := by simp [hjk]
            have HN : Hid (unitK k (j + 1) = unitK k j ++ [0]) := Lib.hid (by rw [unitK, if_neg hjk])
            go_wp2_with (at_builtin; refine wp_append_sees rfl _ _ 25 rfl 3 i0 .i64 8 Try.underlying25 hi hz0 hz1 hz2 _ _ _ _ rfl _ _ (HO.out.alloc _) _ _ _ _ rfl (sees_one (x := 0) (by decide) _ _) (by unfold maxLen; omega) (by omega) (by simp; omega) ?_; intro b2 len2 cap2 w2 hlen2 ho2 hm2; subst hlen2; have HO2 := Lib.hid ho2; have HM2 := Lib.hid hm2; clear ho2 hm2)
            go_roundw
            case rel => exact ⟨j + 1, _, _, by omega, by go_num, rfl, by rw [HN.out]; exact HO2.out, below_moved (HB.out.alloc hsz _) HM2.out (Nat.le_refl _) (Nat.le_refl _)⟩
            case measure => simp [intOf]; omega
        · obtain rfl : j = m := by omega
          go_wp2
          go_ret
          exact ⟨_, _, _, rfl, by rw [HE.out]; exact HO.out, HB.out⟩
set_option maxHeartbeats 1600000 in
theorem specMissT_any (W : World) (a : Option Addr) (len cap : Nat) (ms : List (List Int)) (cols : Int) (hsm : SmallM ms) (hn : -9223372036854775808 ≤ cols) (hm : cols ≤ 9223372036854775807) (hs : SeesM W a len ms) :
    Calls Try.prog 37 #[.slice a len cap, .int .i64 cols] W fun e w' => e = .returned (.int .i64 (missV ms cols)) ∧ Below W.heap.size W w' := by
  have HS := Lib.hid hs
  have HM := Lib.hid hsm
  obtain ⟨v, hv⟩ : ∃ v, v = missV ms cols := ⟨_, rfl⟩
  rw [← hv]
  cases h1 : isMat ms cols
  · have H1 := Lib.hid h1
    have HE : Hid (v = -1) := Lib.hid (by rw [hv]; unfold missV; rw [h1]; rfl)
    clear h1 hs hsm hv
    go_enter Try.func37, Try.ntmps37
    go_wp2_with (first | (go_at_call 54; refine (specIsM_any _ a len cap ms cols HM.out hn hm HS.out).mono ?_; rw [H1.out]; rintro e w1 ⟨rfl, hb1⟩; have HB1 := Lib.hid hb1; clear hb1))
    go_ret
    exact ⟨ret_int HE.out.symm, HB1.out⟩
  · have H1 := Lib.hid h1
    have hc := (isMat_true h1).1
    have hr12 := rrV_len ms cols
    have HE : Hid (v = cols - ((rrV ms cols).length : Int)) := Lib.hid (by rw [hv]; unfold missV; rw [if_pos h1])
    obtain ⟨r, hr⟩ : ∃ r, r = (rrV ms cols).length := ⟨_, rfl⟩
    rw [← hr] at HE hr12
    have HR := Lib.hid hr
    have wn : IntKind.i64.wrap (cols - (r : Int)) = cols - (r : Int) := IntWalk.i64_in _ (by omega)
    clear h1 hs hsm hv hr
    go_enter Try.func37, Try.ntmps37
    go_wp2_with (first
      | (go_at_call 54; refine (specIsM_any _ a len cap ms cols HM.out hn hm HS.out).mono ?_; rw [H1.out]; rintro e w1 ⟨rfl, hb1⟩; have HB1 := Lib.hid hb1; clear hb1)
      | (go_at_call 57; refine (specRank_any _ a len cap ms cols HM.out hn hm (HS.out.below HB1.out)).mono ?_; rw [← HR.out]; rintro e w2 ⟨rfl, hb2⟩; have HB2 := Lib.hid (below_up HB1.out hb2 (Nat.le_refl _)); clear hb2))
    go_ret
    exact ⟨ret_int HE.out.symm, HB2.out⟩
set_option maxRecDepth 20000 in
set_option maxHeartbeats 3200000 in
theorem specTold_any (W : World) (a : Option Addr) (len cap : Nat) (ms : List (List Int)) (cols : Int) (hsm : SmallM ms) (hn : -9223372036854775808 ≤ cols) (hm : cols ≤ 9223372036854775807) (hs : SeesM W a len ms) :
    Calls Try.prog 28 #[.slice a len cap, .int .i64 cols] W (Made .i64 3 (toldV ms cols) W) := by
  have HS := Lib.hid hs
  have HM := Lib.hid hsm
  have HO0 := Lib.hid ((own_nil .i64 3 W).wide (lo2 := W.heap.size) (hi2 := (W.alloc (.cells #[] 3)).heap.size) (Nat.le_refl _) (by simp) (Nat.le_refl _))
  have HB0 := Lib.hid ((Below.refl W.heap.size W).alloc (Nat.le_refl _) (.cells #[] 3))
  obtain ⟨i0, hi, hz0, hz1, hz2⟩ := info_parts info_i64
  clear hs hsm
  cases h1 : isMat ms cols
  · have H1 := Lib.hid h1
    have HE : Hid (toldV ms cols = []) := Lib.hid (by unfold toldV; rw [h1]; rfl)
    clear h1
    by_cases hpos : 0 < cols
    · go_enter Try.func28, Try.ntmps28
      go_wp2_with fail
      go_loopw [5, 6] (fun v s wr => ∃ (a' : Option Addr) (c' : Nat), s = .int .i64 0 ∧ v = .slice a' 0 c' ∧ Own .i64 3 wr W.heap.size wr.heap.size a' 0 c' [] ∧ Below W.heap.size W wr) (fun _ _ _ => 0)
      case atStart => exact ⟨_, _, rfl, rfl, HO0.out, HB0.out⟩
      case round =>
        obtain ⟨a', c', rfl, rfl, ho, hb⟩ := hrel
        have HO := Lib.hid ho
        have HB := Lib.hid hb
        clear ho hb
        go_wp2_with (first | (go_at_call 54; refine (specIsM_any _ a len cap ms cols HM.out hn hm (HS.out.below HB.out)).mono ?_; rw [H1.out]; rintro e w1 ⟨rfl, hb1⟩; have HO1 := Lib.hid (HO.out.below hb1); have hsz := hb1.size; have HB1 := Lib.hid (below_up HB.out hb1 (Nat.le_refl _)); clear hb1))
        go_ret
        exact ⟨_, _, _, rfl, by rw [HE.out]; exact HO1.out.wide (Nat.le_refl _) hsz (Nat.le_refl _), HB1.out⟩
    · go_enter Try.func28, Try.ntmps28
      go_wp2_with fail
      go_loopw [5, 6] (fun v s wr => ∃ (a' : Option Addr) (c' : Nat), s = .int .i64 0 ∧ v = .slice a' 0 c' ∧ Own .i64 3 wr W.heap.size wr.heap.size a' 0 c' [] ∧ Below W.heap.size W wr) (fun _ _ _ => 0)
      case atStart => exact ⟨_, _, rfl, rfl, HO0.out, HB0.out⟩
      case round =>
        obtain ⟨a', c', rfl, rfl, ho, hb⟩ := hrel
        go_wp2
        go_ret
        exact ⟨_, _, _, rfl, by rw [HE.out]; exact ho, hb⟩
  · have H1 := Lib.hid h1
    have hc := (isMat_true h1).1
    obtain ⟨m, rfl⟩ : ∃ m : Nat, cols = (m : Int) := ⟨cols.toNat, by omega⟩
    have HE : Hid (toldV ms (m : Int) = toldK ms (m : Int) m) := Lib.hid (by unfold toldV; rw [if_pos h1, Int.toNat_natCast])
    clear h1
    go_enter Try.func28, Try.ntmps28
    go_wp2_with fail
    go_loopw [5, 6] (fun v s wr => ∃ (k l' : Nat) (a' : Option Addr) (c' : Nat), k ≤ m ∧ l' ≤ k ∧ s = .int .i64 k ∧ v = .slice a' l' c' ∧ Own .i64 3 wr W.heap.size wr.heap.size a' l' c' (toldK ms (m : Int) k) ∧ Below W.heap.size W wr) (fun _ s _ => m - (intOf s).toNat)
    case atStart => exact ⟨0, 0, _, _, Nat.zero_le _, Nat.zero_le _, rfl, rfl, HO0.out, HB0.out⟩
    case round =>
      obtain ⟨k, l', a', c', hk, hl', rfl, rfl, ho, hb⟩ := hrel
      have HO := Lib.hid ho
      have HB := Lib.hid hb
      by_cases hlt : k < m
      · have hkm : (k : Int) < (m : Int) := by omega
        obtain ⟨us, hus⟩ : ∃ us, us = unitV (k : Int) (m : Int) := ⟨_, rfl⟩
        have hul : us.length ≤ 6 := by rw [hus]; exact unitV_len _ _
        have HUS := Lib.hid hus
        obtain ⟨t, ht⟩ : ∃ t, inSpanV ms us = t := ⟨_, rfl⟩
        have HT := Lib.hid ht
        have HN : Hid (toldK ms (m : Int) (k + 1) = if t = true then toldK ms (m : Int) k ++ [(k : Int)] else toldK ms (m : Int) k) := Lib.hid (by rw [toldK, ← hus, ht])
        have HKW : Hid ((Lit.int .i64 (k : Int)).wf = true) := Lib.hid (WalkArith.wf_i64 (by omega))
        clear ho hb hus ht
        cases t
        · go_wp2_with (first
            | (go_at_call 54; refine (specIsM_any _ a len cap ms _ HM.out hn hm (HS.out.below HB.out)).mono ?_; rw [H1.out]; rintro e w1 ⟨rfl, hb1⟩; have HO1 := Lib.hid (HO.out.below hb1); have hsz1 := hb1.size; have HB1 := Lib.hid (below_up HB.out hb1 (Nat.le_refl _)); clear hb1)
            | (go_at_call 22; refine (specUnit_any _ _ _ (by omega) (by omega)).mono ?_; rw [← HUS.out]; rintro e w2 ⟨a2, l2, c2, rfl, ho2, hb2⟩; have hl2 : us.length = l2 := ho2.1; have hl26 : l2 ≤ 6 := (by omega); have HU2 := Lib.hid ho2; have HO2 := Lib.hid (HO1.out.below hb2); have hsz2 := hb2.size; have HB2 := Lib.hid (below_up HB1.out hb2 (Nat.le_refl _)); clear ho2 hb2)
            | (go_at_call 55; refine (specSpan_any _ a len cap ms a2 l2 c2 us HM.out (HS.out.below HB2.out) (by omega) HU2.out.cap HU2.out.capMax HU2.out.sees).mono ?_; rw [HT.out]; rintro e w3 ⟨rfl, hb3⟩; have HO3 := Lib.hid (HO2.out.below hb3); have hsz3 := hb3.size; have HB3 := Lib.hid (below_up HB2.out hb3 (Nat.le_refl _)); clear hb3))
          go_roundw
          case rel => exact ⟨k + 1, l', _, _, by omega, by omega, by go_num, rfl, by rw [HN.out]; exact HO3.out.wide (Nat.le_refl _) (by omega) (Nat.le_refl _), HB3.out⟩
          case measure => simp [intOf]; omega
        · go_wp2_with (first
            | (go_at_call 54; refine (specIsM_any _ a len cap ms _ HM.out hn hm (HS.out.below HB.out)).mono ?_; rw [H1.out]; rintro e w1 ⟨rfl, hb1⟩; have HO1 := Lib.hid (HO.out.below hb1); have hsz1 := hb1.size; have HB1 := Lib.hid (below_up HB.out hb1 (Nat.le_refl _)); clear hb1)
            | (go_at_call 22; refine (specUnit_any _ _ _ (by omega) (by omega)).mono ?_; rw [← HUS.out]; rintro e w2 ⟨a2, l2, c2, rfl, ho2, hb2⟩; have hl2 : us.length = l2 := ho2.1; have hl26 : l2 ≤ 6 := (by omega); have HU2 := Lib.hid ho2; have HO2 := Lib.hid (HO1.out.below hb2); have hsz2 := hb2.size; have HB2 := Lib.hid (below_up HB1.out hb2 (Nat.le_refl _)); clear ho2 hb2)
            | (go_at_call 55; refine (specSpan_any _ a len cap ms a2 l2 c2 us HM.out (HS.out.below HB2.out) (by omega) HU2.out.cap HU2.out.capMax HU2.out.sees).mono ?_; rw [HT.out]; rintro e w3 ⟨rfl, hb3⟩; have HO3 := Lib.hid (HO2.out.below hb3); have hsz3 := hb3.size; have HB3 := Lib.hid (below_up HB2.out hb3 (Nat.le_refl _)); clear hb3)
            | (at_builtin; refine wp_append_sees rfl _ _ 25 rfl 3 i0 .i64 8 Try.underlying25 hi hz0 hz1 hz2 _ _ _ _ rfl _ _ (HO3.out.alloc _) _ _ _ _ rfl (sees_one (x := (k : Int)) HKW.out _ _) (by unfold maxLen; omega) (by omega) (by have := HB3.out.size; simp; omega) ?_; intro b4 len4 cap4 w4 hlen4 ho4 hm4; subst hlen4; have HO4 := Lib.hid ho4; have HM4 := Lib.hid hm4; clear ho4 hm4))
          go_roundw
          case rel => exact ⟨k + 1, l' + 1, _, _, by omega, by omega, by go_num, rfl, by rw [HN.out]; exact HO4.out, below_moved (HB3.out.alloc HB3.out.size _) HM4.out (Nat.le_refl _) (Nat.le_refl _)⟩
          case measure => simp [intOf]; omega
      · obtain rfl : k = m := by omega
        go_wp2
        go_ret
        exact ⟨_, _, _, rfl, by rw [HE.out]; exact ho, hb⟩
end Go.Proofs.Ytedkeobhcpbigaa
