/- UnitRow, MissingFor and UsefulRows, the program's. -/
import Derived.Test.YtedkeobhcpbigaaToG
import Derived.Test.YtedkeobhcpbigaaElimP
namespace Go.Proofs.Ytedkeobhcpbigaa
open Go.RowKit
theorem unitK_set {m k : Nat} (hk : k < m) : (List.replicate m (0 : Int)).set k 1 = unitK (k : Int) m := by
  have key : ∀ n, unitK (k : Int) n = (List.range n).map (fun j => if j = k then (1 : Int) else 0) := fun n => by
    induction n with
    | zero => rfl
    | succ n ih =>
      rw [unitK, ih, List.range_succ, List.map_append]
      congr 1
      by_cases h : n = k
      · subst h; simp
      · have : ¬ (n : Int) = (k : Int) := by omega
        simp [h, this]
  rw [key]
  refine List.ext_getElem (by simp) fun j h1 h2 => ?_
  rw [List.getElem_set, List.getElem_replicate, List.getElem_map, List.getElem_range]
  by_cases h : k = j
  · rw [if_pos h, if_pos h.symm]
  · rw [if_neg h, if_neg (Ne.symm h)]
set_option maxRecDepth 20000 in
set_option maxHeartbeats 1600000 in
theorem unitP_any (W : World) (k n : Int) (hk0 : -9223372036854775808 ≤ k) (hk1 : k ≤ 9223372036854775807) : Calls Try.prog 23 #[.int .i64 k, .int .i64 n] W (Made .i64 3 (unitV k n) W) := by
  cases h1 : inR n 1 6
  · have H1 := Lib.hid h1
    have HE := Lib.hid (unitV_no (k := k) h1)
    clear h1
    go_enter Try.func23, Try.ntmps23
    go_wp2_with (first | (go_at_call 43; refine (inRange_any _ _ _ _).mono ?_; rw [H1.out]; rintro e w' ⟨rfl, rfl⟩))
    go_ret
    exact ⟨_, _, _, rfl, by rw [HE.out]; exact own_empty _ _ (Nat.le_refl _), (Below.refl _ _).alloc (Nat.le_refl _) _⟩
  · have hn := inR_true.1 h1
    have H1 := Lib.hid h1
    have wn : IntKind.i64.wrap (n - 1) = n - 1 := IntWalk.i64_in _ (by omega)
    cases h2 : inR k 0 (n - 1)
    · have H2 := Lib.hid h2
      have HE := Lib.hid (unitV_out h2)
      clear h1 h2
      go_enter Try.func23, Try.ntmps23
      go_wp2_with (first | (go_at_call 43; refine (inRange_any _ _ _ _).mono ?_; (first | rw [H1.out] | rw [H2.out]); rintro e w' ⟨rfl, rfl⟩))
      go_ret
      exact ⟨_, _, _, rfl, by rw [HE.out]; exact own_empty _ _ (Nat.le_refl _), (Below.refl _ _).alloc (Nat.le_refl _) _⟩
    · have hk := inR_true.1 h2
      have H2 := Lib.hid h2
      have he := unitV_is h1 h2
      obtain ⟨m, rfl⟩ : ∃ m : Nat, n = (m : Int) := ⟨n.toNat, by omega⟩
      obtain ⟨j, rfl⟩ : ∃ j : Nat, k = (j : Int) := ⟨k.toNat, by omega⟩
      have hjm : j < m := by omega
      rw [Int.toNat_natCast, ← unitK_set hjm] at he
      have HE := Lib.hid he
      have hm : m ≤ 6 := by omega
      obtain ⟨i0, hi, hz0, hz1, hz2⟩ := info_parts info_i64
      have i0j : (0 : Int) ≤ (j : Int) := by omega
      have i1j : (j : Int) < (m : Int) := by omega
      clear h1 h2 he
      go_enter Try.func23, Try.ntmps23
      go_wp2_with (first
        | (go_at_call 43; refine (inRange_any _ _ _ _).mono ?_; (first | rw [H1.out] | rw [H2.out]); rintro e w' ⟨rfl, rfl⟩)
        | (at_make; refine wp_make_room _ rfl _ _ 25 rfl 3 i0 .i64 8 Try.underlying25 hi hz0 hz1 hz2 _ _ _ _ m m rfl rfl rfl rfl (Nat.le_refl _) (by omega) (by unfold maxLen; omega) ?_; intro w5 ho5 hb5; have HO5 := Lib.hid ho5; have HB5 := Lib.hid hb5; have hcd5 := ho5.spot; clear ho5 hb5; rcases hcd5 with ⟨hcd5, _⟩ | ⟨g', hcd5, _, _, _, _, hcs5, hfz5⟩ <;> first | (cases hcd5; done) | skip; cases hcd5; have hcd5 := hcs5 j hjm; have hfd5 := hfz5 j; clear hcs5 hfz5))
      have HST := Lib.hid (HO5.out.stored j 1 (by decide))
      go_ret
      exact ⟨_, _, _, rfl, by rw [HE.out]; exact HST.out.1.wide (Nat.le_refl _) HST.out.2.size (Nat.le_refl _), below_moved HB5.out HST.out.2 (Nat.le_refl _) (Nat.le_refl _)⟩
set_option maxHeartbeats 1600000 in
theorem missTP_any (W : World) (a : Option Addr) (len cap : Nat) (ms : List (List Int)) (cols : Int) (hsm : SmallM ms) (hn : -9223372036854775808 ≤ cols) (hm : cols ≤ 9223372036854775807) (hs : SeesM W a len ms) :
    Calls Try.prog 20 #[.slice a len cap, .int .i64 cols] W fun e w' => e = .returned (.int .i64 (missV ms cols)) ∧ Below W.heap.size W w' := by
  have HS := Lib.hid hs
  have HM := Lib.hid hsm
  obtain ⟨v, hv⟩ : ∃ v, v = missV ms cols := ⟨_, rfl⟩
  rw [← hv]
  cases h1 : isMat ms cols
  · have H1 := Lib.hid h1
    have HE : Hid (v = -1) := Lib.hid (by rw [hv]; unfold missV; rw [h1]; rfl)
    clear h1 hs hsm hv
    go_enter Try.func20, Try.ntmps20
    go_wp2_with (first | (go_at_call 19; refine (isM_any _ a len cap ms cols HM.out hn hm HS.out).mono ?_; rw [H1.out]; rintro e w1 ⟨rfl, hb1⟩; have HB1 := Lib.hid hb1; clear hb1))
    go_ret
    exact ⟨ret_int HE.out.symm, HB1.out⟩
  · have H1 := Lib.hid h1
    have hc := (isMat_true h1).1
    have hr12 := rrV_len ms cols
    have HE : Hid (v = cols - ((rrV ms cols).length : Int)) := Lib.hid (by rw [hv]; unfold missV; rw [if_pos h1])
    obtain ⟨r, hr⟩ : ∃ r, r = (rrV ms cols).length := ⟨_, rfl⟩
    rw [← hr] at HE hr12
    have HR := Lib.hid hr
    have wn : IntKind.i64.wrap (cols - (r : Int)) = cols - (r : Int) := IntWalk.i64_in _ (by omega)
    clear h1 hs hsm hv hr
    go_enter Try.func20, Try.ntmps20
    go_wp2_with (first
      | (go_at_call 19; refine (isM_any _ a len cap ms cols HM.out hn hm HS.out).mono ?_; rw [H1.out]; rintro e w1 ⟨rfl, hb1⟩; have HB1 := Lib.hid hb1; clear hb1)
      | (go_at_call 21; refine (rank_any _ a len cap ms cols HM.out hn hm (HS.out.below HB1.out)).mono ?_; rw [← HR.out]; rintro e w2 ⟨rfl, hb2⟩; have HB2 := Lib.hid (below_up HB1.out hb2 (Nat.le_refl _)); clear hb2))
    go_ret
    exact ⟨ret_int HE.out.symm, HB2.out⟩
set_option maxRecDepth 20000 in
set_option maxHeartbeats 1600000 in
theorem usefP_any (W : World) (a : Option Addr) (len cap : Nat) (ms : List (List Int)) (cols : Int) (hsm : SmallM ms) (hn : -9223372036854775808 ≤ cols) (hm : cols ≤ 9223372036854775807) (hs : SeesM W a len ms) (hcl : len ≤ cap) :
    Calls Try.prog 18 #[.slice a len cap, .int .i64 cols] W (Made .i64 3 (usefV ms cols) W) := by
  have HS := Lib.hid hs
  have HM := Lib.hid hsm
  have hlen := hs.1
  subst hlen
  have HO0 := Lib.hid ((own_nil .i64 3 W).wide (lo2 := W.heap.size) (hi2 := (W.alloc (.cells #[] 3)).heap.size) (Nat.le_refl _) (by simp) (Nat.le_refl _))
  have HB0 := Lib.hid ((Below.refl W.heap.size W).alloc (Nat.le_refl _) (.cells #[] 3))
  obtain ⟨i0, hi, hz0, hz1, hz2⟩ := info_parts info_i64
  have hl20 : ms.length ≤ 1048576 := by unfold SmallM at hsm; omega
  clear hs hsm
  cases h1 : isMat ms cols
  · have H1 := Lib.hid h1
    have HE : Hid (usefV ms cols = []) := Lib.hid (by unfold usefV; rw [h1]; rfl)
    clear h1
    go_enter Try.func18, Try.ntmps18
    go_wp2_with (first | (go_at_call 19; refine (isM_any _ a ms.length cap ms cols HM.out hn hm (HS.out.below HB0.out)).mono ?_; rw [H1.out]; rintro e w1 ⟨rfl, hb1⟩; have HO1 := Lib.hid (HO0.out.below hb1); have hsz := hb1.size; have HB1 := Lib.hid (below_up HB0.out hb1 (Nat.le_refl _)); clear hb1))
    go_ret
    exact ⟨_, _, _, rfl, by rw [HE.out]; exact HO1.out.wide (Nat.le_refl _) hsz (Nat.le_refl _), HB1.out⟩
  · have H1 := Lib.hid h1
    have h12 := (isMat_true h1).2.1
    have HE : Hid (usefV ms cols = usefK ms ms.length) := Lib.hid (by unfold usefV; rw [if_pos h1])
    clear h1
    go_enter Try.func18, Try.ntmps18
    go_wp2_with (first | (go_at_call 19; refine (isM_any _ a ms.length cap ms cols HM.out hn hm (HS.out.below HB0.out)).mono ?_; rw [H1.out]; rintro e w1 ⟨rfl, hb1⟩; have HO1 := Lib.hid ((HO0.out.below hb1).wide (Nat.le_refl _) hb1.size (Nat.le_refl _)); have hsz := hb1.size; have HB1 := Lib.hid (below_up HB0.out hb1 (Nat.le_refl _)); clear hb1))
    go_loopw [16, 5, 6, 7] (fun s v _ _ wr => ∃ (k l' : Nat) (a' : Option Addr) (c' : Nat), k ≤ ms.length ∧ l' ≤ k ∧ s = .int .i64 k ∧ v = .slice a' l' c' ∧ Own .i64 3 wr W.heap.size wr.heap.size a' l' c' (usefK ms k) ∧ Below W.heap.size W wr) (fun s _ _ _ _ => ms.length - (intOf s).toNat)
    case atStart => exact ⟨0, 0, _, _, Nat.zero_le _, Nat.zero_le _, rfl, rfl, HO1.out, HB1.out⟩
    case round =>
      obtain ⟨k, l', a', c', hk, hl', rfl, rfl, ho, hb⟩ := hrel
      have HO := Lib.hid ho
      have HB := Lib.hid hb
      by_cases hlt : k < ms.length
      · obtain ⟨b, off, ar, cr, rfl, hbl, hrc, hq1, hq2, hq3⟩ := HS.out.2 k hlt
        obtain ⟨z, hz⟩ : ∃ z, z = row ms k := ⟨_, rfl⟩
        rw [← hz] at hrc hq1 hq3
        have hzl : z.length ≤ 1048576 := by rw [hz]; have := HM.out.row hlt; omega
        have HZ := Lib.hid hz
        obtain ⟨t, ht⟩ : ∃ t, inSpanV (ms.take k) z = t := ⟨_, rfl⟩
        have HT := Lib.hid ht
        have HN : Hid (usefK ms (k + 1) = if t = true then usefK ms k else usefK ms k ++ [(k : Int)]) := Lib.hid (by rw [usefK, ← hz, ht])
        have HKW : Hid ((Lit.int .i64 (k : Int)).wf = true) := Lib.hid (WalkArith.wf_i64 (by omega))
        have HQ := Lib.hid hq3
        have k00 : (0 : Int) ≤ (k : Int) := by omega
        have k01 : (k : Int) < (ms.length : Int) := by omega
        have k02 : (k : Int) ≤ (cap : Int) := by omega
        have hc1 := (hb.cell (p := ⟨b, off + k, none⟩) hbl).trans hrc
        clear ho hb hz ht hrc hq3
        cases t
        · go_wp2_with (first
            | (go_at_call 48; refine (span_any _ (some ⟨b, off, none⟩) k cap (ms.take k) ar z.length cr z (smallM_takeO HM.out (Nat.le_of_lt hlt)) (seesM_takeO (HS.out.below HB.out) (Nat.le_of_lt hlt)) (by omega) hq1 hq2 (HQ.out.below HB.out)).mono ?_; rw [HT.out]; rintro e w3 ⟨rfl, hb3⟩; have HO3 := Lib.hid (HO.out.below hb3); have hsz3 := hb3.size; have HB3 := Lib.hid (below_up HB.out hb3 (Nat.le_refl _)); clear hb3)
            | (at_builtin; refine wp_append_sees rfl _ _ 25 rfl 3 i0 .i64 8 Try.underlying25 hi hz0 hz1 hz2 _ _ _ _ rfl _ _ (HO3.out.alloc _) _ _ _ _ rfl (sees_one (x := (k : Int)) HKW.out _ _) (by unfold maxLen; omega) (by omega) (by have := HB3.out.size; simp; omega) ?_; intro b4 len4 cap4 w4 hlen4 ho4 hm4; subst hlen4; have HO4 := Lib.hid ho4; have HM4 := Lib.hid hm4; clear ho4 hm4))
          go_roundw
          case rel => exact ⟨k + 1, l' + 1, _, _, by omega, by omega, by go_num, rfl, by rw [HN.out]; exact HO4.out, below_moved (HB3.out.alloc HB3.out.size _) HM4.out (Nat.le_refl _) (Nat.le_refl _)⟩
          case measure => simp [intOf]; omega
        · go_wp2_with (first
            | (go_at_call 48; refine (span_any _ (some ⟨b, off, none⟩) k cap (ms.take k) ar z.length cr z (smallM_takeO HM.out (Nat.le_of_lt hlt)) (seesM_takeO (HS.out.below HB.out) (Nat.le_of_lt hlt)) (by omega) hq1 hq2 (HQ.out.below HB.out)).mono ?_; rw [HT.out]; rintro e w3 ⟨rfl, hb3⟩; have HO3 := Lib.hid (HO.out.below hb3); have hsz3 := hb3.size; have HB3 := Lib.hid (below_up HB.out hb3 (Nat.le_refl _)); clear hb3))
          go_roundw
          case rel => exact ⟨k + 1, l', _, _, by omega, by omega, by go_num, rfl, by rw [HN.out]; exact HO3.out.wide (Nat.le_refl _) (by omega) (Nat.le_refl _), HB3.out⟩
          case measure => simp [intOf]; omega
      · obtain rfl : k = ms.length := by omega
        go_wp2
        go_ret
        exact ⟨_, _, _, rfl, by rw [HE.out]; exact ho, hb⟩
end Go.Proofs.Ytedkeobhcpbigaa
