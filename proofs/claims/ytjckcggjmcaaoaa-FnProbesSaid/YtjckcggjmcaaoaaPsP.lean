/- The program's ProbesOf. -/
import Derived.Test.YtjckcggjmcaaoaaPsF
namespace Go.Proofs.Ytjckcggjmcaaoaa
open Go.RowKit
set_option maxRecDepth 20000 in
set_option maxHeartbeats 4000000 in
theorem probesP_any (W : World) (n : Int) (a : Option Addr) (len cap : Nat) (ls : List (Int × Int)) (q : Option Addr) (lh ch : Nat) (hs : List Int) (hl : len ≤ 1048576) (hsl : SeesL W a len ls) (hlh : lh ≤ 1048576) (hch : lh ≤ ch) (hq : Sees .i64 W q lh hs) :
    Calls Try.prog 7 #[.agg #[.int .i64 n, .slice a len cap], .slice q lh ch] W (MadeQ (probesV n ls hs) W) := by
  obtain ⟨V, hV⟩ : ∃ V, V = W.alloc (.cells #[.int .i64 n, .slice a len cap] 26) := ⟨_, rfl⟩
  have HBV : Hid (Below W.heap.size W V) := Lib.hid (by rw [hV]; exact below_new _ _)
  have HN := Lib.hid (show NetAt V W.heap.size n a len cap by rw [hV]; exact net_new _ _ _ _ _ _)
  have HS := Lib.hid (hsl.below HBV.out)
  have HQ := Lib.hid (hq.below HBV.out)
  have HL := Lib.hid hq.1
  clear hsl hq
  obtain ⟨i1, hi1, hz10, hz11, hz12⟩ := info_parts info_prb
  have HO0 := Lib.hid (ownQ_nilB (W := V) (B := W.heap.size + 1) (by rw [hV]; simp))
  go_enter Try.func7, Try.ntmps7
  go_wp2_with fail
  rw [← hV]
  clear hV
  go_wp2_with fail
  go_loopw [15, 5, 6, 7, 9, 10, 11] (fun i v _ _ _ _ _ wr => ∃ (k : Nat) (a' : Option Addr) (l' c' : Nat), k ≤ lh ∧ (outQ n ls hs k).length = l' ∧ i = .int .i64 k ∧ v = .slice a' l' c' ∧ OwnQ wr V.heap.size wr.heap.size a' l' c' (outQ n ls hs k) ∧ Below V.heap.size V wr) (fun i _ _ _ _ _ _ _ => lh - (intOf i).toNat)
  case atStart => exact ⟨0, _, _, _, Nat.zero_le _, rfl, rfl, rfl, HO0.out, below_new _ _⟩
  case round =>
    obtain ⟨i, a', l', c', hk, hln, rfl, rfl, ho, hb⟩ := hrel
    obtain ⟨Vr, rfl⟩ : ∃ Vr, Vr = wr := ⟨_, rfl⟩
    have HO := Lib.hid ho
    have HB := Lib.hid hb
    have HLN := Lib.hid hln
    by_cases hlt : i < lh
    · have hkm : i < hs.length := by rw [HL.out]; exact hlt
      obtain ⟨b1, o1, rfl, hb10, hcs⟩ := HQ.out.spot (by omega)
      obtain ⟨x, hx⟩ : ∃ x, x = hs.getD i 0 := ⟨_, rfl⟩
      obtain ⟨rest, hrest⟩ : ∃ r, r = hs.drop (i + 1) := ⟨_, rfl⟩
      obtain ⟨acc0, hacc⟩ : ∃ r, r = outQ n ls hs i := ⟨_, rfl⟩
      have HRL : Hid (rest.length = lh - (i + 1)) := Lib.hid (by rw [hrest, List.length_drop, HL.out])
      have HX := Lib.hid hx
      have HRest := Lib.hid hrest
      have HAcc := Lib.hid hacc
      have HCS := Lib.hid hcs
      have HFX : Hid ((Lit.int .i64 x).wf = true) := Lib.hid (by rw [hx]; exact HQ.out.2.1 _ (getD_mem hkm))
      have HFull : Hid (∀ j, ¬ (inQ n ls x (rest.take j) acc0).length < 12 → probesV n ls hs = inQ n ls x (rest.take j) acc0) := Lib.hid (fun j hj => by rw [hx, hrest, hacc] at hj; rw [hx, hrest, hacc]; exact probesV_full hkm hj)
      rw [← hacc] at HO HLN
      have hx0 : V.cell? ⟨b1, o1 + i, none⟩ = some (.int .i64 x) := by rw [hx]; exact hcs i hlt
      have hxr := (hb.cell (p := ⟨b1, o1 + i, none⟩) hb10).trans hx0
      obtain ⟨m, hm⟩ : ∃ m, m = lh - (i + 1) := ⟨_, rfl⟩
      have HM : Hid (lh = i + 1 + m) := Lib.hid (by omega)
      have hm20 : m ≤ 1048576 := by omega
      clear hx hrest hacc hcs hln ho hb hx0
      by_cases hcc : ch = i + 1
      · obtain rfl : m = 0 := by omega
        subst hcc
        clear hm hm20
        go_wp2_with fail
        go_loopw [25, 5, 9, 10, 11] (fun i2 v _ _ _ wr => ∃ (j : Nat) (a' : Option Addr) (l' c' : Nat), j ≤ 0 ∧ (inQ n ls x (rest.take j) acc0).length = l' ∧ (inQ n ls x (rest.take j) acc0).length ≤ 12 ∧ i2 = .int .i64 (j : Int) ∧ v = .slice a' l' c' ∧ OwnQ wr V.heap.size wr.heap.size a' l' c' (inQ n ls x (rest.take j) acc0) ∧ Below V.heap.size V wr) (fun i2 _ _ _ _ _ => 0 - (intOf i2).toNat)
        case atStart => exact ⟨0, _, _, _, Nat.zero_le _, HLN.out, by rw [HAcc.out]; exact outQ_len _, rfl, rfl, HO.out, HB.out⟩
        case round =>
          clear HO HB HLN
          obtain ⟨j, a', l', c', hj, hln, hl12, rfl, rfl, ho, hb⟩ := hrel
          have HO := Lib.hid ho
          have HB := Lib.hid hb
          have HLN := Lib.hid hln
          have HL12 := Lib.hid hl12
          have hl12' : l' ≤ 12 := by omega
          have hszr := hb.size
          clear hln hl12
          by_cases hjl : j < 0
          · exact absurd hjl (Nat.not_lt_zero _)
          · obtain rfl : j = 0 := by omega
            have HE : Hid (outQ n ls hs (i + 1) = inQ n ls x (rest.take 0) acc0) := Lib.hid (by
              have hjj : 0 = rest.length := by have h1 := HRL.out; have h2 := HM.out; omega
              rw [hjj, List.take_length, HX.out, HRest.out, HAcc.out]; rfl)
            clear ho hb
            go_wp2_with fail
            go_roundw
            case rel => exact ⟨i + 1, _, _, _, by omega, by rw [HE.out]; exact HLN.out, by go_num, rfl, by rw [HE.out]; exact HO.out, HB.out⟩
            case measure => simp [intOf]; omega
      · have hcc2 : i + 1 < ch := by omega
        go_wp2_with fail
        rw [← hm]
        clear hm
        go_loopw [25, 5, 9, 10, 11] (fun i2 v _ _ _ wr => ∃ (j : Nat) (a' : Option Addr) (l' c' : Nat), j ≤ m ∧ (inQ n ls x (rest.take j) acc0).length = l' ∧ (inQ n ls x (rest.take j) acc0).length ≤ 12 ∧ i2 = .int .i64 (j : Int) ∧ v = .slice a' l' c' ∧ OwnQ wr V.heap.size wr.heap.size a' l' c' (inQ n ls x (rest.take j) acc0) ∧ Below V.heap.size V wr) (fun i2 _ _ _ _ _ => m - (intOf i2).toNat)
        case atStart => exact ⟨0, _, _, _, Nat.zero_le _, HLN.out, by rw [HAcc.out]; exact outQ_len _, rfl, rfl, HO.out, HB.out⟩
        case round =>
          clear HO HB HLN
          obtain ⟨j, a', l', c', hj, hln, hl12, rfl, rfl, ho, hb⟩ := hrel
          have HO := Lib.hid ho
          have HB := Lib.hid hb
          have HLN := Lib.hid hln
          have HL12 := Lib.hid hl12
          have hl12' : l' ≤ 12 := by omega
          have hszr := hb.size
          clear hln hl12
          by_cases hjl : j < m
          · obtain ⟨y, hy⟩ : ∃ y, y = hs.getD (i + 1 + j) 0 := ⟨_, rfl⟩
            have HJ : Hid (j < rest.length) := Lib.hid (by have h1 := HRL.out; have h2 := HM.out; omega)
            have HY : Hid (rest.getD j 0 = y) := Lib.hid (by rw [HRest.out, drop_getD]; exact hy.symm)
            have hlj : i + 1 + j < lh := by have h2 := HM.out; omega
            have hc1 : wr.cell? ⟨b1, o1 + (i + 1) + j, none⟩ = some (.int .i64 y) := by rw [hy, Nat.add_assoc o1 (i + 1) j]; exact (hb.cell (p := ⟨b1, o1 + (i + 1 + j), none⟩) hb10).trans (HCS.out (i + 1 + j) hlj)
            have hfy : (Lit.int .i64 y).wf = true := by rw [hy]; exact HQ.out.2.1 _ (getD_mem (by rw [HL.out]; exact hlj))
            obtain ⟨px, py, pzs, pt, hpq⟩ : ∃ px py pzs pt, probeV n ls x y = ((px, py, pzs), pt) := ⟨_, _, _, _, rfl⟩
            have HFW := Lib.hid (probe_ends hpq HFX.out hfy)
            have HPQ := Lib.hid hpq
            have HNW := Lib.hid (HN.out.below hb)
            have HSW := Lib.hid (HS.out.below hb)
            have hn0 := HNW.out.c0
            have hn1 := HNW.out.c1
            clear hy hfy hpq ho hb hlj
            by_cases hfull : l' = 12
            · subst hfull
              have HE : Hid (inQ n ls x (rest.take j) acc0 = probesV n ls hs) := Lib.hid (HFull.out j (by rw [HLN.out]; omega)).symm
              go_wp2
              go_ret
              have ho := HO.out
              rw [HE.out] at ho
              exact ⟨_, _, _, rfl, ho.wide HBV.out.size (Nat.le_refl _) (Nat.le_refl _), HBV.out.trans (HB.out.mono HBV.out.size)⟩
            · have hne : ¬ (l' : Int) = 12 := by omega
              cases pt
              · have HE : Hid (inQ n ls x (rest.take (j + 1)) acc0 = inQ n ls x (rest.take j) acc0) := Lib.hid (by rw [inQ_next n ls x acc0 HJ.out, stepQ_no (by rw [HY.out, HPQ.out])])
                go_wp2_with (go_at_call 27; refine (probePX _ n a len cap ls x y px py pzs.length pzs false hl HSW.out HPQ.out rfl).mono ?_; rintro e w4 ⟨b2, c2, rfl, ho4, hb4⟩; have G4 := Lib.hid hb4; have HO4 := Lib.hid ho4; clear hb4 ho4)
                go_roundw
                case rel =>
                  have ho := ((HO.out.below G4.out).below (below_new w4 (.cells #[.int .i64 px, .int .i64 py, .slice b2 pzs.length c2] 38))).wide (Nat.le_refl _) (Nat.le_trans G4.out.size (below_new _ _).size) (Nat.le_refl _)
                  exact ⟨j + 1, _, _, _, hjl, by rw [HE.out]; exact HLN.out, by rw [HE.out]; exact HL12.out, by go_num, rfl, by rw [HE.out]; exact ho, below_up (below_up HB.out G4.out (Nat.le_refl _)) (below_new _ _) (Nat.le_refl _)⟩
                case measure => simp [intOf]; omega
              · have HE : Hid (inQ n ls x (rest.take (j + 1)) acc0 = inQ n ls x (rest.take j) acc0 ++ [(px, py, pzs)]) := Lib.hid (by rw [inQ_next n ls x acc0 HJ.out, stepQ_add (by rw [HY.out, HPQ.out]) (by rw [HLN.out]; omega), HY.out, HPQ.out])
                go_wp2_with (first
                  | (go_at_call 27; refine (probePX _ n a len cap ls x y px py pzs.length pzs true hl HSW.out HPQ.out rfl).mono ?_; rintro e w4 ⟨b2, c2, rfl, ho4, hb4⟩; have G4 := Lib.hid hb4; have HO4 := Lib.hid ho4; clear hb4 ho4)
                  | (at_builtin; refine wp_append_ownQ rfl _ _ 30 rfl i1 Try.underlying30 hi1 hz10 hz11 hz12 _ _ _ rfl (w4.heap.size + 1) rfl _ V.heap.size wr.heap.size (((HO.out.below G4.out).below (below_new _ _)).below (below_new _ _)) b2 c2 (px, py, pzs) HFW.out (by go_simp) (by go_simp) (by go_simp) wr.heap.size w4.heap.size ((HO4.out.below (below_new _ _)).below (below_new _ _)) (Nat.le_refl _) hszr (by omega) (Nat.le_trans hszr (Nat.le_trans G4.out.size (Nat.le_trans (below_new _ _).size (below_new _ _).size))) ?_; intro g4 c4 w5 ho5 hm5; have HO5 := Lib.hid ho5; have HM5 := Lib.hid hm5; clear ho5 hm5))
                go_roundw
                case rel =>
                  have hb4 := below_moved (below_up (below_up (below_up HB.out G4.out (Nat.le_refl _)) (below_new w4 _) (Nat.le_refl _)) (below_new _ _) (Nat.le_refl _)) HM5.out (Nat.le_refl _) (Nat.le_refl _)
                  exact ⟨j + 1, _, _, _, hjl, by rw [HE.out, List.length_append, HLN.out]; rfl, by rw [HE.out, List.length_append, HLN.out]; simp; omega, by go_num, rfl, by rw [HE.out]; exact HO5.out, hb4⟩
                case measure => simp [intOf]; omega
          · obtain rfl : j = m := by omega
            have HE : Hid (outQ n ls hs (i + 1) = inQ n ls x (rest.take j) acc0) := Lib.hid (by
              have hjj : j = rest.length := by have h1 := HRL.out; have h2 := HM.out; omega
              rw [hjj, List.take_length, HX.out, HRest.out, HAcc.out]; rfl)
            clear ho hb
            go_wp2_with fail
            go_roundw
            case rel => exact ⟨i + 1, _, _, _, by omega, by rw [HE.out]; exact HLN.out, by go_num, rfl, by rw [HE.out]; exact HO.out, HB.out⟩
            case measure => simp [intOf]; omega
    · obtain rfl : i = lh := by omega
      have HE : Hid (outQ n ls hs i = probesV n ls hs) := Lib.hid (by rw [← HL.out]; rfl)
      clear ho hb
      go_wp2
      go_ret
      have ho := HO.out
      rw [HE.out] at ho
      exact ⟨_, _, _, rfl, ho.wide HBV.out.size (Nat.le_refl _) (Nat.le_refl _), HBV.out.trans (HB.out.mono HBV.out.size)⟩
end Go.Proofs.Ytjckcggjmcaaoaa
