/- MapOf, the model's. -/
import Derived.Test.YtbjjgcfmdlinaaaTrP0
import Derived.Test.YtbjjgcfmdlinaaaTrM
namespace Go.Proofs.Ytbjjgcfmdlinaaa
open Go.RowKit
theorem mapR_len (h : List Int) (acc : List (Int × Int)) : ∀ k, (mapR h acc k).length ≤ acc.length + k
  | 0 => Nat.le_refl _
  | k + 1 => by
    have ih := mapR_len h acc k
    unfold mapR
    split
    · omega
    · split
      · have := putL_len (minV (h.getD (k - 1) 0) (h.getD k 0), maxV (h.getD (k - 1) 0) (h.getD k 0)) (mapR h acc k)
        omega
      · omega
theorem mapK_len {ms : List (List Int)} (h : ∀ i, i < ms.length → (row ms i).length ≤ 8) : ∀ i, i ≤ ms.length → (mapK ms i).length ≤ 8 * i
  | 0, _ => Nat.le_refl _
  | i + 1, hi => by
    have ih := mapK_len h i (by omega)
    have h1 := mapR_len (row ms i) (mapK ms i) (row ms i).length
    have h2 := h i (by omega)
    simp only [mapK]
    omega
theorem mapR_one (h : List Int) (acc : List (Int × Int)) : mapR h acc 1 = acc := by simp [mapR]
theorem mapR_next {h : List Int} {acc : List (Int × Int)} {j : Nat} : mapR h acc (j + 1 + 1) = if 0 ≤ h.getD j 0 ∧ 0 ≤ h.getD (j + 1) 0 then putL (minV (h.getD j 0) (h.getD (j + 1) 0), maxV (h.getD j 0) (h.getD (j + 1) 0)) (mapR h acc (j + 1)) else mapR h acc (j + 1) := by
  rw [mapR, if_neg (by omega), Nat.add_sub_cancel]
set_option maxRecDepth 20000 in
set_option maxHeartbeats 6400000 in
theorem specMap_any (W : World) (a : Option Addr) (len cap : Nat) (ms : List (List Int)) (hl : len ≤ 1073741824) (hs : SeesM W a len ms) :
    Calls Try.prog 22 #[.slice a len cap] W (MadeL (mapV ms) W) := by
  have HS := Lib.hid hs
  have HL := Lib.hid hs.1
  have HB0 := Lib.hid ((Below.refl W.heap.size W).alloc (Nat.le_refl _) (.cells #[] 38))
  have HSV := Lib.hid (hs.below HB0.out)
  have HO0 := Lib.hid (ownL_empty W W.heap.size (Nat.le_refl _))
  clear hs
  cases hA : areT ms
  · have HA := Lib.hid hA
    have HE : Hid (mapV ms = []) := Lib.hid (by unfold mapV; rw [hA]; rfl)
    clear hA
    go_enter Try.func22, Try.ntmps22
    go_wp2_with (go_at_call 13; refine (specAreT_any _ _ _ _ ms hl HSV.out).mono ?_; rw [HA.out]; rintro e w1 ⟨rfl, hb1⟩; have HO1 := Lib.hid (HO0.out.below hb1); have HB1 := Lib.hid (below_up HB0.out hb1 (Nat.le_refl _)); clear hb1)
    go_ret
    exact ⟨_, _, _, rfl, by rw [HE.out]; exact HO1.out.wide (Nat.le_refl _) HO1.out.2.2.1 (Nat.le_refl _), HB1.out⟩
  · have HA := Lib.hid hA
    have HE : Hid (mapV ms = mapK ms ms.length) := Lib.hid (by unfold mapV; rw [if_pos hA])
    have HR8 : Hid (∀ i, i < ms.length → (row ms i).length ≤ 8) := Lib.hid (fun i hi => (trOk_true.1 ((areT_true.1 hA).1 i hi)).1)
    have hl8 : len ≤ 8 := by rw [← HL.out]; exact (areT_true.1 hA).2
    clear hA
    go_enter Try.func22, Try.ntmps22
    go_wp2_with (go_at_call 13; refine (specAreT_any _ _ _ _ ms hl HSV.out).mono ?_; rw [HA.out]; rintro e w1 ⟨rfl, hb1⟩; have HO1 := Lib.hid (HO0.out.below hb1); have HB1 := Lib.hid (below_up HB0.out hb1 (Nat.le_refl _)); clear hb1)
    go_loopw [3, 4, 5, 6] (fun v s _ _ wr => ∃ (i g l c : Nat), i ≤ len ∧ s = .int .i64 i ∧ v = .slice (some ⟨g, 0, none⟩) l c ∧ OwnL wr W.heap.size wr.heap.size (some ⟨g, 0, none⟩) l c (mapK ms i) ∧ Below W.heap.size W wr) (fun _ s _ _ _ => len - (intOf s).toNat)
    case atStart => exact ⟨0, _, _, _, Nat.zero_le _, rfl, rfl, HO1.out.wide (Nat.le_refl _) HO1.out.2.2.1 (Nat.le_refl _), HB1.out⟩
    case round =>
      clear HO1 HB1
      obtain ⟨i, g, l, c, hi, rfl, rfl, ho, hb⟩ := hrel
      obtain ⟨V, rfl⟩ : ∃ V, V = wr := ⟨_, rfl⟩
      have HO := Lib.hid ho
      have HB := Lib.hid hb
      by_cases hlt : i < len
      · obtain ⟨b, off, ar, cr, rfl, hbl, hc, hle, hcm, hsr⟩ := HS.out.2 i hlt
        have hcw := (hb.cell (p := ⟨b, off + i, none⟩) hbl).trans hc
        obtain ⟨zk, hzk⟩ : ∃ zk, zk = row ms i := ⟨_, rfl⟩
        rw [← hzk] at hcw hsr
        have HZ := Lib.hid (hsr.below hb)
        have h8 : zk.length ≤ 8 := by rw [hzk]; exact HR8.out i (by rw [HL.out]; exact hlt)
        obtain ⟨acc, hacc⟩ : ∃ acc, acc = mapK ms i := ⟨_, rfl⟩
        have hal : acc.length ≤ 8 * i := by rw [hacc]; exact mapK_len HR8.out i (by rw [HL.out]; exact hi)
        have HN : Hid (mapK ms (i + 1) = mapR zk acc zk.length) := Lib.hid (by rw [hacc, hzk]; rfl)
        rw [← hacc] at HO
        have i0 : (0 : Int) ≤ (i : Int) := by omega
        have i1 : (i : Int) < (len : Int) := by omega
        clear hc hle hcm hsr hzk hacc ho hb
        go_wp2_with fail
        go_loopw [3, 6] (fun v s wr => ∃ (j k g l c : Nat), Hid (k = j + 1) ∧ (k ≤ zk.length ∨ j = 0) ∧ s = .int .i64 (k : Int) ∧ v = .slice (some ⟨g, 0, none⟩) l c ∧ OwnL wr W.heap.size wr.heap.size (some ⟨g, 0, none⟩) l c (mapR zk acc k) ∧ Below V.heap.size V wr) (fun _ s _ => 9 - (intOf s).toNat)
        case atStart => exact ⟨0, 1, g, l, c, Lib.hid rfl, .inr rfl, rfl, rfl, by rw [mapR_one]; exact HO.out, Below.refl _ _⟩
        case round =>
          clear HO
          obtain ⟨j, k, g, l, c, HK, hj, rfl, rfl, ho, hb⟩ := hrel
          obtain ⟨U, rfl⟩ : ∃ U, U = wr := ⟨_, rfl⟩
          have HO := Lib.hid ho
          have HBU := Lib.hid hb
          have hkj := HK.out
          have hlen := ho.1
          have hml := mapR_len zk acc k
          have hVU := HB.out.size
          by_cases hkl : k < zk.length
          · have HZU := Lib.hid (HZ.out.below hb)
            rcases HZU.out.2.2 with h0 | ⟨b2, o2, rfl, hb2, hcs⟩
            · omega
            have cp := hcs j (by omega)
            have cq := hcs k hkl
            obtain ⟨p, hp⟩ : ∃ p, p = zk.getD j 0 := ⟨_, rfl⟩
            obtain ⟨q, hq⟩ : ∃ q, q = zk.getD k 0 := ⟨_, rfl⟩
            rw [← hp] at cp
            rw [← hq] at cq
            obtain ⟨acc2, hacc2⟩ : ∃ acc2, acc2 = mapR zk acc k := ⟨_, rfl⟩
            have HNX : Hid (mapR zk acc (k + 1) = if 0 ≤ p ∧ 0 ≤ q then putL (minV p q, maxV p q) acc2 else acc2) := Lib.hid (by
              rw [hp, hq, hacc2, hkj]
              exact mapR_next)
            rw [← hacc2] at HO
            have hl2 : l ≤ 1048575 := by omega
            have hPW : (Lit.int .i64 p).wf = true := by rw [hp]; exact HZU.out.2.1 _ (getD_mem (by omega))
            have hQW : (Lit.int .i64 q).wf = true := by rw [hq]; exact HZU.out.2.1 _ (getD_mem hkl)
            have HMW : Hid ((Lit.int .i64 (minV p q)).wf = true ∧ (Lit.int .i64 (maxV p q)).wf = true) := Lib.hid (by unfold minV maxV; constructor <;> split <;> assumption)
            have CP := Lib.hid cp
            have CQ := Lib.hid cq
            have wk : IntKind.i64.wrap ((k : Int) - 1) = (j : Int) := (IntWalk.i64_in _ (by omega)).trans (by omega)
            have j0 : (0 : Int) ≤ (j : Int) := by omega
            have j1 : (j : Int) < (zk.length : Int) := by omega
            have k0 : (0 : Int) ≤ (k : Int) := by omega
            have k1 : (k : Int) < (zk.length : Int) := by omega
            have hk9 : k ≤ 8 := by omega
            clear hcs hp hq hacc2 hlen hml ho hb hkj hPW hQW
            by_cases hp0 : 0 ≤ p
            · by_cases hq0 : 0 ≤ q
              · have HE : Hid (mapR zk acc (k + 1) = putL (minV p q, maxV p q) acc2) := Lib.hid (by rw [HNX.out, if_pos ⟨hp0, hq0⟩])
                obtain ⟨mn, hmn⟩ : ∃ x, x = minV p q := ⟨_, rfl⟩
                obtain ⟨mx, hmx⟩ : ∃ x, x = maxV p q := ⟨_, rfl⟩
                have HMN := Lib.hid hmn
                have HMX := Lib.hid hmx
                rw [← hmn, ← hmx] at HE HMW
                have HOD := Lib.hid (HO.out.below (Below.refl _ _).drew)
                have hWU : W.heap.size ≤ U.drew.heap.size := Nat.le_trans hVU HBU.out.size
                clear hmn hmx
                go_wp2_with fail
                go_region_held3 (fun w' => w'.cell? ⟨b2, o2 + j, none⟩ = some (.int .i64 p) ∧ w'.cell? ⟨b2, o2 + k, none⟩ = some (.int .i64 q)) (go_keep) (first
                  | (go_at_call 55; refine (specMin_any p q _).mono ?_; rw [← HMN.out]; rintro e w' ⟨rfl, rfl⟩)
                  | (go_at_call 56; refine (specMax_any p q _).mono ?_; rw [← HMX.out]; rintro e w' ⟨rfl, rfl⟩)
                  | (go_at_call 54; refine (specPut_any _ W.heap.size _ g l c acc2 mn mx hl2 HOD.out hWU HMW.out.1 HMW.out.2).mono ?_; rintro e w5 ⟨g5, l5, c5, rfl, ho5, hb5⟩; have HO5 := Lib.hid ho5; have G5 := Lib.hid (below_up (B := U.heap.size) (Below.refl U.heap.size U).drew hb5 (Nat.le_refl _)); have cp := (G5.out.cell (p := ⟨b2, o2 + j, none⟩) hb2).trans CP.out; have cq := (G5.out.cell (p := ⟨b2, o2 + k, none⟩) hb2).trans CQ.out; clear ho5 hb5))
                all_goals
                  go_wp2_with fail
                  go_roundw
                  case rel => exact ⟨k, k + 1, g5, l5, c5, Lib.hid rfl, .inl hkl, by go_num, rfl, by rw [HE.out]; exact HO5.out, HBU.out.trans (G5.out.mono HBU.out.size)⟩
                  case measure => simp [intOf]; omega
              · have HE : Hid (mapR zk acc (k + 1) = acc2) := Lib.hid (by rw [HNX.out, if_neg (fun h => hq0 h.2)])
                go_wp2
                go_roundw
                case rel => exact ⟨k, k + 1, g, l, c, Lib.hid rfl, .inl hkl, by go_num, rfl, by rw [HE.out]; exact HO.out, HBU.out⟩
                case measure => simp [intOf]; omega
            · have HE : Hid (mapR zk acc (k + 1) = acc2) := Lib.hid (by rw [HNX.out, if_neg (fun h => hp0 h.1)])
              go_wp2
              go_roundw
              case rel => exact ⟨k, k + 1, g, l, c, Lib.hid rfl, .inl hkl, by go_num, rfl, by rw [HE.out]; exact HO.out, HBU.out⟩
              case measure => simp [intOf]; omega
          · have HE : Hid (mapK ms (i + 1) = mapR zk acc k) := Lib.hid (by
              rw [HN.out]
              by_cases h0 : k ≤ zk.length
              · rw [show zk.length = k by omega]
              · have hj0 : j = 0 := by omega
                have hk1 : k = 1 := by omega
                rw [show zk.length = 0 by omega, hk1, mapR_one]
                rfl)
            have hki : ¬ (k : Int) < (zk.length : Int) := by omega
            clear ho hb hlen hml hkj
            go_wp2_with fail
            go_roundw
            case rel => exact ⟨i + 1, g, l, c, hlt, by go_num, rfl, by rw [HE.out]; exact HO.out, HB.out.trans (HBU.out.mono hVU)⟩
            case measure => simp [intOf]; omega
      · obtain rfl : i = len := by omega
        have HE2 : Hid (mapV ms = mapK ms i) := Lib.hid (by rw [HE.out, HL.out])
        clear ho hb
        go_wp2
        go_ret
        exact ⟨_, _, _, rfl, by rw [HE2.out]; exact HO.out, HB.out⟩
theorem mapV_len (ms : List (List Int)) : (mapV ms).length ≤ 64 := by
  unfold mapV
  split
  · rename_i h
    have h1 := areT_true.1 h
    have := mapK_len (fun i hi => (trOk_true.1 (h1.1 i hi)).1) ms.length (Nat.le_refl _)
    have := h1.2
    omega
  · exact Nat.zero_le _
end Go.Proofs.Ytbjjgcfmdlinaaa
