/- The walk of the law on groups of addresses. -/
import Derived.Test.YtgninjdnfidpcaaAlP
import Derived.Test.YtgninjdnfidpcaaDraw11b
import Derived.Test.YtgninjdnfidpcaaBig
import Derived.Test.YtgninjdnfidpcaaCont
namespace Go.Proofs.Ytgninjdnfidpcaa
open Go.RowKit
set_option maxRecDepth 20000 in
set_option maxHeartbeats 6400000 in
theorem alias_small (W : World) (a0 : Option Addr) (len0 cap0 : Nat) (hl : len0 ≤ 1048576) (hc : CodeAt W W.heap.size a0 len0) : Calls Try.prog 9 #[.slice a0 len0 cap0] W fun e W' => e = .returned (.bool true) ∧ Below W.heap.size W W' := by
  have HC := Lib.hid hc
  clear hc
  go_enter Try.func9, Try.ntmps9
  go_wp2_with fail
  go_at_call 12
  refine (big_no _ a0 len0 cap0 hl).mono ?_
  rintro e w0 ⟨rfl, rfl⟩
  go_wp2_with fail
  go_at_call 34
  refine (drawGrp_any _ a0 len0 cap0 hl HC.out).mono ?_
  rintro e w1 ⟨xs, a, len, cap, hl13, rfl, hs1, hb1⟩
  have HS1 := Lib.hid hs1
  have HB1 := Lib.hid hb1
  have hlen : len ≤ 1073741824 := by omega
  clear hs1 hb1 HC
  go_wp2_with fail
  go_at_call 35
  refine (grpP_any _ a len cap xs (by omega) HS1.out).mono ?_
  rintro e w2 ⟨ag, lg, cg, rfl, ho2, hb2⟩
  have HG2 := Lib.hid ho2.sees
  have HS2 := Lib.hid (HS1.out.below hb2)
  have HB2 := Lib.hid (below_up HB1.out hb2 (Nat.le_refl _))
  clear ho2 hb2
  obtain ⟨gs, hgs⟩ : ∃ gs, gs = grpV xs := ⟨_, rfl⟩
  have hgl := grp_le (xs := xs)
  rw [← hgs] at hgl HG2
  have HGS := Lib.hid hgs
  have HROW : Hid (∀ k, (row gs k).length ≤ 12) := Lib.hid hgl.2
  have hlg : gs.length = lg := HG2.out.1
  subst hlg
  have hlg := hgl.1
  clear hgs hgl
  cases hA : areR xs
  · have HA := Lib.hid hA
    have hl0 : gs.length = 0 := by rw [HGS.out, grp_none hA]; rfl
    have hl0i : (gs.length : Int) = 0 := by omega
    clear hA
    go_wp2_with (first
      | (go_at_call 36; refine (areRP_any w2 a len cap xs hlen HS2.out).mono ?_; rw [HA.out]; rintro e w3 ⟨rfl, hb3⟩; have HS3 := Lib.hid (HS2.out.below hb3); have HB3 := Lib.hid (below_up HB2.out hb3 (Nat.le_refl _)); clear hb3)
      | (go_at_call 37; refine (specAreR_any _ a len cap xs hlen HS3.out).mono ?_; rw [HA.out]; rintro e w4 ⟨rfl, hb4⟩; have HS4 := Lib.hid (HS3.out.below hb4); have HB4 := Lib.hid (below_up HB3.out hb4 (Nat.le_refl _)); clear hb4)
      | (go_at_call 36; refine (areRP_any w4 a len cap xs hlen HS4.out).mono ?_; rw [HA.out]; rintro e w5 ⟨rfl, hb5⟩; have HB5 := Lib.hid (below_up HB4.out hb5 (Nat.le_refl _)); clear hb5))
    go_ret
    exact ⟨rfl, HB5.out⟩
  · have HA := Lib.hid hA
    clear hA
    go_wp2_with (first
      | (go_at_call 36; refine (areRP_any w2 a len cap xs hlen HS2.out).mono ?_; rw [HA.out]; rintro e w3 ⟨rfl, hb3⟩; have HS3 := Lib.hid (HS2.out.below hb3); have HG3 := Lib.hid (HG2.out.below hb3); have HB3 := Lib.hid (below_up HB2.out hb3 (Nat.le_refl _)); clear hb3)
      | (go_at_call 37; refine (specAreR_any _ a len cap xs hlen HS3.out).mono ?_; rw [HA.out]; rintro e w4 ⟨rfl, hb4⟩; have HS4 := Lib.hid (HS3.out.below hb4); have HG4 := Lib.hid (HG3.out.below hb4); have HB4 := Lib.hid (below_up HB3.out hb4 (Nat.le_refl _)); clear hb4)
      | (go_at_call 36; refine (areRP_any w4 a len cap xs hlen HS4.out).mono ?_; rw [HA.out]; rintro e w5 ⟨rfl, hb5⟩; have HS5 := Lib.hid (HS4.out.below hb5); have HG5 := Lib.hid (HG4.out.below hb5); have HB5 := Lib.hid (below_up HB4.out hb5 (Nat.le_refl _)); clear hb5)
      | (go_at_call 38; refine (addrP_any w5 a len cap xs (by omega) HS5.out).mono ?_; rintro e w6 ⟨aa, la, ca, rfl, ho6, hb6⟩; have HD6 := Lib.hid ho6.sees; have HS6 := Lib.hid (HS5.out.below hb6); have HG6 := Lib.hid (HG5.out.below hb6); have HB6 := Lib.hid (below_up HB5.out hb6 (Nat.le_refl _)); clear ho6 hb6))
    have hla : la ≤ 12 := by have h1 := HD6.out.1; have h2 := addr_len xs; have h3 := (areR_true.1 HA.out).2; omega
    have HSUM : Hid (sumG gs gs.length = la) := Lib.hid (by rw [HGS.out, sumG_all HA.out]; exact HD6.out.1)
    have HMAY : Hid (∀ i, i < gs.length → 0 < (row gs i).length ∧ (1 < (row gs i).length → mayB xs (row gs i) = true)) := Lib.hid (fun i hi => by
      rw [HGS.out] at hi ⊢
      exact ⟨grp_pos HA.out hi, grp_may HA.out hi⟩)
    have HHAS : Hid (∀ i k, i < gs.length → k < (row gs i).length → hasB (addrV xs) ((row gs i).getD k 0) = true) := Lib.hid (fun i k hi hk => by
      rw [HGS.out] at hi hk ⊢
      exact grp_has HA.out hi hk)
    have HPAIR : Hid (∀ i j k, i < gs.length → j < k → k < (row gs i).length → sureB xs ((row gs i).getD j 0) ((row gs i).getD k 0) = false ∧ (row gs i).getD j 0 < (row gs i).getD k 0) := Lib.hid (fun i j k hi hj hk => by
      rw [HGS.out] at hi hk ⊢
      exact ⟨grp_sure HA.out hi hj hk, grp_asc HA.out hi hj hk⟩)
    have HLE : Hid (∀ k, k ≤ gs.length → sumG gs k ≤ la) := Lib.hid (fun k hk => by rw [← HSUM.out]; exact sumG_le hk (Nat.le_refl _))
    clear HS5 HG5 HB5 HS4 HG4 HB4 HS3 HG3 HB3 HS2 HG2 HB2 HS1 HB1
    go_loopw [6, 7, 8, 9] (fun n s _ _ wr => ∃ i : Nat, i ≤ gs.length ∧ n = .int .i64 (sumG gs i : Nat) ∧ s = .int .i64 i ∧ Below w6.heap.size w6 wr) (fun _ s _ _ _ => gs.length - (intOf s).toNat)
    case atStart => exact ⟨0, Nat.zero_le _, rfl, rfl, Below.refl _ _⟩
    case round =>
      obtain ⟨i, hi, rfl, rfl, hb⟩ := hrel
      obtain ⟨V, rfl⟩ : ∃ V, V = wr := ⟨_, rfl⟩
      have HBV := Lib.hid hb
      have HSV := Lib.hid (HS6.out.below hb)
      by_cases hlt : i < gs.length
      · obtain ⟨b1, o1, ar, cr, rfl, hb1, hrc, hrle, hrm, hrs⟩ := HG6.out.2 i hlt
        have hcell := (hb.cell (p := ⟨b1, o1 + i, none⟩) hb1).trans hrc
        obtain ⟨zk, hzk⟩ : ∃ zk, zk = row gs i := ⟨_, rfl⟩
        rw [← hzk] at hrc hrs hcell
        have HRS := Lib.hid hrs
        have HRC := Lib.hid hrc
        have hz12 : zk.length ≤ 12 := by rw [hzk]; exact HROW.out i
        have hm := HMAY.out i hlt
        rw [← hzk] at hm
        have hzp := hm.1
        have HM := Lib.hid hm.2
        have hsn : sumG gs (i + 1) = sumG gs i + zk.length := by rw [hzk]; exact sumG_next hlt
        have hs1 := HLE.out i hi
        have hwn : IntKind.i64.wrap ((sumG gs i : Int) + (zk.length : Int)) = ((sumG gs (i + 1) : Nat) : Int) := (IntWalk.i64_in _ (by omega)).trans (by omega)
        have HK : Hid (∀ k, k < zk.length → hasB (addrV xs) (zk.getD k 0) = true) := Lib.hid (fun k hk => by rw [hzk] at hk ⊢; exact HHAS.out i k hlt hk)
        have HP : Hid (∀ j k, j < k → k < zk.length → sureB xs (zk.getD j 0) (zk.getD k 0) = false ∧ zk.getD j 0 < zk.getD k 0) := Lib.hid (fun j k hj hk => by rw [hzk] at hk ⊢; exact HPAIR.out i j k hlt hj hk)
        have hzi0 : ¬ (zk.length : Int) = 0 := by omega
        have hzib : ((zk.length : Int) == 0) = false := by rw [beq_eq_false_iff_ne]; exact hzi0
        have i00 : (0 : Int) ≤ (i : Int) := by omega
        have i01 : (i : Int) < (gs.length : Int) := by omega
        clear hzk hrc hrs hrle hrm hm hsn hs1 hb
        by_cases h1 : 1 < zk.length
        · have h1i : (1 : Int) < (zk.length : Int) := by omega
          have HMM := Lib.hid (HM.out h1)
          go_wp2_with (go_at_call 39; refine (mayP_any _ a len cap xs _ _ _ zk hlen HSV.out (by omega) (HRS.out.below HBV.out)).mono ?_; rw [HMM.out]; rintro e w7 ⟨rfl, hb7⟩; have HB7 := Lib.hid (below_up HBV.out hb7 (Nat.le_refl _)); clear hb7)
          go_loopw [8, 9] (fun s _ wr => ∃ k : Nat, k ≤ zk.length ∧ s = .int .i64 k ∧ Below w6.heap.size w6 wr) (fun s _ _ => zk.length - (intOf s).toNat)
          case atStart => exact ⟨0, Nat.zero_le _, rfl, HB7.out⟩
          case round =>
            clear HB7
            obtain ⟨k, hk, rfl, hb⟩ := hrel
            obtain ⟨U, rfl⟩ : ∃ U, U = wr := ⟨_, rfl⟩
            have HBU := Lib.hid hb
            have hcU := (hb.cell (p := ⟨b1, o1 + i, none⟩) hb1).trans HRC.out
            by_cases hkl : k < zk.length
            · obtain ⟨b2, o2, rfl, hb2, hx⟩ := sees_cell HRS.out hkl
              have hxU := (hb.cell (p := ⟨b2, o2 + k, none⟩) hb2).trans hx
              obtain ⟨x, hxe⟩ : ∃ x, x = zk.getD k 0 := ⟨_, rfl⟩
              have HHX := Lib.hid (HK.out k hkl)
              have HXW : Hid ((Lit.int .i64 x).wf = true) := Lib.hid (by rw [hxe]; exact HRS.out.2.1 _ (getD_mem hkl))
              rw [← hxe] at hx hxU HHX
              have HXE := Lib.hid hxe
              have HXC := Lib.hid hx
              have k00 : (0 : Int) ≤ (k : Int) := by omega
              have k01 : (k : Int) < (zk.length : Int) := by omega
              have HDU := Lib.hid (HD6.out.below hb)
              clear hx hxe hb
              go_wp2_with (go_at_call 15; refine (contains_any _ aa la ca (addrV xs) x (by omega) HDU.out).mono ?_; rw [HHX.out]; rintro e w8 ⟨rfl, rfl⟩)
              clear hcU hxU HDU
              go_loopw [9] (fun s wr => ∃ j : Nat, j ≤ k ∧ s = .int .i64 j ∧ Below w6.heap.size w6 wr) (fun s _ => k - (intOf s).toNat)
              case atStart => exact ⟨0, Nat.zero_le _, rfl, HBU.out⟩
              case round =>
                clear HBU
                obtain ⟨j, hj, rfl, hb⟩ := hrel
                obtain ⟨U, rfl⟩ : ∃ U, U = wr := ⟨_, rfl⟩
                have HBU := Lib.hid hb
                by_cases hjk : j < k
                · obtain ⟨hs0, hlt0⟩ := HP.out j k hjk hkl
                  rw [← HXE.out] at hs0 hlt0
                  obtain ⟨y, hye⟩ : ∃ y, y = zk.getD j 0 := ⟨_, rfl⟩
                  have HYW : Hid ((Lit.int .i64 y).wf = true) := Lib.hid (by rw [hye]; exact HRS.out.2.1 _ (getD_mem (by omega)))
                  obtain ⟨b2', o2', hae, hb2', hy⟩ := sees_cell HRS.out (show j < zk.length by omega)
                  cases hae
                  rw [← hye] at hs0 hlt0 hy
                  have HSU := Lib.hid hs0
                  have HYC := Lib.hid hy
                  have hnle : ¬ x ≤ y := by omega
                  have hcU := (hb.cell (p := ⟨b1, o1 + i, none⟩) hb1).trans HRC.out
                  have hxU := (hb.cell (p := ⟨b2, o2 + k, none⟩) hb2).trans HXC.out
                  have hyU := (hb.cell (p := ⟨b2, o2 + j, none⟩) hb2).trans hy
                  have HSD := Lib.hid ((HS6.out.below hb).below (Below.refl _ _).drew)
                  have HBD := Lib.hid (below_up (B := w6.heap.size) hb (Below.refl U.heap.size U).drew (Nat.le_refl _))
                  have j00 : (0 : Int) ≤ (j : Int) := by omega
                  have j01 : (j : Int) < (zk.length : Int) := by omega
                  clear hye hy hs0 hb
                  go_wp2_with fail
                  go_region_held3 (fun w' => w'.cell? ⟨b1, o1 + i, none⟩ = some (.slice (some ⟨b2, o2, none⟩) zk.length cr) ∧ w'.cell? ⟨b2, o2 + k, none⟩ = some (.int .i64 x) ∧ w'.cell? ⟨b2, o2 + j, none⟩ = some (.int .i64 y)) (go_keep) (first
                    | (go_at_call 40; refine (sureP_any _ a len cap xs y x hlen HSD.out HYW.out HXW.out).mono ?_; rw [HSU.out]; rintro e w9 ⟨rfl, hb9⟩; have HB9 := Lib.hid (below_up (B := w6.heap.size) HBD.out hb9 (Nat.le_refl _)); have hcU := (HB9.out.cell (p := ⟨b1, o1 + i, none⟩) hb1).trans HRC.out; have hxU := (HB9.out.cell (p := ⟨b2, o2 + k, none⟩) hb2).trans HXC.out; have hyU := (HB9.out.cell (p := ⟨b2, o2 + j, none⟩) hb2).trans HYC.out; clear hb9))
                  go_wp2
                  go_roundw
                  case rel => exact ⟨j + 1, by omega, by go_num, HB9.out⟩
                  case measure => simp [intOf]; omega
                · obtain rfl : j = k := by omega
                  clear hb
                  go_wp2_with fail
                  go_roundw
                  case rel => exact ⟨j + 1, hkl, by go_num, HBU.out⟩
                  case measure => simp [intOf]; omega
            · obtain rfl : k = zk.length := by omega
              clear hb
              go_wp2_with fail
              go_roundw
              case rel => exact ⟨i + 1, hlt, rfl, by go_num, HBU.out⟩
              case measure => simp [intOf]; omega
        · have h1i : ¬ (1 : Int) < (zk.length : Int) := by omega
          have HB7 := HBV
          obtain ⟨w7, rfl⟩ : ∃ w7, w7 = V := ⟨_, rfl⟩
          go_wp2_with fail
          go_loopw [8, 9] (fun s _ wr => ∃ k : Nat, k ≤ zk.length ∧ s = .int .i64 k ∧ Below w6.heap.size w6 wr) (fun s _ _ => zk.length - (intOf s).toNat)
          case atStart => exact ⟨0, Nat.zero_le _, rfl, HB7.out⟩
          case round =>
            clear HB7
            obtain ⟨k, hk, rfl, hb⟩ := hrel
            obtain ⟨U, rfl⟩ : ∃ U, U = wr := ⟨_, rfl⟩
            have HBU := Lib.hid hb
            have hcU := (hb.cell (p := ⟨b1, o1 + i, none⟩) hb1).trans HRC.out
            by_cases hkl : k < zk.length
            · obtain ⟨b2, o2, rfl, hb2, hx⟩ := sees_cell HRS.out hkl
              have hxU := (hb.cell (p := ⟨b2, o2 + k, none⟩) hb2).trans hx
              obtain ⟨x, hxe⟩ : ∃ x, x = zk.getD k 0 := ⟨_, rfl⟩
              have HHX := Lib.hid (HK.out k hkl)
              have HXW : Hid ((Lit.int .i64 x).wf = true) := Lib.hid (by rw [hxe]; exact HRS.out.2.1 _ (getD_mem hkl))
              rw [← hxe] at hx hxU HHX
              have HXE := Lib.hid hxe
              have HXC := Lib.hid hx
              have k00 : (0 : Int) ≤ (k : Int) := by omega
              have k01 : (k : Int) < (zk.length : Int) := by omega
              have HDU := Lib.hid (HD6.out.below hb)
              clear hx hxe hb
              go_wp2_with (go_at_call 15; refine (contains_any _ aa la ca (addrV xs) x (by omega) HDU.out).mono ?_; rw [HHX.out]; rintro e w8 ⟨rfl, rfl⟩)
              clear hcU hxU HDU
              go_loopw [9] (fun s wr => ∃ j : Nat, j ≤ k ∧ s = .int .i64 j ∧ Below w6.heap.size w6 wr) (fun s _ => k - (intOf s).toNat)
              case atStart => exact ⟨0, Nat.zero_le _, rfl, HBU.out⟩
              case round =>
                clear HBU
                obtain ⟨j, hj, rfl, hb⟩ := hrel
                obtain ⟨U, rfl⟩ : ∃ U, U = wr := ⟨_, rfl⟩
                have HBU := Lib.hid hb
                by_cases hjk : j < k
                · exact absurd hjk (by omega)
                · obtain rfl : j = k := by omega
                  clear hb
                  go_wp2_with fail
                  go_roundw
                  case rel => exact ⟨j + 1, hkl, by go_num, HBU.out⟩
                  case measure => simp [intOf]; omega
            · obtain rfl : k = zk.length := by omega
              clear hb
              go_wp2_with fail
              go_roundw
              case rel => exact ⟨i + 1, hlt, rfl, by go_num, HBU.out⟩
              case measure => simp [intOf]; omega
      · obtain rfl : i = gs.length := by omega
        have HE := HSUM.out
        clear hb
        go_wp2_with fail
        go_ret
        exact ⟨by simp [HE], HB6.out.trans (HBV.out.mono HB6.out.size)⟩
theorem lawAliases_walk (a : Option Addr) (len cap : Nat) (z : List Int) (W : World) (w0 : IsRow .u8 W a len cap z) : Calls Try.prog 9 #[.slice a len cap] W fun e W' => e = .returned (.bool true) ∧ Below W.heap.size W W' := by
  by_cases hl : len ≤ 1048576
  · exact alias_small W a len cap hl (code_of w0)
  · clear w0
    go_enter Try.func9, Try.ntmps9
    go_wp2_with (go_at_call 12; refine (big_yes _ a len cap hl).mono ?_; rintro e w0 ⟨rfl, rfl⟩)
    go_ret
    exact ⟨rfl, Below.refl _ _⟩
end Go.Proofs.Ytgninjdnfidpcaa
