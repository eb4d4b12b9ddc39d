/- The walk of the law on what is told. -/
import Derived.Test.YtedkeobhcpbigaaToV
import Derived.Test.YtedkeobhcpbigaaToP
import Derived.Test.YtedkeobhcpbigaaDraw14
import Derived.Test.YtedkeobhcpbigaaBig
import Derived.Test.YtedkeobhcpbigaaCont
import Derived.Test.YtedkeobhcpbigaaElimP
namespace Go.Proofs.Ytedkeobhcpbigaa
open Go.RowKit
set_option maxRecDepth 20000 in
set_option maxHeartbeats 6400000 in
theorem lawTold_small (W : World) (a : Option Addr) (len cap : Nat) (hl : len ≤ 1048576) (hc : CodeAt W W.heap.size a len) : Calls Try.prog 3 #[.slice a len cap] W fun e W' => e = .returned (.bool true) ∧ Below W.heap.size W W' := by
  have HK := Lib.hid hc
  clear hc
  go_enter Try.func3, Try.ntmps3
  go_wp2_with (go_at_call 10; refine (big_no _ a len cap hl).mono ?_; rintro e w0 ⟨rfl, rfl⟩)
  go_at_call 11
  refine (drawDel_any _ a len cap hl HK.out).mono ?_
  rintro e w1 ⟨ms, a1, l1, c1, vs, b1, lb, cb, k, n, hsm, hl13, hlb, hle, hcm, ⟨hk0, hk1⟩, ⟨hn0, hn1⟩, rfl, hm1, hv1, hb⟩
  obtain ⟨q, rfl⟩ : ∃ q : Nat, n = (q : Int) := ⟨n.toNat, by omega⟩
  have HSM := Lib.hid hsm
  have HCM := Lib.hid hcm
  have HM1 := Lib.hid hm1.sees
  have HV1 := Lib.hid hv1
  have HB1 := Lib.hid hb
  have HDEL := Lib.hid (del_is (ms := ms) (vs := vs) (n := q) (k := k) (by omega) (by omega))
  clear hsm hcm hm1 hv1 hb
  go_wp2_with fail
  go_at_call 12
  refine (toldP_any _ a1 l1 c1 ms (q : Int) HSM.out (by omega) (by omega) HM1.out).mono ?_
  rintro e w2 ⟨a2, l2, c2, rfl, ho2, hb⟩
  have hl26 : l2 ≤ 6 := by have h1 := ho2.1; have h2 := toldV_len ms (q : Int); omega
  have HT2 := Lib.hid ho2.sees
  have HM2 := Lib.hid (HM1.out.below hb)
  have HV2 := Lib.hid (HV1.out.below hb)
  have HB2 := Lib.hid (below_up HB1.out hb (Nat.le_refl _))
  clear hb ho2
  go_wp2_with fail
  go_at_call 13
  refine (delP_any _ a1 l1 c1 ms b1 lb cb vs k (q : Int) (by omega) (by omega) (by omega) (by omega) HSM.out HM2.out (by omega) hle HCM.out HV2.out _ rfl).mono ?_
  rintro e w3 ⟨he, hb⟩
  obtain ⟨x, hx⟩ : ∃ x, x = dN (delV ms vs k (q : Int)) := ⟨_, rfl⟩
  obtain ⟨y, hy⟩ : ∃ y, y = dD (delV ms vs k (q : Int)) := ⟨_, rfl⟩
  rw [← hx, ← hy, HDEL.out] at he
  subst he
  have HT3 := Lib.hid (HT2.out.below hb)
  have HM3 := Lib.hid (HM2.out.below hb)
  have HV3 := Lib.hid (HV2.out.below hb)
  have HB3 := Lib.hid (below_up HB2.out hb (Nat.le_refl _))
  clear hb hx hy
  obtain ⟨hh, hhe⟩ : ∃ t, t = hasB (toldV ms (q : Int)) k := ⟨_, rfl⟩
  obtain ⟨sv, hsv⟩ : ∃ t, t = solvB ms vs (q : Int) := ⟨_, rfl⟩
  have HH := Lib.hid hhe.symm
  have HSV := Lib.hid hsv.symm
  rw [← hhe, ← hsv]
  clear hhe hsv HDEL
  go_wp2_with fail
  obtain ⟨w4, hU⟩ : ∃ U, U = w3.alloc (.cells #[.int .i64 x, .int .i64 y] 30) := ⟨_, rfl⟩
  have hb : Below w3.heap.size w3 w4 := by rw [hU]; exact (Below.refl _ _).alloc (Nat.le_refl _) _
  have HT4 := Lib.hid (HT3.out.below hb)
  have HM4 := Lib.hid (HM3.out.below hb)
  have HV4 := Lib.hid (HV3.out.below hb)
  have HB4 := Lib.hid (below_up HB3.out hb (Nat.le_refl _))
  rw [← hU]
  clear hU hb
  have hcmp : True := trivial
  go_at_call 14
  refine (contains_any _ a2 l2 c2 (toldV ms (q : Int)) k (by omega) HT4.out).mono ?_
  rw [HH.out]
  rintro e w' ⟨rfl, rfl⟩
  cases hh
  · go_wp2_with fail
    clear hcmp
    go_loopw [10] (fun s wr => ∃ i : Nat, i ≤ l2 ∧ s = .int .i64 i ∧ Below W.heap.size W wr ∧ SeesM wr a1 l1 ms ∧ Sees .i64 wr a2 l2 (toldV ms (q : Int))) (fun s _ => l2 - (intOf s).toNat)
    case atStart => exact ⟨0, Nat.zero_le _, rfl, HB4.out, HM4.out, HT4.out⟩
    case round =>
      obtain ⟨i, hi, rfl, hb, hm, ht⟩ := hrel
      have HB6 := Lib.hid hb
      have HM6 := Lib.hid hm
      have HT6 := Lib.hid ht
      clear hb hm
      by_cases hlt : i < l2
      · obtain ⟨g, o, rfl, hg, hc⟩ := sees_cellAt ht hlt
        obtain ⟨x, hx⟩ : ∃ x, x = (toldV ms (q : Int)).getD i 0 := ⟨_, rfl⟩
        have hcx := hc i hlt
        rw [← hx] at hcx
        have hmem : x ∈ toldV ms (q : Int) := by rw [hx]; exact getD_mem (by have := ht.1; omega)
        have HTW := Lib.hid (twins_no hmem)
        have hxr : 0 ≤ x ∧ x ≤ 6 := by obtain ⟨_, j, h1, h2, _⟩ := told_mem.1 hmem; omega
        obtain ⟨hx0, hx1⟩ := hxr
        have j0 : (0 : Int) ≤ (i : Int) := by omega
        have j1 : (i : Int) < (l2 : Int) := by omega
        clear hc ht hx hmem
        go_wp2_with (first
          | (go_at_call 16; refine (twinP_any _ a1 l1 c1 ms x (by omega) (by omega) HSM.out HM6.out).mono ?_; rw [HTW.out]; rintro e w7 ⟨a7, l7, c7, rfl, ho7, hb⟩; have hl7 : l7 = 0 := ho7.1.symm; subst hl7; have HB7 := Lib.hid (below_up HB6.out hb (Nat.le_refl _)); have HM7 := Lib.hid (HM6.out.below hb); have HT7 := Lib.hid (HT6.out.below hb); clear hb ho7))
        go_roundw
        case rel => exact ⟨i + 1, by omega, by go_num, HB7.out, HM7.out, HT7.out⟩
        case measure => simp [intOf]; omega
      · obtain rfl : i = l2 := by omega
        have HK6 := Lib.hid ((HK.out.below HB6.out).mono HB6.out.size)
        clear ht hi hlt
        go_wp2_with fail
        go_at_call 17
        refine (drawUsef_any _ a len cap hl HK6.out).mono ?_
        rintro e w8 ⟨ns, a8, l8, c8, m8, hsm8, hl8, ⟨hm0, hm1⟩, rfl, ho8, hb⟩
        have HSM8 := Lib.hid hsm8
        have HO8 := Lib.hid ho8.sees
        have hroom := ho8.room
        have HB8 := Lib.hid (below_up HB6.out hb (Nat.le_refl _))
        clear hb ho8 hsm8
        go_wp2_with fail
        go_at_call 18
        refine (usefP_any _ a8 l8 c8 ns m8 HSM8.out (by omega) (by omega) HO8.out hroom).mono ?_
        rintro e w9 ⟨a9, l9, c9, rfl, ho9, hb⟩
        have HL9 := Lib.hid ho9.1
        have HO9 := Lib.hid (HO8.out.below hb)
        have HB9 := Lib.hid (below_up HB8.out hb (Nat.le_refl _))
        clear hb ho9
        obtain ⟨mt, hmt⟩ : ∃ t, t = isMat ns m8 := ⟨_, rfl⟩
        have HMT := Lib.hid hmt.symm
        clear hmt
        go_wp2_with fail
        go_at_call 19
        refine (isM_any _ a8 l8 c8 ns m8 HSM8.out (by omega) (by omega) HO9.out).mono ?_
        rw [HMT.out]
        rintro e wa ⟨rfl, hb⟩
        have HOA := Lib.hid (HO9.out.below hb)
        have HBA := Lib.hid (below_up HB9.out hb (Nat.le_refl _))
        clear hb
        cases mt
        · have hl9 : l9 = 0 := by rw [← HL9.out]; unfold usefV; rw [HMT.out]; rfl
          have HMI : Hid (missV ns m8 = -1) := Lib.hid (by unfold missV; rw [HMT.out]; rfl)
          subst hl9
          go_wp2_with (first
            | (go_at_call 20; refine (missTP_any _ a8 l8 c8 ns m8 HSM8.out (by omega) (by omega) HOA.out).mono ?_; rw [HMI.out]; rintro e wb ⟨rfl, hb⟩; have HBB := Lib.hid (below_up HBA.out hb (Nat.le_refl _)); clear hb))
          go_ret
          exact ⟨rfl, HBB.out⟩
        · have hm16 := (isMat_true HMT.out).1
          obtain ⟨p, rfl⟩ : ∃ p : Nat, m8 = (p : Int) := ⟨m8.toNat, by omega⟩
          obtain ⟨R, hR⟩ : ∃ R, R = (rrV ns (p : Int)).length := ⟨_, rfl⟩
          have HR := Lib.hid hR.symm
          have hl9 : l9 = R := by rw [← HL9.out, hR]; exact useful_rank HMT.out
          have HMI : Hid (missV ns (p : Int) = (p : Int) - (R : Int)) := Lib.hid (by unfold missV; rw [if_pos HMT.out, HR.out])
          have htl := told_all HMT.out
          rw [HR.out] at htl
          have hR12 : R ≤ 12 := by rw [hR, ← useful_rank HMT.out]; exact usefV_len _ _
          obtain ⟨M, hM⟩ : ∃ M : Int, M = (p : Int) - (R : Int) := ⟨_, rfl⟩
          rw [← hM] at HMI
          have wsum : IntKind.i64.wrap (M + (R : Int)) = (p : Int) := by rw [hM, IntWalk.i64_in _ (by omega)]; omega
          subst hl9
          clear hR
          by_cases hz : M = 0
          · have htp : (toldV ns (p : Int)).length = p := htl.2 (by omega)
            have HTP := Lib.hid htp
            have hRp : l9 = p := by omega
            subst hz
            clear hM htl htp wsum
            subst hRp
            go_wp2_with (first
              | (go_at_call 21; refine (rank_any _ a8 l8 c8 ns (l9 : Int) HSM8.out (by omega) (by omega) HOA.out).mono ?_; rw [HR.out]; rintro e wb ⟨rfl, hb⟩; have HOB := Lib.hid (HOA.out.below hb); have HBB := Lib.hid (below_up HBA.out hb (Nat.le_refl _)); clear hb)
              | (go_at_call 20; refine (missTP_any _ a8 l8 c8 ns (l9 : Int) HSM8.out (by omega) (by omega) HOB.out).mono ?_; rw [HMI.out]; rintro e wb ⟨rfl, hb⟩; have HOB := Lib.hid (HOB.out.below hb); have HBB := Lib.hid (below_up HBB.out hb (Nat.le_refl _)); clear hb)
              | (go_at_call 12; refine (toldP_any _ a8 l8 c8 ns (l9 : Int) HSM8.out (by omega) (by omega) HOB.out).mono ?_; rintro e wb ⟨ae, le, ce, rfl, ho, hb⟩; have hle : l9 = le := HTP.out.symm.trans ho.1; subst hle; clear ho; have HBB := Lib.hid (below_up HBB.out hb (Nat.le_refl _)); clear hb))
            go_ret
            exact ⟨rfl, HBB.out⟩
          · have htp : ¬ (toldV ns (p : Int)).length = p := fun hc => hz (by have := htl.1 hc; omega)
            have HTP := Lib.hid htp
            have hzb : (M == 0) = false := by simp [hz]
            clear hM htl htp
            go_wp2_with (first
              | (go_at_call 21; refine (rank_any _ a8 l8 c8 ns (p : Int) HSM8.out (by omega) (by omega) HOA.out).mono ?_; rw [HR.out]; rintro e wb ⟨rfl, hb⟩; have HOB := Lib.hid (HOA.out.below hb); have HBB := Lib.hid (below_up HBA.out hb (Nat.le_refl _)); clear hb)
              | (go_at_call 20; refine (missTP_any _ a8 l8 c8 ns (p : Int) HSM8.out (by omega) (by omega) HOB.out).mono ?_; rw [HMI.out]; rintro e wb ⟨rfl, hb⟩; have HOB := Lib.hid (HOB.out.below hb); have HBB := Lib.hid (below_up HBB.out hb (Nat.le_refl _)); clear hb)
              | (go_at_call 12; refine (toldP_any _ a8 l8 c8 ns (p : Int) HSM8.out (by omega) (by omega) HOB.out).mono ?_; rintro e wb ⟨ae, le, ce, rfl, ho, hb⟩; have hle : ¬ (le : Int) = (p : Int) := (by have h1 := ho.1; have h2 := HTP.out; omega); have hleb : ((le : Int) == (p : Int)) = false := (by simp; omega); clear ho; have HBB := Lib.hid (below_up HBB.out hb (Nat.le_refl _)); clear hb))
            go_ret
            exact ⟨rfl, HBB.out⟩
  · go_wp2_with fail
    go_at_call 15
    refine (isSolv_any _ a1 l1 c1 ms b1 lb cb vs (q : Int) HSM.out HM4.out (by omega) hle HCM.out HV4.out (by omega) (by omega)).mono ?_
    rw [HSV.out]
    rintro e w5 ⟨rfl, hb⟩
    have HT5 := Lib.hid (HT4.out.below hb)
    have HM5 := Lib.hid (HM4.out.below hb)
    have HB5 := Lib.hid (below_up HB4.out hb (Nat.le_refl _))
    clear hb
    cases sv
    · go_wp2_with fail
      clear hcmp
      go_loopw [10] (fun s wr => ∃ i : Nat, i ≤ l2 ∧ s = .int .i64 i ∧ Below W.heap.size W wr ∧ SeesM wr a1 l1 ms ∧ Sees .i64 wr a2 l2 (toldV ms (q : Int))) (fun s _ => l2 - (intOf s).toNat)
      case atStart => exact ⟨0, Nat.zero_le _, rfl, HB5.out, HM5.out, HT5.out⟩
      case round =>
        obtain ⟨i, hi, rfl, hb, hm, ht⟩ := hrel
        have HB6 := Lib.hid hb
        have HM6 := Lib.hid hm
        have HT6 := Lib.hid ht
        clear hb hm
        by_cases hlt : i < l2
        · obtain ⟨g, o, rfl, hg, hc⟩ := sees_cellAt ht hlt
          obtain ⟨x, hx⟩ : ∃ x, x = (toldV ms (q : Int)).getD i 0 := ⟨_, rfl⟩
          have hcx := hc i hlt
          rw [← hx] at hcx
          have hmem : x ∈ toldV ms (q : Int) := by rw [hx]; exact getD_mem (by have := ht.1; omega)
          have HTW := Lib.hid (twins_no hmem)
          have hxr : 0 ≤ x ∧ x ≤ 6 := by obtain ⟨_, j, h1, h2, _⟩ := told_mem.1 hmem; omega
          obtain ⟨hx0, hx1⟩ := hxr
          have j0 : (0 : Int) ≤ (i : Int) := by omega
          have j1 : (i : Int) < (l2 : Int) := by omega
          clear hc ht hx hmem
          go_wp2_with (first
            | (go_at_call 16; refine (twinP_any _ a1 l1 c1 ms x (by omega) (by omega) HSM.out HM6.out).mono ?_; rw [HTW.out]; rintro e w7 ⟨a7, l7, c7, rfl, ho7, hb⟩; have hl7 : l7 = 0 := ho7.1.symm; subst hl7; have HB7 := Lib.hid (below_up HB6.out hb (Nat.le_refl _)); have HM7 := Lib.hid (HM6.out.below hb); have HT7 := Lib.hid (HT6.out.below hb); clear hb ho7))
          go_roundw
          case rel => exact ⟨i + 1, by omega, by go_num, HB7.out, HM7.out, HT7.out⟩
          case measure => simp [intOf]; omega
        · obtain rfl : i = l2 := by omega
          have HK6 := Lib.hid ((HK.out.below HB6.out).mono HB6.out.size)
          clear ht hi hlt
          go_wp2_with fail
          go_at_call 17
          refine (drawUsef_any _ a len cap hl HK6.out).mono ?_
          rintro e w8 ⟨ns, a8, l8, c8, m8, hsm8, hl8, ⟨hm0, hm1⟩, rfl, ho8, hb⟩
          have HSM8 := Lib.hid hsm8
          have HO8 := Lib.hid ho8.sees
          have hroom := ho8.room
          have HB8 := Lib.hid (below_up HB6.out hb (Nat.le_refl _))
          clear hb ho8 hsm8
          go_wp2_with fail
          go_at_call 18
          refine (usefP_any _ a8 l8 c8 ns m8 HSM8.out (by omega) (by omega) HO8.out hroom).mono ?_
          rintro e w9 ⟨a9, l9, c9, rfl, ho9, hb⟩
          have HL9 := Lib.hid ho9.1
          have HO9 := Lib.hid (HO8.out.below hb)
          have HB9 := Lib.hid (below_up HB8.out hb (Nat.le_refl _))
          clear hb ho9
          obtain ⟨mt, hmt⟩ : ∃ t, t = isMat ns m8 := ⟨_, rfl⟩
          have HMT := Lib.hid hmt.symm
          clear hmt
          go_wp2_with fail
          go_at_call 19
          refine (isM_any _ a8 l8 c8 ns m8 HSM8.out (by omega) (by omega) HO9.out).mono ?_
          rw [HMT.out]
          rintro e wa ⟨rfl, hb⟩
          have HOA := Lib.hid (HO9.out.below hb)
          have HBA := Lib.hid (below_up HB9.out hb (Nat.le_refl _))
          clear hb
          cases mt
          · have hl9 : l9 = 0 := by rw [← HL9.out]; unfold usefV; rw [HMT.out]; rfl
            have HMI : Hid (missV ns m8 = -1) := Lib.hid (by unfold missV; rw [HMT.out]; rfl)
            subst hl9
            go_wp2_with (first
              | (go_at_call 20; refine (missTP_any _ a8 l8 c8 ns m8 HSM8.out (by omega) (by omega) HOA.out).mono ?_; rw [HMI.out]; rintro e wb ⟨rfl, hb⟩; have HBB := Lib.hid (below_up HBA.out hb (Nat.le_refl _)); clear hb))
            go_ret
            exact ⟨rfl, HBB.out⟩
          · have hm16 := (isMat_true HMT.out).1
            obtain ⟨p, rfl⟩ : ∃ p : Nat, m8 = (p : Int) := ⟨m8.toNat, by omega⟩
            obtain ⟨R, hR⟩ : ∃ R, R = (rrV ns (p : Int)).length := ⟨_, rfl⟩
            have HR := Lib.hid hR.symm
            have hl9 : l9 = R := by rw [← HL9.out, hR]; exact useful_rank HMT.out
            have HMI : Hid (missV ns (p : Int) = (p : Int) - (R : Int)) := Lib.hid (by unfold missV; rw [if_pos HMT.out, HR.out])
            have htl := told_all HMT.out
            rw [HR.out] at htl
            have hR12 : R ≤ 12 := by rw [hR, ← useful_rank HMT.out]; exact usefV_len _ _
            obtain ⟨M, hM⟩ : ∃ M : Int, M = (p : Int) - (R : Int) := ⟨_, rfl⟩
            rw [← hM] at HMI
            have wsum : IntKind.i64.wrap (M + (R : Int)) = (p : Int) := by rw [hM, IntWalk.i64_in _ (by omega)]; omega
            subst hl9
            clear hR
            by_cases hz : M = 0
            · have htp : (toldV ns (p : Int)).length = p := htl.2 (by omega)
              have HTP := Lib.hid htp
              have hRp : l9 = p := by omega
              subst hz
              clear hM htl htp wsum
              subst hRp
              go_wp2_with (first
                | (go_at_call 21; refine (rank_any _ a8 l8 c8 ns (l9 : Int) HSM8.out (by omega) (by omega) HOA.out).mono ?_; rw [HR.out]; rintro e wb ⟨rfl, hb⟩; have HOB := Lib.hid (HOA.out.below hb); have HBB := Lib.hid (below_up HBA.out hb (Nat.le_refl _)); clear hb)
                | (go_at_call 20; refine (missTP_any _ a8 l8 c8 ns (l9 : Int) HSM8.out (by omega) (by omega) HOB.out).mono ?_; rw [HMI.out]; rintro e wb ⟨rfl, hb⟩; have HOB := Lib.hid (HOB.out.below hb); have HBB := Lib.hid (below_up HBB.out hb (Nat.le_refl _)); clear hb)
                | (go_at_call 12; refine (toldP_any _ a8 l8 c8 ns (l9 : Int) HSM8.out (by omega) (by omega) HOB.out).mono ?_; rintro e wb ⟨ae, le, ce, rfl, ho, hb⟩; have hle : l9 = le := HTP.out.symm.trans ho.1; subst hle; clear ho; have HBB := Lib.hid (below_up HBB.out hb (Nat.le_refl _)); clear hb))
              go_ret
              exact ⟨rfl, HBB.out⟩
            · have htp : ¬ (toldV ns (p : Int)).length = p := fun hc => hz (by have := htl.1 hc; omega)
              have HTP := Lib.hid htp
              have hzb : (M == 0) = false := by simp [hz]
              clear hM htl htp
              go_wp2_with (first
                | (go_at_call 21; refine (rank_any _ a8 l8 c8 ns (p : Int) HSM8.out (by omega) (by omega) HOA.out).mono ?_; rw [HR.out]; rintro e wb ⟨rfl, hb⟩; have HOB := Lib.hid (HOA.out.below hb); have HBB := Lib.hid (below_up HBA.out hb (Nat.le_refl _)); clear hb)
                | (go_at_call 20; refine (missTP_any _ a8 l8 c8 ns (p : Int) HSM8.out (by omega) (by omega) HOB.out).mono ?_; rw [HMI.out]; rintro e wb ⟨rfl, hb⟩; have HOB := Lib.hid (HOB.out.below hb); have HBB := Lib.hid (below_up HBB.out hb (Nat.le_refl _)); clear hb)
                | (go_at_call 12; refine (toldP_any _ a8 l8 c8 ns (p : Int) HSM8.out (by omega) (by omega) HOB.out).mono ?_; rintro e wb ⟨ae, le, ce, rfl, ho, hb⟩; have hle : ¬ (le : Int) = (p : Int) := (by have h1 := ho.1; have h2 := HTP.out; omega); have hleb : ((le : Int) == (p : Int)) = false := (by simp; omega); clear ho; have HBB := Lib.hid (below_up HBB.out hb (Nat.le_refl _)); clear hb))
              go_ret
              exact ⟨rfl, HBB.out⟩
    · go_wp2_with fail
      clear hcmp
      go_loopw [10] (fun s wr => ∃ i : Nat, i ≤ l2 ∧ s = .int .i64 i ∧ Below W.heap.size W wr ∧ SeesM wr a1 l1 ms ∧ Sees .i64 wr a2 l2 (toldV ms (q : Int))) (fun s _ => l2 - (intOf s).toNat)
      case atStart => exact ⟨0, Nat.zero_le _, rfl, HB5.out, HM5.out, HT5.out⟩
      case round =>
        obtain ⟨i, hi, rfl, hb, hm, ht⟩ := hrel
        have HB6 := Lib.hid hb
        have HM6 := Lib.hid hm
        have HT6 := Lib.hid ht
        clear hb hm
        by_cases hlt : i < l2
        · obtain ⟨g, o, rfl, hg, hc⟩ := sees_cellAt ht hlt
          obtain ⟨x, hx⟩ : ∃ x, x = (toldV ms (q : Int)).getD i 0 := ⟨_, rfl⟩
          have hcx := hc i hlt
          rw [← hx] at hcx
          have hmem : x ∈ toldV ms (q : Int) := by rw [hx]; exact getD_mem (by have := ht.1; omega)
          have HTW := Lib.hid (twins_no hmem)
          have hxr : 0 ≤ x ∧ x ≤ 6 := by obtain ⟨_, j, h1, h2, _⟩ := told_mem.1 hmem; omega
          obtain ⟨hx0, hx1⟩ := hxr
          have j0 : (0 : Int) ≤ (i : Int) := by omega
          have j1 : (i : Int) < (l2 : Int) := by omega
          clear hc ht hx hmem
          go_wp2_with (first
            | (go_at_call 16; refine (twinP_any _ a1 l1 c1 ms x (by omega) (by omega) HSM.out HM6.out).mono ?_; rw [HTW.out]; rintro e w7 ⟨a7, l7, c7, rfl, ho7, hb⟩; have hl7 : l7 = 0 := ho7.1.symm; subst hl7; have HB7 := Lib.hid (below_up HB6.out hb (Nat.le_refl _)); have HM7 := Lib.hid (HM6.out.below hb); have HT7 := Lib.hid (HT6.out.below hb); clear hb ho7))
          go_roundw
          case rel => exact ⟨i + 1, by omega, by go_num, HB7.out, HM7.out, HT7.out⟩
          case measure => simp [intOf]; omega
        · obtain rfl : i = l2 := by omega
          have HK6 := Lib.hid ((HK.out.below HB6.out).mono HB6.out.size)
          clear ht hi hlt
          go_wp2_with fail
          go_at_call 17
          refine (drawUsef_any _ a len cap hl HK6.out).mono ?_
          rintro e w8 ⟨ns, a8, l8, c8, m8, hsm8, hl8, ⟨hm0, hm1⟩, rfl, ho8, hb⟩
          have HSM8 := Lib.hid hsm8
          have HO8 := Lib.hid ho8.sees
          have hroom := ho8.room
          have HB8 := Lib.hid (below_up HB6.out hb (Nat.le_refl _))
          clear hb ho8 hsm8
          go_wp2_with fail
          go_at_call 18
          refine (usefP_any _ a8 l8 c8 ns m8 HSM8.out (by omega) (by omega) HO8.out hroom).mono ?_
          rintro e w9 ⟨a9, l9, c9, rfl, ho9, hb⟩
          have HL9 := Lib.hid ho9.1
          have HO9 := Lib.hid (HO8.out.below hb)
          have HB9 := Lib.hid (below_up HB8.out hb (Nat.le_refl _))
          clear hb ho9
          obtain ⟨mt, hmt⟩ : ∃ t, t = isMat ns m8 := ⟨_, rfl⟩
          have HMT := Lib.hid hmt.symm
          clear hmt
          go_wp2_with fail
          go_at_call 19
          refine (isM_any _ a8 l8 c8 ns m8 HSM8.out (by omega) (by omega) HO9.out).mono ?_
          rw [HMT.out]
          rintro e wa ⟨rfl, hb⟩
          have HOA := Lib.hid (HO9.out.below hb)
          have HBA := Lib.hid (below_up HB9.out hb (Nat.le_refl _))
          clear hb
          cases mt
          · have hl9 : l9 = 0 := by rw [← HL9.out]; unfold usefV; rw [HMT.out]; rfl
            have HMI : Hid (missV ns m8 = -1) := Lib.hid (by unfold missV; rw [HMT.out]; rfl)
            subst hl9
            go_wp2_with (first
              | (go_at_call 20; refine (missTP_any _ a8 l8 c8 ns m8 HSM8.out (by omega) (by omega) HOA.out).mono ?_; rw [HMI.out]; rintro e wb ⟨rfl, hb⟩; have HBB := Lib.hid (below_up HBA.out hb (Nat.le_refl _)); clear hb))
            go_ret
            exact ⟨rfl, HBB.out⟩
          · have hm16 := (isMat_true HMT.out).1
            obtain ⟨p, rfl⟩ : ∃ p : Nat, m8 = (p : Int) := ⟨m8.toNat, by omega⟩
            obtain ⟨R, hR⟩ : ∃ R, R = (rrV ns (p : Int)).length := ⟨_, rfl⟩
            have HR := Lib.hid hR.symm
            have hl9 : l9 = R := by rw [← HL9.out, hR]; exact useful_rank HMT.out
            have HMI : Hid (missV ns (p : Int) = (p : Int) - (R : Int)) := Lib.hid (by unfold missV; rw [if_pos HMT.out, HR.out])
            have htl := told_all HMT.out
            rw [HR.out] at htl
            have hR12 : R ≤ 12 := by rw [hR, ← useful_rank HMT.out]; exact usefV_len _ _
            obtain ⟨M, hM⟩ : ∃ M : Int, M = (p : Int) - (R : Int) := ⟨_, rfl⟩
            rw [← hM] at HMI
            have wsum : IntKind.i64.wrap (M + (R : Int)) = (p : Int) := by rw [hM, IntWalk.i64_in _ (by omega)]; omega
            subst hl9
            clear hR
            by_cases hz : M = 0
            · have htp : (toldV ns (p : Int)).length = p := htl.2 (by omega)
              have HTP := Lib.hid htp
              have hRp : l9 = p := by omega
              subst hz
              clear hM htl htp wsum
              subst hRp
              go_wp2_with (first
                | (go_at_call 21; refine (rank_any _ a8 l8 c8 ns (l9 : Int) HSM8.out (by omega) (by omega) HOA.out).mono ?_; rw [HR.out]; rintro e wb ⟨rfl, hb⟩; have HOB := Lib.hid (HOA.out.below hb); have HBB := Lib.hid (below_up HBA.out hb (Nat.le_refl _)); clear hb)
                | (go_at_call 20; refine (missTP_any _ a8 l8 c8 ns (l9 : Int) HSM8.out (by omega) (by omega) HOB.out).mono ?_; rw [HMI.out]; rintro e wb ⟨rfl, hb⟩; have HOB := Lib.hid (HOB.out.below hb); have HBB := Lib.hid (below_up HBB.out hb (Nat.le_refl _)); clear hb)
                | (go_at_call 12; refine (toldP_any _ a8 l8 c8 ns (l9 : Int) HSM8.out (by omega) (by omega) HOB.out).mono ?_; rintro e wb ⟨ae, le, ce, rfl, ho, hb⟩; have hle : l9 = le := HTP.out.symm.trans ho.1; subst hle; clear ho; have HBB := Lib.hid (below_up HBB.out hb (Nat.le_refl _)); clear hb))
              go_ret
              exact ⟨rfl, HBB.out⟩
            · have htp : ¬ (toldV ns (p : Int)).length = p := fun hc => hz (by have := htl.1 hc; omega)
              have HTP := Lib.hid htp
              have hzb : (M == 0) = false := by simp [hz]
              clear hM htl htp
              go_wp2_with (first
                | (go_at_call 21; refine (rank_any _ a8 l8 c8 ns (p : Int) HSM8.out (by omega) (by omega) HOA.out).mono ?_; rw [HR.out]; rintro e wb ⟨rfl, hb⟩; have HOB := Lib.hid (HOA.out.below hb); have HBB := Lib.hid (below_up HBA.out hb (Nat.le_refl _)); clear hb)
                | (go_at_call 20; refine (missTP_any _ a8 l8 c8 ns (p : Int) HSM8.out (by omega) (by omega) HOB.out).mono ?_; rw [HMI.out]; rintro e wb ⟨rfl, hb⟩; have HOB := Lib.hid (HOB.out.below hb); have HBB := Lib.hid (below_up HBB.out hb (Nat.le_refl _)); clear hb)
                | (go_at_call 12; refine (toldP_any _ a8 l8 c8 ns (p : Int) HSM8.out (by omega) (by omega) HOB.out).mono ?_; rintro e wb ⟨ae, le, ce, rfl, ho, hb⟩; have hle : ¬ (le : Int) = (p : Int) := (by have h1 := ho.1; have h2 := HTP.out; omega); have hleb : ((le : Int) == (p : Int)) = false := (by simp; omega); clear ho; have HBB := Lib.hid (below_up HBB.out hb (Nat.le_refl _)); clear hb))
              go_ret
              exact ⟨rfl, HBB.out⟩
theorem lawTold_walk (a : Option Addr) (len cap : Nat) (z : List Int) (W : World) (w0 : IsRow .u8 W a len cap z) : Calls Try.prog 3 #[.slice a len cap] W fun e W' => e = .returned (.bool true) ∧ Below W.heap.size W W' := by
  by_cases hl : len ≤ 1048576
  · exact lawTold_small W a len cap hl (code_of w0)
  · clear w0
    go_enter Try.func3, Try.ntmps3
    go_wp2_with (go_at_call 10; refine (big_yes _ a len cap hl).mono ?_; rintro e w0 ⟨rfl, rfl⟩)
    go_ret
    exact ⟨rfl, Below.refl _ _⟩
end Go.Proofs.Ytedkeobhcpbigaa
