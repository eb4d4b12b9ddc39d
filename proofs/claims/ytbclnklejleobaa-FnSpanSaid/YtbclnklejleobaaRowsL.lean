/- The walk of the law on rows. -/
import Derived.Test.YtbclnklejleobaaRowsF
import Derived.Test.YtbclnklejleobaaDrawM
import Derived.Test.YtbclnklejleobaaNullB
import Derived.Test.YtbclnklejleobaaBig
namespace Go.Proofs.Ytbclnklejleobaa
open Go.RowKit
def LawYes (W : World) (e : Ending) (w' : World) : Prop := e = .returned (.bool true) ∧ Below W.heap.size W w'
theorem seesM_row {w : World} {a : Option Addr} {len : Nat} {ms : List (List Int)} (h : SeesM w a len ms) {r : Nat} (hr : r < len) : ∃ b off ar cr, a = some ⟨b, off, none⟩ ∧ b < w.heap.size ∧ w.cell? ⟨b, off + r, none⟩ = some (.slice ar (row ms r).length cr) ∧ (row ms r).length ≤ cr ∧ cr ≤ maxLen ∧ Sees .i64 w ar (row ms r).length (row ms r) := h.2 r hr
set_option maxRecDepth 20000 in
set_option maxHeartbeats 4000000 in
theorem lawRows_small (W : World) (a : Option Addr) (len cap : Nat) (hl : len ≤ 1048576) (hc : CodeAt W W.heap.size a len) : Calls Try.prog 3 #[.slice a len cap] W (LawYes W) := by
  have HK := Lib.hid hc
  clear hc
  go_enter Try.func3, Try.ntmps3
  go_wp2_with (go_at_call 11; refine (big_no _ a len cap hl).mono ?_; rintro e w0 ⟨rfl, rfl⟩)
  go_at_call 12
  refine (drawRR_any _ a len cap hl HK.out).mono ?_
  rintro e w1 ⟨ms, a1, l1, c1, n, hsm, hl1, ⟨hn0, hn1⟩, rfl, ho1, hb1⟩
  have HSM := Lib.hid hsm
  have HL1 := Lib.hid ho1.1
  have HS1 := Lib.hid ho1.sees
  have HB1 := Lib.hid hb1
  have hi0 : -9223372036854775808 ≤ n := by omega
  have hi1 : n ≤ 9223372036854775807 := by omega
  clear hsm ho1 hb1
  cases hv : isMat ms n
  · have HV := Lib.hid hv
    have HE : Hid (rrV ms n = []) := Lib.hid (by unfold rrV; rw [hv]; rfl)
    clear hv
    go_wp2_with fail
    go_at_call 13
    refine (rrP_any _ a1 l1 c1 ms n HSM.out hi0 hi1 HS1.out).mono ?_
    rw [HE.out]
    rintro e w2 ⟨a2, l2, c2, rfl, ho2, hb2⟩
    obtain rfl : 0 = l2 := ho2.1
    have HS2 := Lib.hid (HS1.out.below hb2)
    have HB2 := Lib.hid (below_up HB1.out hb2 (Nat.le_refl _))
    clear ho2 hb2
    go_wp2_with fail
    go_at_call 14
    refine (isM_any _ a1 l1 c1 ms n HSM.out hi0 hi1 HS2.out).mono ?_
    rw [HV.out]
    rintro e w3 ⟨rfl, hb3⟩
    have HS3 := Lib.hid (HS2.out.below hb3)
    have HB3 := Lib.hid (below_up HB2.out hb3 (Nat.le_refl _))
    clear hb3
    go_wp2_with fail
    go_at_call 15
    refine (specIsM_any _ a1 l1 c1 ms n HSM.out hi0 hi1 HS3.out).mono ?_
    rw [HV.out]
    rintro e w4 ⟨rfl, hb4⟩
    have HS4 := Lib.hid (HS3.out.below hb4)
    have HB4 := Lib.hid (below_up HB3.out hb4 (Nat.le_refl _))
    clear hb4
    go_wp2_with fail
    go_at_call 14
    refine (isM_any _ a1 l1 c1 ms n HSM.out hi0 hi1 HS4.out).mono ?_
    rw [HV.out]
    rintro e w5 ⟨rfl, hb5⟩
    have HB5 := Lib.hid (below_up HB4.out hb5 (Nat.le_refl _))
    clear hb5
    go_wp2_with fail
    go_ret
    exact ⟨rfl, HB5.out⟩
  · have hcol := (isMat_true hv).1
    obtain ⟨N, hN⟩ : ∃ N : Nat, n = (N : Int) := ⟨n.toNat, by omega⟩
    subst hN
    have HE : Hid (rrV ms (N : Int) = rrL ms N) := Lib.hid (by unfold rrV; rw [if_pos hv]; simp)
    obtain ⟨c, hok⟩ := rows_ok hv
    have HOK := Lib.hid hok
    have HNU : Hid (∀ i, i < l1 → nullV ms (row ms i) = [] ∧ inSpanV ms (row ms i) = true) := Lib.hid (fun i hi => ⟨null_rows hv (by rw [HL1.out]; exact hi), in_rows hv (by rw [HL1.out]; exact hi)⟩)
    have HWD : Hid (∀ i, i < l1 → (row ms i).length = N) := Lib.hid (fun i hi => by have := ((isMat_true hv).2.2 i (by rw [HL1.out]; exact hi)).1; omega)
    have HV := Lib.hid hv
    have hN6 : N ≤ 6 := hok.n6
    obtain ⟨rs, hrs⟩ : ∃ rs, rs = rrL ms N := ⟨_, rfl⟩
    rw [← hrs] at HE HOK
    have hr1 : rs.length ≤ l1 := by have := HOK.out.rs_le; rw [HL1.out] at this; exact this
    have hrn : rs.length ≤ N := HOK.out.rn_le
    clear hv hok hrs hcol
    go_wp2_with fail
    go_at_call 13
    refine (rrP_any _ a1 l1 c1 ms (N : Int) HSM.out hi0 hi1 HS1.out).mono ?_
    rw [HE.out]
    rintro e w2 ⟨a2, l2, c2, rfl, ho2, hb2⟩
    have hl2 := ho2.1
    subst hl2
    have HR2 := Lib.hid ho2.sees
    have HS2 := Lib.hid (HS1.out.below hb2)
    have HB2 := Lib.hid (below_up HB1.out hb2 (Nat.le_refl _))
    clear ho2 hb2
    go_wp2_with fail
    go_at_call 14
    refine (isM_any _ a1 l1 c1 ms (N : Int) HSM.out hi0 hi1 HS2.out).mono ?_
    rw [HV.out]
    rintro e w3 ⟨rfl, hb3⟩
    have HS3 := Lib.hid (HS2.out.below hb3)
    have HR3 := Lib.hid (HR2.out.below hb3)
    have HB3 := Lib.hid (below_up HB2.out hb3 (Nat.le_refl _))
    clear hb3
    go_wp2_with fail
    go_at_call 15
    refine (specIsM_any _ a1 l1 c1 ms (N : Int) HSM.out hi0 hi1 HS3.out).mono ?_
    rw [HV.out]
    rintro e w4 ⟨rfl, hb4⟩
    have HS4 := Lib.hid (HS3.out.below hb4)
    have HR4 := Lib.hid (HR3.out.below hb4)
    have HB4 := Lib.hid (below_up HB3.out hb4 (Nat.le_refl _))
    clear hb4
    go_wp2_with fail
    go_at_call 14
    refine (isM_any _ a1 l1 c1 ms (N : Int) HSM.out hi0 hi1 HS4.out).mono ?_
    rw [HV.out]
    rintro e w5 ⟨rfl, hb5⟩
    have HS5 := Lib.hid (HS4.out.below hb5)
    have HR5 := Lib.hid (HR4.out.below hb5)
    have HB5 := Lib.hid (below_up HB4.out hb5 (Nat.le_refl _))
    clear hb5
    go_wp2_with fail
    go_loopw [6, 7] (fun i _ wr => ∃ k : Nat, k ≤ l1 ∧ i = .int .i64 k ∧ Below W.heap.size W wr ∧ Below w5.heap.size w5 wr) (fun i _ _ => l1 - (intOf i).toNat)
    case atStart => exact ⟨0, Nat.zero_le _, rfl, HB5.out, Below.refl _ _⟩
    case round =>
      obtain ⟨k, hk, rfl, hb, hb5⟩ := hrel
      have HB := Lib.hid hb
      have HBB := Lib.hid hb5
      have HSR := Lib.hid (HS5.out.below hb5)
      by_cases hkl : k < l1
      · obtain ⟨b6, o6, ar, cr, rfl, hb6, hc6, hle6, hcm6, hs6⟩ := HSR.out.2 k hkl
        have hwd := HWD.out k hkl
        have HRZ := Lib.hid hs6
        have HNK := HNU.out k hkl
        obtain ⟨zk, hzk⟩ : ∃ zk, zk = row ms k := ⟨_, rfl⟩
        rw [← hzk] at hc6 hle6 HRZ HNK hwd
        have HNN := Lib.hid HNK.1
        have HNI := Lib.hid HNK.2
        rw [hwd] at hc6 hle6 HRZ
        have hn9 : N ≤ 1073741824 := by omega
        clear hs6 HNK hb hb5 hwd hzk
        go_wp2_with fail
        go_at_call 16
        refine (nv_any _ _ l1 c1 ms ar N cr zk HSM.out HSR.out hn9 hle6 hcm6 HRZ.out).mono ?_
        rw [HNN.out]
        rintro e w6 ⟨a7, l7, c7, rfl, ho7, hb7⟩
        obtain rfl : 0 = l7 := ho7.1
        have hc7 := (hb7.cell (p := ⟨b6, o6 + k, none⟩) hb6).trans hc6
        have HSR7 := Lib.hid (HSR.out.below hb7)
        have HRZ7 := Lib.hid (HRZ.out.below hb7)
        have HB7 := Lib.hid (below_up HB.out hb7 (Nat.le_refl _))
        have HBB7 := Lib.hid (below_up HBB.out hb7 (Nat.le_refl _))
        clear ho7 hb7 hc6
        go_wp2_with (go_at_call 17; refine (span_any _ _ l1 c1 ms ar N cr zk HSM.out HSR7.out hn9 hle6 hcm6 HRZ7.out).mono ?_; rw [HNI.out]; rintro e w8 ⟨rfl, hb8⟩; have HB8 := Lib.hid (below_up HB7.out hb8 (Nat.le_refl _)); have HBB8 := Lib.hid (below_up HBB7.out hb8 (Nat.le_refl _)); clear hb8)
        go_roundw
        case rel => exact ⟨k + 1, by omega, by go_num, HB8.out, HBB8.out⟩
        case measure => simp [intOf]; omega
      · have HRR := Lib.hid (HR5.out.below hb5)
        clear hb hb5
        go_wp2_with fail
        go_loop [8, 9, 10, 11] (fun la i _ _ => ∃ (t : Nat) (x : Int), t ≤ rs.length ∧ i = .int .i64 t ∧ la = .int .i64 x ∧ -1 ≤ x ∧ x ≤ 6 ∧ Hid (t < rs.length → x < (c t : Int))) (fun _ i _ _ => rs.length - (intOf i).toNat)
        case atStart => exact ⟨0, -1, Nat.zero_le _, rfl, rfl, by decide, by decide, Lib.hid (fun _ => by omega)⟩
        case round =>
          obtain ⟨t, x, ht, rfl, rfl, hx0, hx1, HX⟩ := hrel
          by_cases htr : t < rs.length
          · obtain ⟨b6, o6, ar, cr, rfl, hb6, hc6, _, _, hs6⟩ := HRR.out.2 t htr
            rw [HOK.out.wid t htr] at hc6 hs6
            obtain ⟨d, hd⟩ : ∃ d, d = c t := ⟨_, rfl⟩
            have HD := Lib.hid hd
            have hdN : d < N := by rw [hd]; exact HOK.out.lt t htr
            have hxd : x < (d : Int) := by rw [hd]; exact HX.out htr
            rcases hs6.2.2 with h0 | ⟨b7, o7, rfl, hb7, hc7⟩
            · omega
            · have HC7 := Lib.hid hc7
              clear hs6 hc7 hd
              go_wp2_with fail
              go_loop [10] (fun q => ∃ j : Nat, j ≤ d ∧ q = .int .i64 j) (fun q => N - (intOf q).toNat)
              case atStart => exact ⟨0, Nat.zero_le _, rfl⟩
              case round =>
                obtain ⟨j, hj, rfl⟩ := hrel
                have hcc := HC7.out j (by omega)
                by_cases hjd : j < d
                · rw [show (row rs t).getD j 0 = 0 from HOK.out.before t htr j (by rw [← HD.out]; exact hjd)] at hcc
                  have hjN : j < N := by omega
                  go_wp2
                  go_round
                  case rel => exact ⟨j + 1, by omega, by go_num⟩
                  case measure => simp [intOf]; omega
                · obtain rfl : j = d := by omega
                  obtain ⟨y, hy⟩ : ∃ y, y = vec (row rs t) j := ⟨_, rfl⟩
                  rw [show (row rs t).getD j 0 = y from hy.symm] at hcc
                  have hy0 : 0 < y := by rw [hy, HD.out]; exact HOK.out.pos t htr
                  have hyb : (y == 0) = false := by simp; omega
                  have hjb : ((j : Int) == (N : Int)) = false := by simp; omega
                  clear hy
                  go_wp2_with fail
                  go_loop [11] (fun q => ∃ u : Nat, u ≤ rs.length ∧ q = .int .i64 u) (fun q => rs.length - (intOf q).toNat)
                  case atStart => exact ⟨0, Nat.zero_le _, rfl⟩
                  case round =>
                    obtain ⟨u, hu, rfl⟩ := hrel
                    by_cases hur : u < rs.length
                    · by_cases hut : u = t
                      · subst hut
                        go_wp2
                        go_round
                        case rel => exact ⟨u + 1, by omega, by go_num⟩
                        case measure => simp [intOf]; omega
                      · obtain ⟨b8, o8, au, cu, ha8, _, hc8, _, _, hs8⟩ := HRR.out.2 u hur
                        cases ha8
                        rw [HOK.out.wid u hur] at hc8 hs8
                        rcases hs8.2.2 with h0 | ⟨b9, o9, rfl, hb9, hc9⟩
                        · omega
                        · have hcu := hc9 j hdN
                          rw [show (row rs u).getD j 0 = 0 by have := HOK.out.off t htr u hur hut; rw [← HD.out] at this; exact this] at hcu
                          have hutb : ((u : Int) != (t : Int)) = true := by simp; omega
                          clear hs8 hc9
                          go_wp2
                          go_round
                          case rel => exact ⟨u + 1, by omega, by go_num⟩
                          case measure => simp [intOf]; omega
                    · obtain rfl : u = rs.length := by omega
                      go_wp2
                      go_round
                      case rel => exact ⟨t + 1, j, by omega, by go_num, rfl, by omega, by omega, Lib.hid (fun h => by have := HOK.out.mono t h; have h2 := HD.out; omega)⟩
                      case measure => simp [intOf]; omega
          · obtain rfl : t = rs.length := by omega
            have HRK : Hid ((rrV ms (N : Int)).length = rs.length) := Lib.hid (by rw [HE.out])
            go_wp2_with (go_at_call 18; refine (rank_any _ a1 l1 c1 ms (N : Int) HSM.out hi0 hi1 HSR.out).mono ?_; rw [HRK.out]; rintro e w8 ⟨rfl, hb8⟩; have HB8 := Lib.hid (below_up HB.out hb8 (Nat.le_refl _)); clear hb8)
            go_ret
            exact ⟨rfl, HB8.out⟩
theorem lawRows_walk (a : Option Addr) (len cap : Nat) (z : List Int) (W : World) (w0 : IsRow .u8 W a len cap z) : Calls Try.prog 3 #[.slice a len cap] W (LawYes W) := by
  by_cases hl : len ≤ 1048576
  · exact lawRows_small W a len cap hl (code_of w0)
  · clear w0
    go_enter Try.func3, Try.ntmps3
    go_wp2_with (go_at_call 11; refine (big_yes _ a len cap hl).mono ?_; rintro e w0 ⟨rfl, rfl⟩)
    go_ret
    exact ⟨rfl, Below.refl _ _⟩
end Go.Proofs.Ytbclnklejleobaa
