/- The program's ReadUvarint. -/
import Derived.Test.YtnhpkiddepfjoaaReadS
import Derived.Test.YtnhpkiddepfjoaaMinB
namespace Go.Proofs.Ytnhpkiddepfjoaa
open Go.RowKit
theorem Own.room {k : IntKind} {e : TypeId} {w : World} {lo hi : Nat} {a : Option Addr} {len cap : Nat} {zs : List Int} (h : Own k e w lo hi a len cap zs) : len ≤ cap := by
  rcases h.spot with ⟨_, h1, h2, _⟩ | ⟨g, _, _, _, h1, _⟩ <;> omega
theorem isMinimal_any (x k : Int) (w : World) : Calls Try.prog 49 #[.int .u8 x, .int .i64 k] w fun e w' => e = .returned (.bool (!(x == 0) || k == 0)) ∧ w = w' := by
  by_cases h1 : x = 0 <;> by_cases h2 : k = 0
  all_goals
    go_enter Try.func49, Try.ntmps49
    go_wp2
    go_ret
    exact ⟨by simp [h1, h2], rfl⟩
theorem isMinimal_no (x k : Int) (w : World) (h : x = 0 ∧ 0 < k) : Calls Try.prog 49 #[.int .u8 x, .int .i64 k] w fun e w' => e = .returned (.bool false) ∧ w = w' := by
  refine (isMinimal_any x k w).mono ?_
  rintro e w' ⟨rfl, rfl⟩
  refine ⟨?_, rfl⟩
  have : k ≠ 0 := by omega
  simp [h.1, this]
theorem isMinimal_yes (x k : Int) (w : World) (h : ¬ (x = 0 ∧ 0 < k)) (h0 : 0 ≤ k) : Calls Try.prog 49 #[.int .u8 x, .int .i64 k] w fun e w' => e = .returned (.bool true) ∧ w = w' := by
  refine (isMinimal_any x k w).mono ?_
  rintro e w' ⟨rfl, rfl⟩
  refine ⟨?_, rfl⟩
  by_cases hx : x = 0
  · have : k = 0 := by omega
    simp [this]
  · simp [hx]
set_option maxHeartbeats 1600000 in
theorem read_any (W : World) (a : Option Addr) (len cap : Nat) (zs : List Int) (o : Int) (hl : len ≤ 1073741824) (hlc : len ≤ cap) (ho0 : -9223372036854775808 ≤ o) (ho1 : o ≤ 9223372036854775807) (hs : Sees .u8 W a len zs) :
    Calls Try.prog 15 #[.slice a len cap, .int .i64 o] W fun e w' => e = rdRet (rd zs o) ∧ Below W.heap.size W w' := by
  have HS := Lib.hid hs
  have HL := Lib.hid hs.1
  clear hs
  by_cases hin : inR o 0 len = true
  · obtain ⟨p, rfl⟩ : ∃ p : Nat, o = p := ⟨o.toNat, by have := inR_true.1 hin; omega⟩
    have hp : p ≤ len := by have := inR_true.1 hin; omega
    obtain ⟨q, he⟩ : ∃ q : Nat, (q : Int) = minV (len : Int) (p + 6) := ⟨(minV (len : Int) (p + 6)).toNat, by unfold minV; split <;> omega⟩
    have he1 : p ≤ q ∧ q ≤ len ∧ q ≤ p + 6 ∧ (q = len ∨ q = p + 6) := by
      unfold minV at he
      split at he <;> omega
    obtain ⟨he2, he3, he4, he5⟩ := he1
    have HE5 := Lib.hid he5
    have hmin := he.symm
    clear he5 he ho0 ho1
    by_cases hlt : p < len
    · rcases HS.out.2.2 with hx | ⟨b, off, rfl, hbB, hcell⟩
      · omega
      · have HC := Lib.hid hcell
        clear hcell
        go_enter Try.func15, Try.ntmps15
        go_wp2_with fail
        go_at_call 47
        refine (inRange_any _ _ _ _).mono ?_
        rintro e' w' ⟨rfl, rfl⟩
        go_wp2_with fail
        go_at_call 48
        refine (min_bel _ _ _).mono ?_
        rintro e' w1 ⟨rfl, hb⟩
        have HB := Lib.hid hb
        clear hb
        go_wp2_with fail
        go_loopw [7, 24] (fun n i wr => ∃ (k : Nat) (kx m : Int), kx = k ∧ i = .int .i64 kx ∧ n = .int .i64 m ∧ Reading zs p k m ∧ Below W.heap.size W wr) (fun _ i _ => 6 - (intOf i).toNat)
        case atStart => exact ⟨0, 0, 0, rfl, rfl, rfl, reading_start (by omega) (by rw [HL.out]; omega), HB.out⟩
        case round =>
          obtain ⟨k, kx, n, hkx, rfl, rfl, hr, hb⟩ := hrel
          have HB := Lib.hid hb
          have HK := Lib.hid hkx
          have HR := Lib.hid hr
          have hk0 : 0 ≤ kx := by omega
          have hk1 : kx ≤ 6 := by have := hr.2.2.1; omega
          have hn0 := hr.2.2.2.1
          clear hr
          by_cases h6 : kx < ((q - p : Nat) : Int)
          · have hc := (hb.cell (p := ⟨b, off + (p + kx.toNat), none⟩) hbB).trans (HC.out (p + kx.toNat) (by omega))
            rw [← Nat.add_assoc] at hc
            obtain ⟨x, hx⟩ : ∃ x, x = zs.getD (p + kx.toNat) 0 := ⟨_, rfl⟩
            have hx2 := bounds_u8 (HS.out.2.1 _ (getD_mem (l := zs) (j := (p + kx.toNat)) (by rw [HL.out]; omega)))
            rw [← hx] at hc hx2
            obtain ⟨hx0, hx1⟩ := hx2
            have ej : p + kx.toNat = (p : Int).toNat + k := by omega
            obtain ⟨v, hv⟩ : ∃ v, v = addG n x k := ⟨_, rfl⟩
            have hg := or_group' hkx (by omega) hn0 HR.out.2.2.2.2.1 hx0 hx1
            rw [← hv] at hg
            have HX := Lib.hid (hx.trans (by rw [ej]))
            have HV := Lib.hid hv
            have HJ : Hid ((p : Int).toNat + k < zs.length) := Lib.hid (by rw [HL.out]; omega)
            have hv0 : 0 ≤ v := by rw [hv]; exact (addG_bd hn0 HR.out.2.2.2.2.1).1
            have hv1 : v ≤ 4398046511104 := by
              rw [hv]
              have := (addG_bd (x := x) hn0 HR.out.2.2.2.2.1).2
              have := pow128_lt (k := k + 1) (by omega)
              omega
            clear hb hx hkx ej hv
            by_cases h128 : x < 128
            · have hge := group_ends HR.out HK.out (by omega) HJ.out HX.out HV.out h128
              have HG0 := Lib.hid hge.1
              have HG1 := Lib.hid hge.2
              clear hge
              by_cases hbad : (x = 0 ∧ 0 < kx)
              · have HN := Lib.hid (HG0.out (.inl hbad))
                have HBD := Lib.hid hbad
                clear hbad
                go_wp2_with fail
                go_at_call 49
                refine (isMinimal_no _ _ _ HBD.out).mono ?_
                rintro e' w' ⟨rfl, rfl⟩
                go_wp2
                go_ret3
                exact ⟨rdRet_none HN.out, HB.out⟩
              · have HBD := Lib.hid hbad
                clear hbad
                go_wp2_with fail
                go_at_call 49
                refine (isMinimal_yes _ _ _ HBD.out hk0).mono ?_
                rintro e' w' ⟨rfl, rfl⟩
                by_cases hM : 1000000000000 < v
                · have HN := Lib.hid (HG0.out (.inr hM))
                  go_wp2
                  go_ret3
                  exact ⟨rdRet_none HN.out, HB.out⟩
                · have HN := Lib.hid (HG1.out (by have := HBD.out; omega))
                  go_wp2
                  go_ret3
                  exact ⟨rdRet_some HN.out rfl, HB.out⟩
            · go_wp2
              go_roundw
              case rel =>
                refine ⟨k + 1, kx + 1, v, by have := HK.out; omega, rfl, rfl, ?_, HB.out⟩
                have h := reading_more HR.out (by have := HK.out; omega) HJ.out (by rw [← HX.out]; omega)
                rw [← HX.out, ← HV.out] at h
                exact h
              case measure => simp [intOf]; omega
          · have HN := Lib.hid (reading_end HR.out (by have := HL.out; have := HE5.out; omega))
            clear hb hkx
            go_wp2
            go_ret3
            exact ⟨rdRet_none HN.out, HB.out⟩
    · have hpl : p = len := by omega
      have hql : q = len := by omega
      subst hpl
      subst hql
      have HN := Lib.hid (reading_end (reading_start (zs := zs) (o := (q : Int)) (by omega) (by rw [HL.out]; omega)) (.inr (by have := HL.out; omega)))
      clear hlt he2 he3 he4 hp
      go_enter Try.func15, Try.ntmps15
      go_wp2_with fail
      go_at_call 47
      refine (inRange_any _ _ _ _).mono ?_
      rintro e' w' ⟨rfl, rfl⟩
      go_wp2_with fail
      go_at_call 48
      refine (min_bel _ _ _).mono ?_
      rintro e' w1 ⟨rfl, hb⟩
      have HB := Lib.hid hb
      clear hb
      go_wp2_with fail
      all_goals
        go_loopw [24] (fun i wr => i = .int .i64 0 ∧ Below W.heap.size W wr) (fun _ _ => 0)
        case atStart => exact ⟨rfl, HB.out⟩
        case round =>
          obtain ⟨rfl, hb⟩ := hrel
          have HB := Lib.hid hb
          clear hb
          go_wp2
          go_ret3
          exact ⟨rdRet_none HN.out, HB.out⟩
  · have HN : Hid (rd zs o = none) := Lib.hid (rd_out (by rw [HL.out]; intro h; exact hin (inR_true.2 h)))
    have hr : inR o 0 len = false := by
      cases h : inR o 0 len
      · rfl
      · exact absurd h hin
    clear hin
    go_enter Try.func15, Try.ntmps15
    go_wp2_with fail
    go_at_call 47
    refine (inRange_any _ _ _ _).mono ?_
    rintro e' w' ⟨rfl, rfl⟩
    go_wp2
    go_ret3
    exact ⟨rdRet_none HN.out, Below.refl _ _⟩
end Go.Proofs.Ytnhpkiddepfjoaa
