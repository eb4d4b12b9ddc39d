/- The model's ReadUvarint. -/
import Derived.Test.YtnhpkiddepfjoaaSlB
import Derived.Test.YtnhpkiddepfjoaaVarLib
import Derived.Test.YtnhpkiddepfjoaaBits
namespace Go.Proofs.Ytnhpkiddepfjoaa
open Go.RowKit
def rdRet : Option (Int × Int) → Ending
  | none => .returned (.tuple #[.int .i64 0, .int .i64 0, .bool false])
  | some (m, q) => .returned (.tuple #[.int .i64 m, .int .i64 q, .bool true])
theorem rdRet_none {r : Option (Int × Int)} (h : r = none) : Ending.returned (.tuple #[.int .i64 0, .int .i64 0, .bool false]) = rdRet r := by rw [h]; rfl
theorem rdRet_some {r : Option (Int × Int)} {m q q' : Int} (h : r = some (m, q)) (hq : q' = q) : Ending.returned (.tuple #[.int .i64 m, .int .i64 q', .bool true]) = rdRet r := by rw [h, hq]; rfl
/-- What the group x decides. -/
theorem group_ends {zs : List Int} {o : Int} {k : Nat} {n x v kx : Int} (h : Reading zs o k n) (hk : kx = k) (h6 : kx < 6) (hj : o.toNat + k < zs.length) (hx : x = zs.getD (o.toNat + k) 0) (hv : v = addG n x k) (h128 : x < 128) :
    ((x = 0 ∧ 0 < kx) ∨ 1000000000000 < v → rd zs o = none) ∧ (¬ ((x = 0 ∧ 0 < kx) ∨ 1000000000000 < v) → rd zs o = some (v, o + kx + 1)) := by
  have e := reading_last h (by omega) hj (by rw [← hx]; exact h128)
  rw [← hx, ← hv] at e
  subst hk
  have e0 : (0 < (k : Int)) ↔ 0 < k := by omega
  constructor
  · intro hc
    rw [e, if_pos (by rw [e0] at hc; exact hc)]
  · intro hc
    rw [e, if_neg (by rw [e0] at hc; exact hc)]
set_option maxHeartbeats 1600000 in
theorem specRead_any (W : World) (a : Option Addr) (len cap : Nat) (zs : List Int) (o : Int) (hl : len ≤ 1073741824) (ho0 : -9223372036854775808 ≤ o) (ho1 : o ≤ 9223372036854775807) (hs : Sees .u8 W a len zs) :
    Calls Try.prog 18 #[.slice a len cap, .int .i64 o] W fun e w' => e = rdRet (rd zs o) ∧ Below W.heap.size W w' := by
  have HS := Lib.hid hs
  have HL := Lib.hid hs.1
  clear hs
  by_cases hin : 0 ≤ o ∧ o ≤ len
  · obtain ⟨h0, h1⟩ := hin
    go_enter Try.func18, Try.ntmps18
    go_wp2
    go_loopw [7, 8] (fun q i wr => ∃ (k : Nat) (kx n : Int), kx = k ∧ i = .int .i64 kx ∧ q = .int .i64 n ∧ Reading zs o k n ∧ Below W.heap.size W wr) (fun _ i _ => 6 - (intOf i).toNat)
    case atStart => exact ⟨0, 0, 0, rfl, rfl, rfl, reading_start h0 (by rw [HL.out]; exact h1), Below.refl _ _⟩
    case round =>
      obtain ⟨k, kx, n, hkx, rfl, rfl, hr, hb⟩ := hrel
      have HB := Lib.hid hb
      have HK := Lib.hid hkx
      have HR := Lib.hid hr
      have hk0 : 0 ≤ kx := by omega
      have hk1 : kx ≤ 6 := by have := hr.2.2.1; omega
      have hn0 := hr.2.2.2.1
      clear hr
      by_cases h6 : kx < 6
      · by_cases hlt : o + kx < len
        · rcases HS.out.2.2 with hx | ⟨b, off, rfl, hbB, hcell⟩
          · omega
          · have hc := (hb.cell (p := ⟨b, off + (o + kx).toNat, none⟩) hbB).trans (hcell (o + kx).toNat (by omega))
            obtain ⟨x, hx⟩ : ∃ x, x = zs.getD (o + kx).toNat 0 := ⟨_, rfl⟩
            have hx2 := bounds_u8 (HS.out.2.1 _ (getD_mem (l := zs) (j := (o + kx).toNat) (by rw [HL.out]; omega)))
            rw [← hx] at hc hx2
            obtain ⟨hx0, hx1⟩ := hx2
            have ej : (o + kx).toNat = o.toNat + k := by omega
            obtain ⟨v, hv⟩ : ∃ v, v = addG n x k := ⟨_, rfl⟩
            have hg := or_group hkx (by omega) hn0 HR.out.2.2.2.2.1 hx0 hx1
            rw [← hv] at hg
            have HX := Lib.hid (hx.trans (by rw [ej]))
            have HV := Lib.hid hv
            have HJ : Hid (o.toNat + k < zs.length) := Lib.hid (by rw [HL.out]; omega)
            have hv0 : 0 ≤ v := by rw [hv]; exact (addG_bd hn0 HR.out.2.2.2.2.1).1
            have hv1 : v ≤ 4398046511104 := by
              rw [hv]
              have := (addG_bd (x := x) hn0 HR.out.2.2.2.2.1).2
              have := pow128_lt (k := k + 1) (by omega)
              omega
            clear hcell hb hx hkx ej hv
            by_cases h128 : x < 128
            · have hge := group_ends HR.out HK.out h6 HJ.out HX.out HV.out h128
              have HG0 := Lib.hid hge.1
              have HG1 := Lib.hid hge.2
              clear hge
              by_cases hbad : (x = 0 ∧ 0 < kx)
              · obtain ⟨hz, hkp⟩ := hbad
                have HN := Lib.hid (HG0.out (.inl ⟨hz, hkp⟩))
                have hz2 : x ≤ 0 := by omega
                clear hz
                go_wp2
                go_ret3
                exact ⟨rdRet_none HN.out, HB.out⟩
              · by_cases hM : 1000000000000 < v
                · have HN := Lib.hid (HG0.out (.inr hM))
                  clear hbad
                  go_wp2
                  all_goals go_ret3
                  all_goals exact ⟨rdRet_none HN.out, HB.out⟩
                · have HN := Lib.hid (HG1.out (by omega))
                  by_cases hz : x = 0
                  · have hkz2 : kx ≤ 0 := by omega
                    have hz2 : x ≤ 0 := by omega
                    clear hbad hz
                    go_wp2
                    go_ret3
                    exact ⟨rdRet_some HN.out (by omega), HB.out⟩
                  · clear hbad
                    go_wp2
                    go_ret3
                    exact ⟨rdRet_some HN.out (by omega), HB.out⟩
            · go_wp2
              go_roundw
              case rel =>
                refine ⟨k + 1, kx + 1, v, by have := HK.out; omega, rfl, rfl, ?_, HB.out⟩
                have h := reading_more HR.out (by have := HK.out; omega) HJ.out (by rw [← HX.out]; omega)
                rw [← HX.out, ← HV.out] at h
                exact h
              case measure => simp [intOf]; omega
        · have HN := Lib.hid (reading_end HR.out (.inr (by have := HL.out; omega)))
          clear hb hkx
          go_wp2
          go_ret3
          exact ⟨rdRet_none HN.out, HB.out⟩
      · have HN := Lib.hid (reading_end HR.out (.inl (by omega)))
        clear hb hkx
        go_wp2
        go_ret3
        exact ⟨rdRet_none HN.out, HB.out⟩
  · have HN : Hid (rd zs o = none) := Lib.hid (rd_out (by rw [HL.out]; exact hin))
    have hd : o < 0 ∨ (len : Int) < o := by omega
    clear hin
    go_enter Try.func18, Try.ntmps18
    go_wp2
    go_loopw [8] (fun i wr => i = .int .i64 0 ∧ Below W.heap.size W wr) (fun _ _ => 0)
    case atStart => exact ⟨rfl, Below.refl _ _⟩
    case round =>
      obtain ⟨rfl, hb⟩ := hrel
      have HB := Lib.hid hb
      clear hb
      rcases hd with hd | hd
      · go_wp2
        go_ret3
        exact ⟨rdRet_none HN.out, HB.out⟩
      · go_wp2
        go_ret3
        exact ⟨rdRet_none HN.out, HB.out⟩
end Go.Proofs.Ytnhpkiddepfjoaa
