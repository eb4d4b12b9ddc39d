/- Slices of probes: their measure, and that two of the same are the same. -/
import Derived.Test.YtldeplmiggbonaaSlQb
namespace Go.Proofs.Ytldeplmiggbonaa
open Go.RowKit
theorem szPrb_any (W : World) (x y : Int) (a : Option Addr) (len cap : Nat) (left v : Int) (hl : len ≤ maxLen) (h0 : 0 ≤ left) (h1 : left ≤ 1048576) (hv : v = if left < (len : Int) then -1 else left - (len : Int)) :
    Calls Try.prog 43 #[.agg #[.int .i64 x, .int .i64 y, .slice a len cap], .int .i64 left] W fun e w' => e = .returned (.int .i64 v) ∧ Below W.heap.size W w' := by
  obtain ⟨V, hV⟩ : ∃ V, V = W.alloc (.cells #[.int .i64 x, .int .i64 y, .slice a len cap] 64) := ⟨_, rfl⟩
  have hb0 : Below W.heap.size W V := by
    rw [hV]
    exact (Below.refl _ _).alloc (Nat.le_refl _) _
  have k1 : V.cell? ⟨W.heap.size, 2, none⟩ = some (.slice a len cap) := by rw [hV]; go_simp
  have HB0 := Lib.hid hb0
  have HV := Lib.hid hv
  clear hb0 hv
  by_cases hneg : left < (len : Int)
  · have HE : Hid (v = -1) := Lib.hid (by rw [HV.out, if_pos hneg])
    go_enter Try.func43, Try.ntmps43
    go_wp2_with fail
    rw [← hV]
    clear hV
    refine (szI_any V a len cap left (-1) hl h0 h1 (by rw [if_pos hneg])).mono ?_
    rintro e w1 ⟨rfl, rfl⟩
    go_wp2
    go_ret
    exact ⟨ret_intV HE.out.symm, HB0.out⟩
  · obtain ⟨z, hz⟩ : ∃ z, z = left - (len : Int) := ⟨_, rfl⟩
    have hz0 : ¬ z < 0 := by omega
    have HE : Hid (v = z) := Lib.hid (by rw [HV.out, if_neg hneg, hz])
    have HZ : Hid (z = if left < (len : Int) then -1 else left - (len : Int)) := Lib.hid (by rw [if_neg hneg]; exact hz)
    clear hz
    go_enter Try.func43, Try.ntmps43
    go_wp2_with fail
    rw [← hV]
    clear hV
    refine (szI_any V a len cap left z hl h0 h1 HZ.out).mono ?_
    rintro e w1 ⟨rfl, rfl⟩
    go_wp2
    go_ret
    exact ⟨ret_intV HE.out.symm, HB0.out⟩
set_option maxHeartbeats 800000 in
theorem szQ_any (W : World) (a : Option Addr) (len cap : Nat) (left : Int) (ps : List Prb) (v : Int) (hl : len ≤ maxLen) (hs : SeesQ W a len ps) (h0 : 0 ≤ left) (h1 : left ≤ 1048576) (hv : v = if left < (ps.length : Int) + (tot (pathsOf ps) ps.length : Int) then -1 else left - (ps.length : Int) - (tot (pathsOf ps) ps.length : Int)) :
    Calls Try.prog 25 #[.slice a len cap, .int .i64 left] W fun e w' => e = .returned (.int .i64 v) ∧ Below W.heap.size W w' := by
  have HS := Lib.hid hs
  have HL := Lib.hid hs.1
  have HV := Lib.hid hv
  clear hs hv
  unfold maxLen at hl
  by_cases h2 : left - (len : Int) < 0
  · have HE : Hid (v = -1) := Lib.hid (by rw [HV.out, if_pos (by rw [HL.out]; omega)])
    go_enter Try.func25, Try.ntmps25
    go_wp2
    go_ret
    exact ⟨ret_intV HE.out.symm, Below.refl _ _⟩
  · go_enter Try.func25, Try.ntmps25
    go_wp2
    go_loopw [1, 5] (fun q i wr => ∃ (k : Nat) (x : Int), k ≤ len ∧ i = .int .i64 k ∧ q = .int .i64 x ∧ x = left - (len : Int) - (tot (pathsOf ps) k : Int) ∧ 0 ≤ x ∧ Below W.heap.size W wr) (fun _ i _ => len - (intOf i).toNat)
    case atStart => exact ⟨0, _, Nat.zero_le _, rfl, rfl, by simp [tot], by omega, Below.refl _ _⟩
    case round =>
      obtain ⟨k, x, hk, rfl, rfl, hx, hx0, hb⟩ := hrel
      have HB := Lib.hid hb
      have HX := Lib.hid hx
      have hx1 : x ≤ 1048576 := by omega
      clear hx
      by_cases hlt : k < len
      · obtain ⟨b, off, ar, cr, rfl, hbl, hc0, hc1, hc2, hle, hcm, hsr⟩ := HS.out.2.2 k hlt
        have hw0 := (hb.cell (p := ⟨b, off + k * 3, none⟩) hbl).trans hc0
        have hw1 := (hb.cell (p := ⟨b, off + k * 3 + 1, none⟩) hbl).trans hc1
        have hw2 := (hb.cell (p := ⟨b, off + k * 3 + 2, none⟩) hbl).trans hc2
        obtain ⟨L, hL⟩ : ∃ L, L = (prb ps k).2.2.length := ⟨_, rfl⟩
        rw [← hL] at hw2 hle
        have HLr : Hid (L = (row (pathsOf ps) k).length) := Lib.hid (by rw [hL, pathsOf_row (by rw [HL.out]; exact hlt)])
        have HT : Hid (tot (pathsOf ps) (k + 1) ≤ tot (pathsOf ps) len) := Lib.hid (tot_mono (pathsOf ps) (by omega))
        have hLm : L ≤ maxLen := Nat.le_trans hle hcm
        obtain ⟨p0, hp0⟩ : ∃ z, z = (prb ps k).1 := ⟨_, rfl⟩
        obtain ⟨p1, hp1⟩ : ∃ z, z = (prb ps k).2.1 := ⟨_, rfl⟩
        rw [← hp0] at hw0
        rw [← hp1] at hw1
        clear hc0 hc1 hc2 hb hsr hL hle hcm hp0 hp1
        by_cases hneg : x < (L : Int)
        · have HE : Hid (v = -1) := Lib.hid (by
            rw [HV.out, if_pos]
            have h3 := HLr.out
            have h4 := HX.out
            have h5 := HL.out
            have h6 := HT.out
            simp only [tot] at h6
            rw [h5]
            omega)
          go_wp2_with fail
          go_at_call 43
          refine (szPrb_any _ p0 p1 _ L _ x (-1) hLm hx0 hx1 (by rw [if_pos hneg])).mono ?_
          rintro e w2 ⟨rfl, hb2⟩
          have HB2 := Lib.hid (below_up HB.out hb2 (Nat.le_refl _))
          clear hb2
          go_wp2
          go_ret
          exact ⟨ret_intV HE.out.symm, HB2.out⟩
        · obtain ⟨y, hy⟩ : ∃ y, y = x - (L : Int) := ⟨_, rfl⟩
          have hy0 : ¬ y < 0 := by omega
          have HY := Lib.hid hy
          have HY2 : Hid (y = if x < (L : Int) then -1 else x - (L : Int)) := Lib.hid (by rw [if_neg hneg]; exact hy)
          clear hy
          go_wp2_with fail
          go_at_call 43
          refine (szPrb_any _ p0 p1 _ L _ x y hLm hx0 hx1 HY2.out).mono ?_
          rintro e w2 ⟨rfl, hb2⟩
          have HB2 := Lib.hid (below_up HB.out hb2 (Nat.le_refl _))
          clear hb2
          go_wp2
          go_roundw
          case rel => exact ⟨k + 1, y, by omega, by go_num, rfl, by have h3 := HLr.out; have h4 := HX.out; have h5 := HY.out; simp only [tot]; omega, by omega, HB2.out⟩
          case measure => simp [intOf]; omega
      · obtain rfl : k = len := by omega
        have HE : Hid (v = x) := Lib.hid (by
          have h4 := HX.out
          have h5 := HL.out
          rw [HV.out, if_neg (by rw [h5]; omega), h5, h4])
        clear hb
        go_wp2
        go_ret
        exact ⟨ret_intV HE.out.symm, HB.out⟩
set_option maxRecDepth 20000 in
set_option maxHeartbeats 800000 in
theorem eqPrb_yes (W : World) (x y : Int) (a b : Option Addr) (len ca cb : Nat) (zs : List Int) (hl : len ≤ 1073741824) (ha : Sees .i64 W a len zs) (hb : Sees .i64 W b len zs) :
    Calls Try.prog 12 #[.agg #[.int .i64 x, .int .i64 y, .slice a len ca], .agg #[.int .i64 x, .int .i64 y, .slice b len cb]] W fun e w' => e = .returned (.bool true) ∧ Below W.heap.size W w' := by
  obtain ⟨V, hV⟩ : ∃ V, V = ((W.alloc (.cells #[.int .i64 x, .int .i64 y, .slice a len ca] 28)).alloc (.cells #[.int .i64 x, .int .i64 y, .slice b len cb] 28)) := ⟨_, rfl⟩
  have hb0 : Below W.heap.size W V := by
    rw [hV]
    exact ((Below.refl _ _).alloc (Nat.le_refl _) _).alloc (by simp) _
  have hz : V.heap.size = W.heap.size + 2 := by rw [hV]; simp
  have k1 : V.cell? ⟨W.heap.size, 0, none⟩ = some (.int .i64 x) := by rw [hV]; go_simp
  have k2 : V.cell? ⟨W.heap.size, 1, none⟩ = some (.int .i64 y) := by rw [hV]; go_simp
  have k3 : V.cell? ⟨W.heap.size, 2, none⟩ = some (.slice a len ca) := by rw [hV]; go_simp
  have k4 : V.cell? ⟨W.heap.size + 1, 0, none⟩ = some (.int .i64 x) := by rw [hV]; go_simp
  have k5 : V.cell? ⟨W.heap.size + 1, 1, none⟩ = some (.int .i64 y) := by rw [hV]; go_simp
  have k6 : V.cell? ⟨W.heap.size + 1, 2, none⟩ = some (.slice b len cb) := by rw [hV]; go_simp
  have HA := Lib.hid (ha.below hb0)
  have HC := Lib.hid (hb.below hb0)
  have HB0 := Lib.hid hb0
  clear ha hb hb0
  go_enter Try.func12, Try.ntmps12
  go_wp2_with fail
  rw [← hV]
  clear hV
  go_wp2_with fail
  refine (eqI_yes V a b len ca cb zs hl HA.out HC.out).mono ?_
  rintro e w1 ⟨rfl, hb⟩
  have HB1 := Lib.hid (below_up HB0.out hb (Nat.le_refl _))
  clear hb
  go_wp2
  go_ret
  exact ⟨rfl, HB1.out⟩
end Go.Proofs.Ytldeplmiggbonaa
