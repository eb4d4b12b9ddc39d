/- Slices of probes: two of the same are the same. -/
import Derived.Test.YtldeplmiggbonaaSlQs
namespace Go.Proofs.Ytldeplmiggbonaa
open Go.RowKit
set_option maxRecDepth 20000 in
set_option maxHeartbeats 1600000 in
theorem eqQ_yes (W : World) (a b : Option Addr) (len capa capb : Nat) (ps : List Prb) (hsm : SmallM (pathsOf ps)) (ha : SeesQ W a len ps) (hb : SeesQ W b len ps) :
    Calls Try.prog 20 #[.slice a len capa, .slice b len capb] W fun e w' => e = .returned (.bool true) ∧ Below W.heap.size W w' := by
  have HA := Lib.hid ha
  have HZ := Lib.hid hb
  have HM := Lib.hid hsm
  have HL := Lib.hid ha.1
  have hl : len ≤ 1048576 := by unfold SmallM at hsm; rw [pathsOf_len] at hsm; have := ha.1; omega
  clear ha hb hsm
  go_enter Try.func20, Try.ntmps20
  go_wp2
  go_loopw [5] (fun i wr => ∃ k : Nat, k ≤ len ∧ i = .int .i64 k ∧ Below W.heap.size W wr) (fun i _ => len - (intOf i).toNat)
  case atStart => exact ⟨0, Nat.zero_le _, rfl, Below.refl _ _⟩
  case round =>
    obtain ⟨k, hk, rfl, hbw⟩ := hrel
    have HB := Lib.hid hbw
    by_cases hlt : k < len
    · obtain ⟨b1, o1, a1, c1, rfl, hb1, h10, h11, h12, _, _, hs1⟩ := HA.out.2.2 k hlt
      obtain ⟨b2, o2, a2, c2, rfl, hb2, h20, h21, h22, _, _, hs2⟩ := HZ.out.2.2 k hlt
      have hx0 := (hbw.cell (p := ⟨b1, o1 + k * 3, none⟩) hb1).trans h10
      have hx1 := (hbw.cell (p := ⟨b1, o1 + k * 3 + 1, none⟩) hb1).trans h11
      have hx2 := (hbw.cell (p := ⟨b1, o1 + k * 3 + 2, none⟩) hb1).trans h12
      have hy0 := (hbw.cell (p := ⟨b2, o2 + k * 3, none⟩) hb2).trans h20
      have hy1 := (hbw.cell (p := ⟨b2, o2 + k * 3 + 1, none⟩) hb2).trans h21
      have hy2 := (hbw.cell (p := ⟨b2, o2 + k * 3 + 2, none⟩) hb2).trans h22
      have hs1w := Lib.hid (hs1.below hbw)
      have hs2w := Lib.hid (hs2.below hbw)
      have hrl0 : (prb ps k).2.2.length ≤ 1073741824 := by
        have := HM.out.row (r := k) (by rw [pathsOf_len, HL.out]; exact hlt)
        rw [pathsOf_row (by rw [HL.out]; exact hlt)] at this
        omega
      obtain ⟨x, y, zs, hp⟩ : ∃ x y zs, prb ps k = (x, y, zs) := ⟨_, _, _, rfl⟩
      rw [hp] at hx0 hx1 hx2 hy0 hy1 hy2 hs1w hs2w hrl0
      simp only at hx0 hx1 hx2 hy0 hy1 hy2 hs1w hs2w hrl0
      have HRL := Lib.hid hrl0
      have hk0 : (0 : Int) ≤ (k : Int) := Int.natCast_nonneg _
      have hk1 : (k : Int) < (len : Int) := by omega
      clear h10 h11 h12 h20 h21 h22 hs1 hs2 hp hbw hrl0
      go_wp2_with fail
      go_region_held3 (fun w' => (w'.cell? ⟨b1, o1 + k * 3, none⟩ = some (.int .i64 x) ∧ w'.cell? ⟨b1, o1 + k * 3 + 1, none⟩ = some (.int .i64 y) ∧ w'.cell? ⟨b1, o1 + k * 3 + 2, none⟩ = some (.slice a1 zs.length c1)) ∧ w'.cell? ⟨b2, o2 + k * 3, none⟩ = some (.int .i64 x) ∧ w'.cell? ⟨b2, o2 + k * 3 + 1, none⟩ = some (.int .i64 y) ∧ w'.cell? ⟨b2, o2 + k * 3 + 2, none⟩ = some (.slice a2 zs.length c2)) (go_keep) (first
        | (go_at_call 12; refine (eqPrb_yes _ x y _ _ zs.length _ _ zs HRL.out (hs1w.out.below (Below.refl _ _).drew) (hs2w.out.below (Below.refl _ _).drew)).mono ?_; rintro e w2 ⟨rfl, hb⟩; have HB2 := Lib.hid (below_up (w0 := wr) (Below.refl _ _).drew hb (Nat.le_refl _)); have hx0 := (HB2.out.cell (p := ⟨b1, o1 + k * 3, none⟩) (World.block_lt_of_cell? _ _ hx0)).trans hx0; have hx1 := (HB2.out.cell (p := ⟨b1, o1 + k * 3 + 1, none⟩) (World.block_lt_of_cell? _ _ hx1)).trans hx1; have hx2 := (HB2.out.cell (p := ⟨b1, o1 + k * 3 + 2, none⟩) (World.block_lt_of_cell? _ _ hx2)).trans hx2; have hy0 := (HB2.out.cell (p := ⟨b2, o2 + k * 3, none⟩) (World.block_lt_of_cell? _ _ hy0)).trans hy0; have hy1 := (HB2.out.cell (p := ⟨b2, o2 + k * 3 + 1, none⟩) (World.block_lt_of_cell? _ _ hy1)).trans hy1; have hy2 := (HB2.out.cell (p := ⟨b2, o2 + k * 3 + 2, none⟩) (World.block_lt_of_cell? _ _ hy2)).trans hy2; clear hb))
      go_wp2
      go_roundw
      case rel => exact ⟨k + 1, by omega, by go_num, HB.out.trans (HB2.out.mono HB.out.size)⟩
      case measure => simp [intOf]; omega
    · clear hbw
      go_wp2
      go_ret
      exact ⟨rfl, HB.out⟩
end Go.Proofs.Ytldeplmiggbonaa
