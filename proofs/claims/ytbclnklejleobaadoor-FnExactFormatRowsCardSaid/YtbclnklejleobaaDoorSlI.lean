/- What the laws do to slices of integers: copy, compare, mark, look for the marks. -/
import Derived.Test.YtbclnklejleobaaDoorSlB
import Derived.OpenShut
import Derived.Outline
import Derived.LoopTactic
import Derived.Deep.QuietTactic
import Derived.BigQuiet
import Derived.WalkSmall
namespace Go.Proofs.YtbclnklejleobaaDoor
open Go.RowKit
theorem info_i64 : (Tryd.prog.info? 3).map (fun i => (i.zero, i.size, i.bytes)) = some (some (.int .i64 0), 1, 8) := by kernel_rfl
set_option maxHeartbeats 400000 in
theorem toI_any (W : World) (a : Option Addr) (len cap : Nat) (zs : List Int) (hl : len ≤ 1073741824) (hs : Sees .i64 W a len zs) : Calls Tryd.prog 11 #[.slice a len cap] W (Made .i64 3 zs W) := by
  have HS := Lib.hid hs
  have HL := Lib.hid hs.1
  clear hs
  obtain ⟨i0, hi, hz0, hz1, hz2⟩ := info_parts info_i64
  go_enter Tryd.func11, Tryd.ntmps11
  go_wp2_with (at_make; refine wpList_make_full _ rfl _ _ 29 rfl W.heap.size 3 i0 (.int .i64 0) 1 Tryd.underlying29 hi hz0 hz1 _ _ _ _ len rfl rfl rfl rfl (by rw [hz2]; omega) (by unfold maxLen; omega) (by simp) ?_; intro w1 hown1 hgrow1; have HO1 := Lib.hid (made_row .i64 w1 _ len _ _ hown1); have HB1 := Lib.hid ((Below.refl W.heap.size W).grown hgrow1 (Nat.le_refl _) (fun k e => by cases e)); clear hown1 hgrow1)
  go_loopw [4] (fun i wr => ∃ k : Nat, k ≤ len ∧ i = .int .i64 k ∧ Own .i64 3 wr W.heap.size w1.heap.size (some ⟨W.heap.size, 0, none⟩) len len (over zs (List.replicate len 0) k) ∧ Below W.heap.size W wr) (fun i _ => len - (intOf i).toNat)
  case atStart => exact ⟨0, Nat.zero_le _, rfl, by rw [over_zero]; exact HO1.out, HB1.out⟩
  case round =>
    obtain ⟨k, hk, rfl, ho, hb⟩ := hrel
    have HO := Lib.hid ho
    have HB := Lib.hid hb
    by_cases hlt : k < len
    · rcases HS.out.2.2 with h0 | ⟨b, off, rfl, hbB, hcell⟩
      · omega
      · have hc := (hb.cell (p := ⟨b, off + k, none⟩) hbB).trans (hcell k hlt)
        have hsp := ho.spot
        rcases hsp with ⟨hx, _⟩ | ⟨g, hg, _, _, _, _, hcs, hfz⟩
        · cases hx
        · obtain rfl : W.heap.size = g := by simpa using hg
          have hcd := hcs k hlt
          have hfd := hfz k
          clear hcell hcs hfz ho hb hg
          go_wp2
          go_roundw
          case rel =>
            have hst := HO.out.stored k (zs.getD k 0) (HS.out.2.1 _ (getD_mem (by rw [HL.out]; exact hlt)))
            rw [over_set _ _ _ (by rw [HL.out]; simp) (by rw [HL.out]; exact hlt)] at hst
            have hst1 := hst.1
            have hst2 := below_moved HB.out hst.2 (Nat.le_refl _) (Nat.le_refl _)
            simp [List.getD, HL.out, hlt] at hst1 hst2 ⊢
            exact ⟨k + 1, by omega, by omega, hst1, hst2⟩
          case measure => simp [intOf]; omega
    · clear ho hb
      obtain rfl : k = len := by omega
      go_wp2
      go_ret
      have h := HO.out
      have e : over zs (List.replicate k 0) k = zs := by
        have := over_all zs (List.replicate k 0) (by rw [HL.out]; simp)
        rwa [HL.out] at this
      rw [e] at h
      exact ⟨_, _, _, rfl, h.wide (Nat.le_refl _) h.2.2.1 (Nat.le_refl _), HB.out⟩
/-- The marks from m on. -/
def marksI (m : Int) (n : Nat) : List Int := (List.range n).map (fun (j : Nat) => m + (j : Int))
theorem marksI_len (m : Int) (n : Nat) : (marksI m n).length = n := by simp [marksI]
theorem marksI_at (m : Int) (n j : Nat) (h : j < n) : (marksI m n).getD j 0 = m + j := by simp [marksI, List.getD, h]
theorem marksI_wf (m : Int) (n : Nat) (h0 : 0 ≤ m) (h1 : m + n ≤ 9223372036854775807) : ∀ x ∈ marksI m n, (Lit.int .i64 x).wf = true := by
  intro x hx
  obtain ⟨j, hj, rfl⟩ := List.mem_map.1 hx
  have := List.mem_range.1 hj
  exact WalkArith.wf_i64 (by omega)
set_option maxHeartbeats 400000 in
theorem eqI_yes (W : World) (a b : Option Addr) (len capa capb : Nat) (zs : List Int) (hl : len ≤ 1073741824) (ha : Sees .i64 W a len zs) (hb : Sees .i64 W b len zs) :
    Calls Tryd.prog 14 #[.slice a len capa, .slice b len capb] W fun e w' => e = .returned (.bool true) ∧ Below W.heap.size W w' := by
  have HA := Lib.hid ha
  have HZ := Lib.hid hb
  clear ha hb
  go_enter Tryd.func14, Tryd.ntmps14
  go_wp2
  go_loopw [5] (fun i wr => ∃ k : Nat, k ≤ len ∧ i = .int .i64 k ∧ Below W.heap.size W wr) (fun i _ => len - (intOf i).toNat)
  case atStart => exact ⟨0, Nat.zero_le _, rfl, Below.refl _ _⟩
  case round =>
    obtain ⟨k, hk, rfl, hbw⟩ := hrel
    have HB := Lib.hid hbw
    by_cases hlt : k < len
    · rcases HA.out.2.2 with h0 | ⟨b1, o1, rfl, hb1, hc1⟩
      · omega
      · rcases HZ.out.2.2 with h0 | ⟨b2, o2, rfl, hb2, hc2⟩
        · omega
        · have hx := (hbw.cell (p := ⟨b1, o1 + k, none⟩) hb1).trans (hc1 k hlt)
          have hy := (hbw.cell (p := ⟨b2, o2 + k, none⟩) hb2).trans (hc2 k hlt)
          clear hc1 hc2 hbw
          go_wp2
          go_quiet (fail)
          go_wp2
          go_roundw
          case rel => exact ⟨k + 1, by omega, by go_num, below_drewN HB.out _⟩
          case measure => simp [intOf]; omega
    · clear hbw
      go_wp2
      go_ret
      exact ⟨rfl, HB.out⟩
end Go.Proofs.YtbclnklejleobaaDoor
