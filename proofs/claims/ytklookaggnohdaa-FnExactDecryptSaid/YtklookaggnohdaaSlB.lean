/- What the laws do to slices of bytes: copy, compare, mark, look for the marks. -/
import Derived.Test.YtklookaggnohdaaSl
import Derived.OpenShut
import Derived.Outline
import Derived.LoopTactic
import Derived.Deep.QuietTactic
import Derived.BigQuiet
import Derived.WalkSmall
namespace Go.Proofs.Ytklookaggnohdaa
open Go.RowKit
theorem info_u8 : (Try.prog.info? 5).map (fun i => (i.zero, i.size, i.bytes)) = some (some (.int .u8 0), 1, 1) := by kernel_rfl
theorem made_row (k : IntKind) (w : World) (lo len g : Nat) (e : TypeId) (h : w.ownsRow lo e 1 (.slice (some ⟨g, 0, none⟩) len len) len (madeCells (Value.int k 0).cells (len * 1)).toList) : Own k e w lo w.heap.size (some ⟨g, 0, none⟩) len len (List.replicate len 0) := by
  refine own_of (n := len) ?_ ?_
  · rw [List.map_replicate]
    have : (Value.int k 0).cells = #[Value.int k 0] := rfl
    rw [this, toList_madeCells_one, Nat.mul_one] at h
    exact h
  · intro n hn
    rw [List.mem_replicate] at hn
    obtain ⟨_, rfl⟩ := hn
    cases k <;> decide
set_option maxHeartbeats 400000 in
theorem toB_any (W : World) (a : Option Addr) (len cap : Nat) (zs : List Int) (hl : len ≤ 1073741824) (hs : Sees .u8 W a len zs) : Calls Try.prog 32 #[.slice a len cap] W (Made .u8 5 zs W) := by
  have HS := Lib.hid hs
  have HL := Lib.hid hs.1
  clear hs
  obtain ⟨i0, hi, hz0, hz1, hz2⟩ := info_parts info_u8
  go_enter Try.func32, Try.ntmps32
  go_wp2_with (at_make; refine wpList_make_full _ rfl _ _ 22 rfl W.heap.size 5 i0 (.int .u8 0) 1 Try.underlying22 hi hz0 hz1 _ _ _ _ len rfl rfl rfl rfl (by rw [hz2]; omega) (by unfold maxLen; omega) (by simp) ?_; intro w1 hown1 hgrow1; have HO1 := Lib.hid (made_row .u8 w1 _ len _ _ hown1); have HB1 := Lib.hid ((Below.refl W.heap.size W).grown hgrow1 (Nat.le_refl _) (fun k e => by cases e)); clear hown1 hgrow1)
  go_loopw [4] (fun i wr => ∃ k : Nat, k ≤ len ∧ i = .int .i64 k ∧ Own .u8 5 wr W.heap.size w1.heap.size (some ⟨W.heap.size, 0, none⟩) len len (over zs (List.replicate len 0) k) ∧ Below W.heap.size W wr) (fun i _ => len - (intOf i).toNat)
  case atStart => exact ⟨0, Nat.zero_le _, rfl, by rw [over_zero]; exact HO1.out, HB1.out⟩
  case round =>
    obtain ⟨k, hk, rfl, ho, hb⟩ := hrel
    have HO := Lib.hid ho
    have HB := Lib.hid hb
    by_cases hlt : k < len
    · rcases HS.out.2.2 with h0 | ⟨b, off, rfl, hbB, hcell⟩
      · omega
      · have hc := (hb.cell (p := ⟨b, off + k, none⟩) hbB).trans (hcell k hlt)
        have hsp := ho.spot
        rcases hsp with ⟨hx, _⟩ | ⟨g, hg, _, _, _, _, hcs, hfz⟩
        · cases hx
        · obtain rfl : W.heap.size = g := by simpa using hg
          have hcd := hcs k hlt
          have hfd := hfz k
          clear hcell hcs hfz ho hb hg
          go_wp2
          go_roundw
          case rel =>
            have hst := HO.out.stored k (zs.getD k 0) (HS.out.2.1 _ (getD_mem (by rw [HL.out]; exact hlt)))
            rw [over_set _ _ _ (by rw [HL.out]; simp) (by rw [HL.out]; exact hlt)] at hst
            have hst1 := hst.1
            have hst2 := below_moved HB.out hst.2 (Nat.le_refl _) (Nat.le_refl _)
            simp [List.getD, HL.out, hlt] at hst1 hst2 ⊢
            exact ⟨k + 1, by omega, by omega, hst1, hst2⟩
          case measure => simp [intOf]; omega
    · clear ho hb
      obtain rfl : k = len := by omega
      go_wp2
      go_ret
      have h := HO.out
      have e : over zs (List.replicate k 0) k = zs := by
        have := over_all zs (List.replicate k 0) (by rw [HL.out]; simp)
        rwa [HL.out] at this
      rw [e] at h
      exact ⟨_, _, _, rfl, h.wide (Nat.le_refl _) h.2.2.1 (Nat.le_refl _), HB.out⟩
/-- The marks from m on. -/
def marks8 (m : Int) (n : Nat) : List Int := (List.range n).map (fun (j : Nat) => (m + (j : Int)) % 256)
theorem marks8_len (m : Int) (n : Nat) : (marks8 m n).length = n := by simp [marks8]
theorem marks8_at (m : Int) (n j : Nat) (h : j < n) : (marks8 m n).getD j 0 = (m + j) % 256 := by simp [marks8, List.getD, h]
theorem marks8_wf (m : Int) (n : Nat) : ∀ x ∈ marks8 m n, (Lit.int .u8 x).wf = true := by
  intro x hx
  obtain ⟨j, _, rfl⟩ := List.mem_map.1 hx
  exact WalkArith.wf_u8 (by omega)
set_option maxHeartbeats 400000 in
theorem eqB_yes (W : World) (a b : Option Addr) (len capa capb : Nat) (zs : List Int) (hl : len ≤ 1073741824) (ha : Sees .u8 W a len zs) (hb : Sees .u8 W b len zs) :
    Calls Try.prog 34 #[.slice a len capa, .slice b len capb] W fun e w' => e = .returned (.bool true) ∧ Below W.heap.size W w' := by
  have HA := Lib.hid ha
  have HZ := Lib.hid hb
  clear ha hb
  go_enter Try.func34, Try.ntmps34
  go_wp2
  go_loopw [5] (fun i wr => ∃ k : Nat, k ≤ len ∧ i = .int .i64 k ∧ Below W.heap.size W wr) (fun i _ => len - (intOf i).toNat)
  case atStart => exact ⟨0, Nat.zero_le _, rfl, Below.refl _ _⟩
  case round =>
    obtain ⟨k, hk, rfl, hbw⟩ := hrel
    have HB := Lib.hid hbw
    by_cases hlt : k < len
    · rcases HA.out.2.2 with h0 | ⟨b1, o1, rfl, hb1, hc1⟩
      · omega
      · rcases HZ.out.2.2 with h0 | ⟨b2, o2, rfl, hb2, hc2⟩
        · omega
        · have hx := (hbw.cell (p := ⟨b1, o1 + k, none⟩) hb1).trans (hc1 k hlt)
          have hy := (hbw.cell (p := ⟨b2, o2 + k, none⟩) hb2).trans (hc2 k hlt)
          clear hc1 hc2 hbw
          go_wp2
          go_quiet (fail)
          go_wp2
          go_roundw
          case rel => exact ⟨k + 1, by omega, by go_num, below_drewN HB.out _⟩
          case measure => simp [intOf]; omega
    · clear hbw
      go_wp2
      go_ret
      exact ⟨rfl, HB.out⟩
set_option maxHeartbeats 400000 in
theorem markB_any (W : World) (lo hi : Nat) (a : Option Addr) (len cap : Nat) (zs : List Int) (m : Int) (hl : len ≤ 1073741824) (hm0 : 0 ≤ m) (hm1 : m ≤ 4611686018427387904) (ho : Own .u8 5 W lo hi a len cap zs) :
    Calls Try.prog 35 #[.slice a len cap, .int .i64 m] W fun e w' => e = .returned (.int .i64 (m + len)) ∧ Own .u8 5 w' lo hi a len cap (marks8 m len) ∧ Moved lo hi W w' := by
  have HO0 := Lib.hid ho
  have HL := Lib.hid ho.1
  clear ho
  go_enter Try.func35, Try.ntmps35
  go_wp2
  go_loopw [1, 5] (fun q i wr => ∃ k : Nat, k ≤ len ∧ i = .int .i64 k ∧ q = .int .i64 (m + k) ∧ Own .u8 5 wr lo hi a len cap (over (marks8 m len) zs k) ∧ Moved lo hi W wr) (fun _ i _ => len - (intOf i).toNat)
  case atStart => exact ⟨0, Nat.zero_le _, rfl, by simp, by rw [over_zero]; exact HO0.out, Moved.refl _ _ _⟩
  case round =>
    obtain ⟨k, hk, rfl, rfl, ho, hb⟩ := hrel
    have HO := Lib.hid ho
    have HB := Lib.hid hb
    by_cases hlt : k < len
    · have hsp := ho.spot
      rcases hsp with ⟨_, hx, _⟩ | ⟨g, rfl, _, _, _, _, hcs, hfz⟩
      · omega
      · have hcd := hcs k hlt
        have hfd := hfz k
        clear hcs hfz ho hb
        go_wp2
        go_roundw
        case rel =>
          have hst := HO.out.stored k ((m + k) % 256) (WalkArith.wf_u8 (by omega))
          have e := over_set (marks8 m len) zs k (by rw [HL.out, marks8_len]) (by rw [marks8_len]; exact hlt)
          rw [marks8_at _ _ _ hlt] at e
          rw [e] at hst
          exact ⟨k + 1, by omega, by go_num, by go_num, hst.1, HB.out.trans hst.2⟩
        case measure => simp [intOf]; omega
    · clear ho hb
      obtain rfl : k = len := by omega
      go_wp2
      go_ret
      have h := HO.out
      have e : over (marks8 m k) zs k = marks8 m k := by
        have := over_all (marks8 m k) zs (by rw [HL.out, marks8_len])
        rwa [marks8_len] at this
      rw [e] at h
      exact ⟨rfl, h, HB.out⟩
set_option maxHeartbeats 400000 in
theorem heldB_any (W : World) (a : Option Addr) (len cap : Nat) (m : Int) (hl : len ≤ 1073741824) (hm0 : 0 ≤ m) (hm1 : m ≤ 4611686018427387904) (ha : Sees .u8 W a len (marks8 m len)) :
    Calls Try.prog 39 #[.slice a len cap, .int .i64 m] W fun e w' => e = .returned (.int .i64 (m + len)) ∧ Below W.heap.size W w' := by
  have HA := Lib.hid ha
  clear ha
  go_enter Try.func39, Try.ntmps39
  go_wp2
  go_loopw [1, 5] (fun q i wr => ∃ k : Nat, k ≤ len ∧ i = .int .i64 k ∧ q = .int .i64 (m + k) ∧ Below W.heap.size W wr) (fun _ i _ => len - (intOf i).toNat)
  case atStart => exact ⟨0, Nat.zero_le _, rfl, by simp, Below.refl _ _⟩
  case round =>
    obtain ⟨k, hk, rfl, rfl, hbw⟩ := hrel
    have HB := Lib.hid hbw
    by_cases hlt : k < len
    · rcases HA.out.2.2 with h0 | ⟨b1, o1, rfl, hb1, hc1⟩
      · omega
      · have hx := (hbw.cell (p := ⟨b1, o1 + k, none⟩) hb1).trans (hc1 k hlt)
        rw [marks8_at _ _ _ hlt] at hx
        clear hc1 hbw
        go_wp2
        go_roundw
        case rel => exact ⟨k + 1, by omega, by go_num, by go_num, HB.out⟩
        case measure => simp [intOf]; omega
    · clear hbw
      obtain rfl : k = len := by omega
      go_wp2
      go_ret
      exact ⟨rfl, HB.out⟩
end Go.Proofs.Ytklookaggnohdaa
