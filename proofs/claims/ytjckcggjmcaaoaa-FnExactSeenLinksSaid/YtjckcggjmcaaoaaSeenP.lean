/- SeenLinks, the program's: all paths end to end, sorted, each number kept once. -/
import Derived.Test.YtjckcggjmcaaoaaSeenM
import Derived.Test.YtjckcggjmcaaoaaSortP
namespace Go.Proofs.Ytjckcggjmcaaoaa
open Go.RowKit
set_option maxRecDepth 20000 in
set_option maxHeartbeats 3200000 in
theorem seenP_any (W : World) (a : Option Addr) (len cap : Nat) (ps : List Prb) (hsm : SmallM (pathsOf ps)) (hs : SeesQ W a len ps) :
    Calls Try.prog 10 #[.slice a len cap] W (Made .i64 3 (seenV ps) W) := by
  have HS := Lib.hid hs
  have HL := Lib.hid hs.1
  have HM := Lib.hid hsm
  have hl : len ≤ 1048576 := by unfold SmallM at hsm; rw [pathsOf_len] at hsm; have := hs.1; omega
  clear hs hsm
  obtain ⟨i0, hi, hz0, hz1, hz2⟩ := info_parts info_i64
  go_enter Try.func10, Try.ntmps10
  go_wp2_with fail
  go_loopw [3, 9, 5] (fun v i _ wr => ∃ (k : Nat) (a' : Option Addr) (l' c' : Nat), k ≤ len ∧ l' ≤ 1048576 ∧ i = .int .i64 k ∧ v = .slice a' l' c' ∧ Own .i64 3 wr W.heap.size wr.heap.size a' l' c' (flatK ps k) ∧ Below W.heap.size W wr) (fun _ i _ _ => len - (intOf i).toNat)
  case atStart => exact ⟨0, _, _, _, Nat.zero_le _, Nat.zero_le _, rfl, rfl, own_nilB (w := W) rfl, below_new8 _ _⟩
  case round =>
    obtain ⟨k, a', l', c', hk, hl', rfl, rfl, ho, hb⟩ := hrel
    have HO := Lib.hid ho
    have HB := Lib.hid hb
    by_cases hlt : k < len
    · have hkm : k < ps.length := by rw [HL.out]; exact hlt
      obtain ⟨b, off, ar, cr, rfl, hbl, hc0, hc1, hc2, hle, hcm, hsr⟩ := HS.out.2.2 k hlt
      have hw0 := (hb.cell (p := ⟨b, off + k * 3, none⟩) hbl).trans hc0
      have hw1 := (hb.cell (p := ⟨b, off + k * 3 + 1, none⟩) hbl).trans hc1
      have hw2 := (hb.cell (p := ⟨b, off + k * 3 + 2, none⟩) hbl).trans hc2
      have hbd : tot (pathsOf ps) k + (prb ps k).2.2.length ≤ 1048576 := by
        have h := HM.out.row (r := k) (by rw [pathsOf_len]; exact hkm)
        rw [pathsOf_row hkm] at h
        exact h
      have hll : (flatK ps k).length = l' := ho.1
      have hsum : l' + (prb ps k).2.2.length ≤ 1048576 := by have := flatK_len ps k; omega
      have HF : Hid (flatK ps (k + 1) = flatK ps k ++ (prb ps k).2.2) := Lib.hid rfl
      obtain ⟨x, y, zs, hp⟩ : ∃ x y zs, prb ps k = (x, y, zs) := ⟨_, _, _, rfl⟩
      rw [hp] at hw0 hw1 hw2 hsr hsum HF
      simp only at hw0 hw1 hw2 hsr hsum HF
      obtain ⟨V, hV⟩ : ∃ V, V = wr.alloc (.cells #[.int .i64 x, .int .i64 y, .slice ar zs.length cr] 38) := ⟨_, rfl⟩
      have hbV : Below wr.heap.size wr V := by rw [hV]; exact (Below.refl _ _).alloc (Nat.le_refl _) _
      have HR := Lib.hid (hsr.below (below_up hb hbV (Nat.le_refl _)))
      have HOV := Lib.hid (ho.below hbV)
      have HBV := Lib.hid (below_up hb hbV (Nat.le_refl _))
      clear hc0 hc1 hc2 hsr hp hle hcm ho hb hbV hbd hll
      subst hV
      go_wp2_with (at_builtin; refine wp_append_sees rfl _ _ 27 rfl 3 i0 .i64 8 Try.underlying27 hi hz0 hz1 hz2 _ _ _ _ rfl _ _ HOV.out _ _ _ zs rfl HR.out (by unfold maxLen; omega) (by omega) HBV.out.size ?_; intro a3 l3 c3 w3 hl3 ho3 hm3; subst hl3; have HO3 := Lib.hid ho3; have HB3 := Lib.hid (below_moved HBV.out hm3 (Nat.le_refl _) (Nat.le_refl _)); clear ho3 hm3)
      go_roundw
      case rel => exact ⟨k + 1, _, _, _, by omega, hsum, by go_num, rfl, by rw [HF.out]; exact HO3.out, HB3.out⟩
      case measure => simp [intOf]; omega
    · obtain rfl : k = len := by omega
      have HE : Hid (Lib.compact (sortI (flatK ps k)) = seenV ps) := Lib.hid (by rw [← HL.out]; exact seenV_flat ps)
      clear ho hb
      go_wp2_with fail
      go_at_call 33
      refine (sortP_any _ _ _ _ _ _ _ hl' HO.out).mono ?_
      rintro e w1 ⟨rfl, ho1, hm1⟩
      have HO1 := Lib.hid ho1
      have HB1 := Lib.hid (below_moved HB.out hm1 (Nat.le_refl _) (Nat.le_refl _))
      clear ho1 hm1
      go_wp2_with fail
      go_at_call 34
      refine (compactP_any _ _ _ _ _ _ _ hl' HO1.out).mono ?_
      rintro e w2 ⟨rfl, ho2, hm2⟩
      rw [HE.out] at ho2
      have HO2 := Lib.hid (ho2.wide (Nat.le_refl _) ho2.2.2.1 (Nat.le_refl _))
      have HB2 := Lib.hid (below_moved HB1.out hm2 (Nat.le_refl _) (Nat.le_refl _))
      clear ho2 hm2
      go_wp2
      go_ret
      exact ⟨_, _, _, by rw [HE.out]; rfl, HO2.out, HB2.out⟩
end Go.Proofs.Ytjckcggjmcaaoaa
