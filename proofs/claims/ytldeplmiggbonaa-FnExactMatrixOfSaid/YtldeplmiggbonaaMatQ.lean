/- MatrixOf: in plain words, and the model's. -/
import Derived.Test.YtldeplmiggbonaaSlQo
import Derived.Test.YtldeplmiggbonaaAppM
import Derived.Test.YtldeplmiggbonaaNetR
import Derived.Test.YtldeplmiggbonaaSlW
namespace Go.Proofs.Ytldeplmiggbonaa
open Go.RowKit
/-- A row for each probe. -/
def matQ (ps : List Prb) (n : Int) (k : Nat) : List (List Int) := (ps.take k).map fun p => rowA p.2.2 n
theorem matQ_zero (ps : List Prb) (n : Int) : matQ ps n 0 = [] := rfl
theorem matQ_succ {ps : List Prb} {n : Int} {k : Nat} (h : k < ps.length) : matQ ps n (k + 1) = matQ ps n k ++ [rowA (prb ps k).2.2 n] := by
  unfold matQ
  rw [List.take_add_one, List.map_append]
  congr 1
  simp [prb, List.getD, h]
theorem rowA_six (p : List Int) (n : Int) : (rowA p n).length ≤ 6 := by
  unfold rowA
  split
  · rename_i h
    have := inR_true.1 h
    rw [rowL_len]
    omega
  · exact Nat.zero_le _
theorem matQ_small {ps : List Prb} {len : Nat} (h : SmallM (pathsOf ps)) (hl : ps.length = len) (n : Int) : SmallW (matQ ps n len) := by
  have e : (matQ ps n len).length = len := by simp [matQ]; omega
  have hr : ∀ i, i < (matQ ps n len).length → (row (matQ ps n len) i).length ≤ 6 := fun i hi => by
    have hi2 : i < ps.length := by omega
    have : row (matQ ps n len) i = rowA (prb ps i).2.2 n := by
      subst hl
      simp [row, matQ, prb, List.getD, hi2]
    rw [this]
    exact rowA_six _ _
  have ht := tot_cap hr len (by omega)
  unfold SmallM at h
  rw [pathsOf_len] at h
  unfold SmallW
  rw [e]
  omega
set_option maxRecDepth 20000 in
set_option maxHeartbeats 1600000 in
theorem specMatQ_any (W : World) (a : Option Addr) (len cap : Nat) (ps : List Prb) (n : Int) (hsm : SmallM (pathsOf ps)) (hs : SeesQ W a len ps) :
    Calls Try.prog 29 #[.slice a len cap, .int .i64 n] W (MadeM (matQ ps n len) W) := by
  have HS := Lib.hid hs
  have HL := Lib.hid hs.1
  have HM := Lib.hid hsm
  have hl : len ≤ 1048576 := by unfold SmallM at hsm; rw [pathsOf_len] at hsm; have := hs.1; omega
  clear hs hsm
  obtain ⟨i1, hi1, hz10, hz11, hz12⟩ := info_parts info_row
  have HB0 := Lib.hid ((Below.refl W.heap.size W).alloc (Nat.le_refl _) (.cells #[] 26))
  have HO0 := Lib.hid (ownM_nil0 W)
  go_enter Try.func29, Try.ntmps29
  go_wp2_with fail
  go_loopw [5, 6] (fun v i wr => ∃ (k : Nat) (a' : Option Addr) (l' c' : Nat), k ≤ len ∧ l' = k ∧ i = .int .i64 k ∧ v = .slice a' l' c' ∧ OwnM wr W.heap.size wr.heap.size a' l' c' (matQ ps n k) ∧ Below W.heap.size W wr) (fun _ i _ => len - (intOf i).toNat)
  case atStart => exact ⟨0, _, _, _, Nat.zero_le _, rfl, rfl, rfl, by rw [matQ_zero]; exact HO0.out.wide (Nat.le_refl _) HO0.out.2.1 (Nat.le_refl _), HB0.out⟩
  case round =>
    obtain ⟨k, a', l', c', hk, hlk, rfl, rfl, ho, hb⟩ := hrel
    have HO := Lib.hid ho
    have HB := Lib.hid hb
    have HLK := Lib.hid hlk
    have hl' : l' ≤ 1048576 := by omega
    have hszr := hb.size
    by_cases hlt : k < len
    · have hkm : k < ps.length := by rw [HL.out]; exact hlt
      obtain ⟨b, off, ar, cr, rfl, hbl, hc0, hc1, hc2, hle, hcm, hsr⟩ := HS.out.2.2 k hlt
      obtain ⟨zs, hzs⟩ : ∃ zs, zs = (prb ps k).2.2 := ⟨_, rfl⟩
      rw [← hzs] at hc2 hle hsr
      have hrl : zs.length ≤ 1073741824 := by
        have h := totQ_le HM.out hkm
        rw [← hzs] at h
        omega
      have hw2 := (hb.cell (p := ⟨b, off + k * 3 + 2, none⟩) hbl).trans hc2
      have HR := Lib.hid (hsr.below hb)
      have HE : Hid (matQ ps n (k + 1) = matQ ps n k ++ [rowA zs n]) := Lib.hid (by rw [hzs]; exact matQ_succ hkm)
      clear hc0 hc1 hc2 hle hsr hzs ho hb hlk
      go_wp2_with (first
        | (go_at_call 51; refine (specRow_any _ _ _ _ zs n hrl HR.out).mono ?_; rintro e w2 ⟨a2, l2, c2, rfl, ho2, hb2⟩; have hl2 := ho2.1; subst hl2; have HN2 := Lib.hid ho2; have HB2 := Lib.hid (below_up HB.out hb2 (Nat.le_refl _)); have HO2 := Lib.hid (HO.out.below hb2); have hsz2 := hb2.size; clear ho2 hb2)
        | (at_builtin; refine wp_append_ownM rfl _ _ 53 rfl i1 Try.underlying53 hi1 hz10 hz11 hz12 _ _ _ rfl w2.heap.size rfl _ W.heap.size wr.heap.size (HO2.out.alloc _) a2 c2 (rowA zs n) (by simp) wr.heap.size _ (HN2.out.alloc _) (Nat.le_refl _) hszr (by omega) (by simp; omega) ?_; intro g4 c4 w4 ho4 hm4; have HO4 := Lib.hid ho4; have HM4 := Lib.hid hm4; clear ho4 hm4))
      go_roundw
      case rel =>
        have ho := HO4.out
        rw [← HE.out] at ho
        exact ⟨k + 1, _, _, _, by omega, by have := HLK.out; omega, by go_num, rfl, ho, below_moved (below_up HB2.out ((Below.refl _ _).alloc (Nat.le_refl _) _) (Nat.le_refl _)) HM4.out (Nat.le_refl _) (by simp)⟩
      case measure => simp [intOf]; omega
    · obtain rfl : k = len := by omega
      clear ho hb
      go_wp2_with fail
      go_ret
      obtain rfl := HLK.out
      exact ⟨_, _, _, rfl, HO.out, HB.out⟩
end Go.Proofs.Ytldeplmiggbonaa
