/- The program's MatrixOf: a list of rows is made, and filled one by one. -/
import Derived.Test.YtjckcggjmcaaoaaMatQ
namespace Go.Proofs.Ytjckcggjmcaaoaa
open Go.RowKit
theorem matQ_len {ps : List Prb} {n : Int} : (matQ ps n ps.length).length = ps.length := by simp [matQ]
theorem matQ_row {ps : List Prb} {n : Int} {k : Nat} (h : k < ps.length) : row (matQ ps n ps.length) k = rowA (prb ps k).2.2 n := by
  simp [row, matQ, prb, List.getD, h]
set_option maxRecDepth 20000 in
set_option maxHeartbeats 1600000 in
theorem matQP_any (W : World) (a : Option Addr) (len cap : Nat) (ps : List Prb) (n : Int) (hsm : SmallM (pathsOf ps)) (hs : SeesQ W a len ps) :
    Calls Try.prog 9 #[.slice a len cap, .int .i64 n] W (MadeM (matQ ps n len) W) := by
  have HS := Lib.hid hs
  have HL := Lib.hid hs.1
  have HM := Lib.hid hsm
  have hl : len ≤ 1048576 := by unfold SmallM at hsm; rw [pathsOf_len] at hsm; have := hs.1; omega
  obtain ⟨ms, hms⟩ : ∃ ms, ms = matQ ps n len := ⟨_, rfl⟩
  have HQ := Lib.hid hms
  have HN : Hid (ms.length = len) := Lib.hid (by rw [hms, ← hs.1]; exact matQ_len)
  rw [← hms]
  clear hs hsm hms
  obtain ⟨i0, hi, hz0, hz1, hz2⟩ := info_parts info_row
  go_enter Try.func9, Try.ntmps9
  go_wp2_with (at_make; refine wpList_make_full _ rfl _ _ 33 rfl W.heap.size 27 i0 (.slice none 0 0) 1 Try.underlying33 hi hz0 hz1 _ _ _ _ len rfl rfl rfl rfl (by rw [hz2]; omega) (by unfold maxLen; omega) (by simp) ?_; intro w1 hown1 hgrow1; have HB1 := Lib.hid ((Below.refl W.heap.size W).grown hgrow1 (Nat.le_refl _) (fun k e => by cases e)); have HO1 := Lib.hid (made_rows w1 W.heap.size len W.heap.size (Nat.le_refl _) (hown1.lt _ rfl).2 hown1); clear hown1 hgrow1)
  go_loopw [13, 6, 7] (fun i _ _ wr => ∃ k : Nat, k ≤ len ∧ i = .int .i64 k ∧ OwnM wr W.heap.size wr.heap.size (some ⟨W.heap.size, 0, none⟩) len len (upTo ms k) ∧ Below W.heap.size W wr) (fun i _ _ _ => len - (intOf i).toNat)
  case atStart => exact ⟨0, Nat.zero_le _, rfl, by rw [upTo_zero, HN.out]; exact HO1.out, HB1.out⟩
  case round =>
    obtain ⟨k, hk, rfl, ho, hb⟩ := hrel
    have HO := Lib.hid ho
    have HB := Lib.hid hb
    by_cases hlt : k < len
    · obtain ⟨b, off, ar, cr, rfl, hbl, hc0, hc1, hc2, hle, hcm, hsr⟩ := HS.out.2.2 k hlt
      have hw0 := (hb.cell (p := ⟨b, off + k * 3, none⟩) hbl).trans hc0
      have hw1 := (hb.cell (p := ⟨b, off + k * 3 + 1, none⟩) hbl).trans hc1
      have hw2 := (hb.cell (p := ⟨b, off + k * 3 + 2, none⟩) hbl).trans hc2
      have hkm : k < ps.length := by rw [HL.out]; exact hlt
      obtain ⟨x, y, zs, hp⟩ : ∃ x y zs, prb ps k = (x, y, zs) := ⟨_, _, _, rfl⟩
      have hrl : zs.length ≤ 1073741824 := by
        have h := totQ_le HM.out hkm
        rw [hp] at h
        simp only at h
        omega
      have HE : Hid (row ms k = rowA zs n) := Lib.hid (by
        rw [HQ.out, ← HL.out, matQ_row hkm, hp])
      rw [hp] at hw0 hw1 hw2 hsr
      simp only at hw0 hw1 hw2 hsr
      obtain ⟨V, hV⟩ : ∃ V, V = wr.alloc (.cells #[.int .i64 x, .int .i64 y, .slice ar zs.length cr] 38) := ⟨_, rfl⟩
      have hbV : Below wr.heap.size wr V := by rw [hV]; exact (Below.refl _ _).alloc (Nat.le_refl _) _
      have hV2 : V.cell? ⟨wr.heap.size, 2, none⟩ = some (.slice ar zs.length cr) := by rw [hV]; go_simp
      have HR := Lib.hid (hsr.below (below_up hb hbV (Nat.le_refl _)))
      have HBV := Lib.hid hbV
      clear hc0 hc1 hc2 hsr hp hle hcm ho hb hbV
      go_wp2_with fail
      rw [← hV]
      clear hV hw0 hw1 hw2
      go_wp2_with fail
      go_at_call 32
      refine (rowP_any _ _ _ _ zs n hrl HR.out).mono ?_
      rintro e w2 ⟨a2, l2, c2, rfl, ho2, hb2⟩
      have hb2 : Below wr.heap.size wr w2 := below_up HBV.out hb2 (Nat.le_refl _)
      obtain rfl : (rowA zs n).length = l2 := ho2.1
      have HO2 := Lib.hid (ho2.wide HBV.out.size (Nat.le_refl _) (Nat.le_refl _))
      have HP := Lib.hid (HO.out.put (by have := HB.out.size; omega) hb2 HO2.out k hlt)
      have HM2 := HO.out.below hb2
      obtain ⟨_, _, hin, A, C, hrow, _⟩ := HM2
      have hfz := hrow.frozenAt k
      have hcd := (hrow.cellAt k (by omega)).trans (heads_at (by rw [upTo_len _ (by rw [HN.out]; omega), HN.out]; exact hlt))
      have HB2 := Lib.hid hb2
      clear hrow hin ho2 hb2 hV2
      go_wp2
      go_roundw
      case rel =>
        have hp := HP.out.1
        have hset := upTo_set ms (k := k) (by rw [HN.out]; exact hlt)
        rw [HE.out] at hset
        rw [hset] at hp
        exact ⟨k + 1, by omega, by go_num, by simpa [World.setCell] using hp, below_moved HB.out HP.out.2 (Nat.le_refl _) (Nat.le_refl _)⟩
      case measure => simp [intOf]; omega
    · clear ho hb
      obtain rfl : k = len := by omega
      go_wp2
      go_ret
      have h := HO.out
      have e : upTo ms k = ms := by rw [← HN.out]; exact upTo_all ms
      rw [e] at h
      exact ⟨_, _, _, rfl, h, HB.out⟩
end Go.Proofs.Ytjckcggjmcaaoaa
