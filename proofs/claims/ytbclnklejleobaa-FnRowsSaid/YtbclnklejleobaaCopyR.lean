/- The program's copies: of a row, of rows. -/
import Derived.Test.YtbclnklejleobaaSlO
import Derived.Test.YtbclnklejleobaaRedS
import Derived.WalkLawsBesides
namespace Go.Proofs.Ytbclnklejleobaa
open Go.RowKit
theorem clone_any (W : World) (a : Option Addr) (len cap : Nat) (zs : List Int) (hl : len ≤ 1073741824) (h1 : 0 < len) (hs : Sees .i64 W a len zs) :
    Calls Try.prog 45 #[.slice a len cap] W (Made .i64 3 zs W) := by
  have HS := Lib.hid hs
  rcases hs.2.2 with h0 | ⟨b, off, rfl, hb, _⟩
  · omega
  clear hs
  obtain ⟨i0, hi, hz0, hz1, hz2⟩ := info_parts info_i64
  have hnil := Lib.run_eql_slice_nil (P := Try.prog) W 29 3 (some ⟨b, off, none⟩) len cap 0 0 Try.underlying29
  go_enter Try.func45, Try.ntmps45
  go_wp2_with (at_builtin; refine wp_append_sees rfl _ _ 29 rfl 3 i0 .i64 8 Try.underlying29 hi hz0 hz1 hz2 _ _ _ _ rfl _ _ (own_nil _ _ _) _ _ _ _ rfl (HS.out.alloc _) (by unfold maxLen; omega) (by omega) (by simp) ?_; intro a3 len3 cap3 w3 hlen3 ho3 hm3; rw [List.nil_append] at ho3; have HO3 := Lib.hid (ho3.wide (lo2 := W.heap.size) (Nat.le_refl _) (Nat.le_refl _) (Nat.le_refl _)); have HM3 := Lib.hid (below_moved ((Below.refl W.heap.size W).alloc (Nat.le_refl _) _) hm3 (Nat.le_refl _) (Nat.le_refl _)); clear hlen3 ho3 hm3)
  go_ret
  exact ⟨_, _, _, rfl, HO3.out, HM3.out⟩
set_option maxRecDepth 20000 in
set_option maxHeartbeats 800000 in
theorem copyRows_any (W : World) (a : Option Addr) (len cap : Nat) (ms : List (List Int)) (hsm : SmallM ms) (hs : SeesM W a len ms) (h1 : ∀ r, r < ms.length → 0 < (row ms r).length) : Calls Try.prog 37 #[.slice a len cap] W (MadeM ms W) := by
  have HS := Lib.hid hs
  have HL := Lib.hid hs.1
  have HM := Lib.hid hsm
  have H1 := Lib.hid h1
  have hl : len ≤ 1048576 := by unfold SmallM at hsm; have := hs.1; omega
  clear hs hsm h1
  obtain ⟨i0, hi, hz0, hz1, hz2⟩ := info_parts info_row
  go_enter Try.func37, Try.ntmps37
  go_wp2_with (at_make; refine wpList_make_full _ rfl _ _ 24 rfl W.heap.size 29 i0 (.slice none 0 0) 1 Try.underlying24 hi hz0 hz1 _ _ _ _ len rfl rfl rfl rfl (by rw [hz2]; omega) (by unfold maxLen; omega) (by simp) ?_; intro w1 hown1 hgrow1; have HB1 := Lib.hid ((Below.refl W.heap.size W).grown hgrow1 (Nat.le_refl _) (fun k e => by cases e)); have HO1 := Lib.hid (made_rows w1 W.heap.size len W.heap.size (Nat.le_refl _) (hown1.lt _ rfl).2 hown1); clear hown1 hgrow1)
  go_loopw [11, 4, 5] (fun i _ _ wr => ∃ k : Nat, k ≤ len ∧ i = .int .i64 k ∧ OwnM wr W.heap.size wr.heap.size (some ⟨W.heap.size, 0, none⟩) len len (upTo ms k) ∧ Below W.heap.size W wr) (fun i _ _ _ => len - (intOf i).toNat)
  case atStart => exact ⟨0, Nat.zero_le _, rfl, by rw [upTo_zero, HL.out]; exact HO1.out, HB1.out⟩
  case round =>
    obtain ⟨k, hk, rfl, ho, hb⟩ := hrel
    have HO := Lib.hid ho
    have HB := Lib.hid hb
    by_cases hlt : k < len
    · obtain ⟨b, off, ar, cr, rfl, hbl, hc, hle, hcm, hsr⟩ := HS.out.2 k hlt
      have hcw := (hb.cell (p := ⟨b, off + k, none⟩) hbl).trans hc
      obtain ⟨zs, hzs⟩ : ∃ zs, zs = row ms k := ⟨_, rfl⟩
      rw [← hzs] at hcw hle hsr
      have hr1 : 0 < zs.length := by rw [hzs]; exact H1.out k (by rw [HL.out]; exact hlt)
      have hrl : zs.length ≤ 1073741824 := by
        have := HM.out.row (r := k) (by rw [HL.out]; exact hlt)
        rw [hzs]
        omega
      have HZ := Lib.hid hzs
      have HR : Hid (Sees .i64 wr ar zs.length zs) := Lib.hid (hsr.up (Nat.le_refl _) hb)
      clear hc hsr hzs hle hcm ho hb
      go_wp2_with fail
      go_at_call 45
      refine (clone_any _ _ zs.length _ zs hrl hr1 HR.out).mono ?_
      rintro e w2 ⟨a2, l2, c2, rfl, ho2, hb2⟩
      obtain rfl : zs.length = l2 := ho2.1
      have HO2 := Lib.hid ho2
      have HP := Lib.hid (HO.out.put (by have := HB.out.size; omega) hb2 ho2 k hlt)
      have HM2 := HO.out.below hb2
      obtain ⟨_, _, hin, A, C, hrow, _⟩ := HM2
      have hfz := hrow.frozenAt k
      have hcd := (hrow.cellAt k (by omega)).trans (heads_at (by rw [upTo_len _ (by rw [HL.out]; omega), HL.out]; exact hlt))
      have HB2 := Lib.hid hb2
      clear hrow hin ho2 hb2
      go_wp2
      go_roundw
      case rel =>
        have hp := HP.out.1
        have hset := upTo_set ms (k := k) (by rw [HL.out]; exact hlt)
        rw [← HZ.out] at hset
        rw [hset] at hp
        exact ⟨k + 1, by omega, by go_num, by simpa [World.setCell] using hp, below_moved HB.out HP.out.2 (Nat.le_refl _) (Nat.le_refl _)⟩
      case measure => simp [intOf]; omega
    · clear ho hb
      obtain rfl : k = len := by omega
      go_wp2
      go_ret
      have h := HO.out
      have e : upTo ms k = ms := by rw [← HL.out]; exact upTo_all ms
      rw [e] at h
      exact ⟨_, _, _, rfl, h, HB.out⟩
end Go.Proofs.Ytbclnklejleobaa
