/- What the laws do to slices of slices of integers, second part: copy, compare, mark, look for the marks. -/
import Derived.Test.YtbclnklejleobaaDoorSlN
namespace Go.Proofs.YtbclnklejleobaaDoor
open Go.RowKit
set_option maxHeartbeats 800000 in
theorem toM_any (W : World) (a : Option Addr) (len cap : Nat) (ms : List (List Int)) (hsm : SmallM ms) (hs : SeesM W a len ms) : Calls Tryd.prog 6 #[.slice a len cap] W (MadeM ms W) := by
  have HS := Lib.hid hs
  have HL := Lib.hid hs.1
  have HM := Lib.hid hsm
  have hl : len ≤ 1048576 := by unfold SmallM at hsm; have := hs.1; omega
  clear hs hsm
  obtain ⟨i0, hi, hz0, hz1, hz2⟩ := info_parts info_row
  go_enter Tryd.func6, Tryd.ntmps6
  go_wp2_with (at_make; refine wpList_make_full _ rfl _ _ 22 rfl W.heap.size 29 i0 (.slice none 0 0) 1 Tryd.underlying22 hi hz0 hz1 _ _ _ _ len rfl rfl rfl rfl (by rw [hz2]; omega) (by unfold maxLen; omega) (by simp) ?_; intro w1 hown1 hgrow1; have HB1 := Lib.hid ((Below.refl W.heap.size W).grown hgrow1 (Nat.le_refl _) (fun k e => by cases e)); have HO1 := Lib.hid (made_rows w1 W.heap.size len W.heap.size (Nat.le_refl _) (hown1.lt _ rfl).2 hown1); clear hown1 hgrow1)
  go_loopw [4] (fun i wr => ∃ k : Nat, k ≤ len ∧ i = .int .i64 k ∧ OwnM wr W.heap.size wr.heap.size (some ⟨W.heap.size, 0, none⟩) len len (upTo ms k) ∧ Below W.heap.size W wr) (fun i _ => len - (intOf i).toNat)
  case atStart => exact ⟨0, Nat.zero_le _, rfl, by rw [upTo_zero, HL.out]; exact HO1.out, HB1.out⟩
  case round =>
    obtain ⟨k, hk, rfl, ho, hb⟩ := hrel
    have HO := Lib.hid ho
    have HB := Lib.hid hb
    by_cases hlt : k < len
    · obtain ⟨b, off, ar, cr, rfl, hbl, hc, hle, hcm, hsr⟩ := HS.out.2 k hlt
      have hcw := (hb.cell (p := ⟨b, off + k, none⟩) hbl).trans hc
      obtain ⟨zs, hzs⟩ : ∃ zs, zs = row ms k := ⟨_, rfl⟩
      rw [← hzs] at hcw hle hsr
      have hrl : zs.length ≤ 1073741824 := by
        have := HM.out.row (r := k) (by rw [HL.out]; exact hlt)
        rw [hzs]
        omega
      have HZ := Lib.hid hzs
      have HR : Hid (Sees .i64 wr ar zs.length zs) := Lib.hid (by
        refine ⟨hsr.1, hsr.2.1, ?_⟩
        rcases hsr.2.2 with h0 | ⟨b2, o2, ha2, hlt2, hc2⟩
        · exact .inl h0
        · exact .inr ⟨b2, o2, ha2, Nat.lt_of_lt_of_le hlt2 hb.size, fun j hj => (hb.cell (p := ⟨b2, o2 + j, none⟩) hlt2).trans (hc2 j hj)⟩)
      clear hc hsr hzs hle hcm ho hb
      go_wp2_with fail
      go_at_call 11
      refine (toI_any _ _ zs.length _ zs hrl HR.out).mono ?_
      rintro e w2 ⟨a2, l2, c2, rfl, ho2, hb2⟩
      obtain rfl : zs.length = l2 := ho2.1
      have HO2 := Lib.hid ho2
      have HP := Lib.hid (HO.out.put (by have := HB.out.size; omega) hb2 ho2 k hlt)
      have HM2 := HO.out.below hb2
      obtain ⟨_, _, hin, A, C, hrow, _⟩ := HM2
      have hfz := hrow.frozenAt k
      have hcd := (hrow.cellAt k (by omega)).trans (heads_at (by rw [upTo_len _ (by rw [HL.out]; omega), HL.out]; exact hlt))
      have HB2 := Lib.hid hb2
      clear hrow hin ho2 hb2
      go_wp2
      go_roundw
      case rel =>
        have hp := HP.out.1
        have hset := upTo_set ms (k := k) (by rw [HL.out]; exact hlt)
        rw [← HZ.out] at hset
        rw [hset] at hp
        exact ⟨k + 1, by omega, by go_num, by simpa [World.setCell] using hp, below_moved HB.out HP.out.2 (Nat.le_refl _) (Nat.le_refl _)⟩
      case measure => simp [intOf]; omega
    · clear ho hb
      obtain rfl : k = len := by omega
      go_wp2
      go_ret
      have h := HO.out
      have e : upTo ms k = ms := by rw [← HL.out]; exact upTo_all ms
      rw [e] at h
      exact ⟨_, _, _, rfl, h, HB.out⟩
theorem Sees.up {w w' : World} {k : IntKind} {B : Nat} {a : Option Addr} {len : Nat} {zs : List Int} (h : Sees k w a len zs) (hB : w.heap.size ≤ B) (hb : Below B w w') : Sees k w' a len zs := by
  refine ⟨h.1, h.2.1, ?_⟩
  rcases h.2.2 with h0 | ⟨b2, o2, ha2, hlt2, hc2⟩
  · exact .inl h0
  · exact .inr ⟨b2, o2, ha2, Nat.lt_of_lt_of_le hlt2 hb.size, fun j hj => (hb.cell (p := ⟨b2, o2 + j, none⟩) (Nat.lt_of_lt_of_le hlt2 hB)).trans (hc2 j hj)⟩
set_option maxHeartbeats 800000 in
theorem eqM_yes (W : World) (a b : Option Addr) (len capa capb : Nat) (ms : List (List Int)) (hsm : SmallM ms) (ha : SeesM W a len ms) (hb : SeesM W b len ms) :
    Calls Tryd.prog 8 #[.slice a len capa, .slice b len capb] W fun e w' => e = .returned (.bool true) ∧ Below W.heap.size W w' := by
  have HA := Lib.hid ha
  have HZ := Lib.hid hb
  have HM := Lib.hid hsm
  have HL := Lib.hid ha.1
  have hl : len ≤ 1048576 := by unfold SmallM at hsm; have := ha.1; omega
  clear ha hb hsm
  go_enter Tryd.func8, Tryd.ntmps8
  go_wp2
  go_loopw [5] (fun i wr => ∃ k : Nat, k ≤ len ∧ i = .int .i64 k ∧ Below W.heap.size W wr) (fun i _ => len - (intOf i).toNat)
  case atStart => exact ⟨0, Nat.zero_le _, rfl, Below.refl _ _⟩
  case round =>
    obtain ⟨k, hk, rfl, hbw⟩ := hrel
    have HB := Lib.hid hbw
    by_cases hlt : k < len
    · obtain ⟨b1, o1, a1, c1, rfl, hb1, hc1, _, _, hs1⟩ := HA.out.2 k hlt
      obtain ⟨b2, o2, a2, c2, rfl, hb2, hc2, _, _, hs2⟩ := HZ.out.2 k hlt
      have hx := (hbw.cell (p := ⟨b1, o1 + k, none⟩) hb1).trans hc1
      have hy := (hbw.cell (p := ⟨b2, o2 + k, none⟩) hb2).trans hc2
      have hs1w := Lib.hid (hs1.below hbw)
      have hs2w := Lib.hid (hs2.below hbw)
      obtain ⟨zs, hzs⟩ : ∃ zs, zs = row ms k := ⟨_, rfl⟩
      rw [← hzs] at hx hy hs1w hs2w
      have hrl : zs.length ≤ 1073741824 := by
        have := HM.out.row (r := k) (by rw [HL.out]; exact hlt)
        rw [hzs]
        omega
      have hk0 : (0 : Int) ≤ (k : Int) := Int.natCast_nonneg _
      have hk1 : (k : Int) < (len : Int) := by omega
      clear hc1 hc2 hs1 hs2 hzs hbw
      go_wp2_with fail
      go_region_held3 (fun w' => w'.cell? ⟨b1, o1 + k, none⟩ = some (.slice a1 zs.length c1) ∧ w'.cell? ⟨b2, o2 + k, none⟩ = some (.slice a2 zs.length c2)) (go_keep) (first
        | (go_at_call 14; refine (eqI_yes _ _ _ zs.length _ _ zs hrl (hs1w.out.below (Below.refl _ _).drew) (hs2w.out.below (Below.refl _ _).drew)).mono ?_; rintro e w2 ⟨rfl, hb⟩; have HB2 := Lib.hid (below_up (w0 := wr) (Below.refl _ _).drew hb (Nat.le_refl _)); have hx := (HB2.out.cell (p := ⟨b1, o1 + k, none⟩) (World.block_lt_of_cell? _ _ hx)).trans hx; have hy := (HB2.out.cell (p := ⟨b2, o2 + k, none⟩) (World.block_lt_of_cell? _ _ hy)).trans hy; clear hb))
      go_wp2
      go_roundw
      case rel => exact ⟨k + 1, by omega, by go_num, HB.out.trans (HB2.out.mono HB.out.size)⟩
      case measure => simp [intOf]; omega
    · clear hbw
      go_wp2
      go_ret
      exact ⟨rfl, HB.out⟩
/-! ### Marks -/
/-- The first k rows hold the marks from m on. -/
def marked (m : Int) (ms : List (List Int)) (k : Nat) : List (List Int) := (List.range ms.length).map fun r => if r < k then marksI (m + (tot ms r : Int)) (row ms r).length else row ms r
theorem marked_len (m : Int) (ms : List (List Int)) (k : Nat) : (marked m ms k).length = ms.length := by simp [marked]
theorem marked_row {m : Int} {ms : List (List Int)} {k r : Nat} (h : r < ms.length) : row (marked m ms k) r = if r < k then marksI (m + (tot ms r : Int)) (row ms r).length else row ms r := by
  simp [marked, row, List.getD, h]
theorem marked_row_len {m : Int} {ms : List (List Int)} {k r : Nat} (h : r < ms.length) : (row (marked m ms k) r).length = (row ms r).length := by
  rw [marked_row h]
  split
  · exact marksI_len _ _
  · rfl
theorem marked_zero (m : Int) (ms : List (List Int)) : marked m ms 0 = ms := by
  apply List.ext_getElem?
  intro i
  by_cases hi : i < ms.length
  · simp [marked, row, List.getD, hi]
  · rw [List.getElem?_eq_none (by rw [marked_len]; omega), List.getElem?_eq_none (by omega)]
theorem marked_set {m : Int} {ms : List (List Int)} {k : Nat} (h : k < ms.length) : (marked m ms k).set k (marksI (m + (tot ms k : Int)) (row ms k).length) = marked m ms (k + 1) := by
  apply List.ext_getElem?
  intro i
  by_cases hi : i < ms.length
  · rw [List.getElem?_set]
    by_cases hik : k = i
    · subst hik
      rw [if_pos rfl, if_pos (by rw [marked_len]; exact h)]
      simp [marked, h]
    · rw [if_neg hik]
      have e : (i < k) = (i < k + 1) := by rw [eq_iff_iff]; omega
      simp [marked, hi, e]
  · rw [List.getElem?_eq_none (by rw [List.length_set, marked_len]; omega), List.getElem?_eq_none (by rw [marked_len]; omega)]
end Go.Proofs.YtbclnklejleobaaDoor
