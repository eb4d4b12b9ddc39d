/- What the laws do to slices of probes: measure, copy, compare. -/
import Derived.Test.YtldeplmiggbonaaSlQ
import Derived.Test.YtldeplmiggbonaaPair
namespace Go.Proofs.Ytldeplmiggbonaa
open Go.RowKit
/-- The probes' paths. -/
def pathsOf (ps : List Prb) : List (List Int) := ps.map (·.2.2)
theorem pathsOf_len (ps : List Prb) : (pathsOf ps).length = ps.length := by simp [pathsOf]
theorem pathsOf_row {ps : List Prb} {r : Nat} (h : r < ps.length) : row (pathsOf ps) r = (prb ps r).2.2 := by simp [pathsOf, row, prb, List.getD, h]
def upToQ (ps : List Prb) (k : Nat) : List Prb := ps.take k ++ List.replicate (ps.length - k) (0, 0, [])
theorem upToQ_len (ps : List Prb) {k : Nat} (h : k ≤ ps.length) : (upToQ ps k).length = ps.length := by simp [upToQ]; omega
theorem upToQ_zero (ps : List Prb) : upToQ ps 0 = List.replicate ps.length (0, 0, []) := by simp [upToQ]
theorem upToQ_all (ps : List Prb) : upToQ ps ps.length = ps := by simp [upToQ]
theorem upToQ_set (ps : List Prb) {k : Nat} (h : k < ps.length) : (upToQ ps k).set k (prb ps k) = upToQ ps (k + 1) := by
  apply List.ext_getElem?
  intro i
  unfold upToQ prb
  rw [List.getElem?_set]
  by_cases hik : k = i
  · subst hik
    rw [if_pos rfl, if_pos (by simp; omega), List.getElem?_append_left (by simp; omega), List.getElem?_take, if_pos (by omega)]
    simp [List.getD, h]
  · rw [if_neg hik]
    rcases Nat.lt_or_ge i k with h1 | h1
    · rw [List.getElem?_append_left (by simp; omega), List.getElem?_append_left (by simp; omega), List.getElem?_take, List.getElem?_take, if_pos h1, if_pos (by omega)]
    · rw [List.getElem?_append_right (by simp; omega), List.getElem?_append_right (by simp; omega), List.getElem?_replicate, List.getElem?_replicate]
      simp only [List.length_take]
      congr 1
      rw [eq_iff_iff]
      omega
theorem prb_repl (n r : Nat) : prb (List.replicate n (0, 0, [])) r = (0, 0, []) := by
  unfold prb List.getD
  rw [List.getElem?_replicate]
  split <;> rfl
theorem info_prb : (Try.prog.info? 28).map (fun i => (i.zero, i.size, i.bytes)) = some (some (.agg #[.int .i64 0, .int .i64 0, .slice none 0 0]), 3, 40) := by kernel_rfl
theorem flat3_repl : ∀ (n : Nat) (p : Value × Value × Value), flat3 (List.replicate (n + 1) p) = p.1 :: p.2.1 :: p.2.2 :: flat3 (List.replicate n p) := fun n p => by rw [List.replicate_succ]; rfl
theorem madeQ_row (w : World) (lo len g : Nat) (hlo : lo ≤ g) (hg : g < w.heap.size) (h : w.ownsRow lo 28 3 (.slice (some ⟨g, 0, none⟩) len len) len (madeCells (Value.agg #[.int .i64 0, .int .i64 0, .slice none 0 0]).cells (len * 3)).toList) : OwnQ w lo w.heap.size (some ⟨g, 0, none⟩) len len (List.replicate len (0, 0, [])) := by
  refine ⟨by simp, fun p hp => by rw [List.eq_of_mem_replicate hp]; exact ⟨by decide, by decide⟩, Nat.le_refl _, fun x hx => by cases hx; exact ⟨hlo, hg⟩, fun _ => none, fun _ => 0, ?_, fun r hr => ⟨?_, fun x hx => by cases hx⟩⟩
  · have e : flat3 (headsQ (fun _ => none) (fun _ => 0) (List.replicate len (0, 0, []))) = (madeCells (Value.agg #[.int .i64 0, .int .i64 0, .slice none 0 0]).cells (len * 3)).toList := by
      have hc : (Value.agg #[.int .i64 0, .int .i64 0, .slice none 0 0]).cells = #[.int .i64 0, .int .i64 0, .slice none 0 0] := rfl
      rw [hc]
      have hh : headsQ (fun _ => none) (fun _ => 0) (List.replicate len (0, 0, [])) = List.replicate len (.int .i64 0, .int .i64 0, .slice none 0 0) := by
        apply List.ext_getElem?
        intro i
        by_cases hi : i < len
        · rw [headsQ_at (by simpa using hi), List.getElem?_replicate, if_pos hi]
          simp [headQ, prb_repl]
        · rw [List.getElem?_eq_none (by rw [headsQ_len]; simp; omega), List.getElem?_eq_none (by simp; omega)]
      rw [hh]
      apply List.ext_getElem?
      intro j
      by_cases hj : j < len * 3
      · have hk : j / 3 < len := by omega
        obtain ⟨f0, f1, f2⟩ := flat3_at (List.replicate len ((.int .i64 0, .int .i64 0, .slice none 0 0) : Value × Value × Value)) (j / 3) _ (by rw [List.getElem?_replicate, if_pos hk])
        have h3 : j % 3 = 0 ∨ j % 3 = 1 ∨ j % 3 = 2 := by omega
        rcases h3 with h3 | h3 | h3
        · rw [show j / 3 * 3 = j by omega] at f0
          rw [f0]
          simp [madeCells, hj, h3]
        · rw [show j / 3 * 3 + 1 = j by omega] at f1
          rw [f1]
          simp [madeCells, hj, h3]
        · rw [show j / 3 * 3 + 2 = j by omega] at f2
          rw [f2]
          simp [madeCells, hj, h3]
      · rw [List.getElem?_eq_none (by rw [flat3_len]; simp; omega), List.getElem?_eq_none (by simp [madeCells]; omega)]
    rw [e]
    exact h
  · rw [prb_repl]
    exact own_none0 _ _ _ _ (Nat.le_refl _)
/-- What a call leaves that makes a slice of probes. -/
def MadeQ (ps : List Prb) (w : World) (E : Ending) (w' : World) : Prop :=
  ∃ a len cap, E = .returned (.slice a len cap) ∧ OwnQ w' w.heap.size w'.heap.size a len cap ps ∧ Below w.heap.size w w'
/-- What a call leaves that makes a probe. -/
def MadePrb (p : Prb) (w : World) (E : Ending) (w' : World) : Prop :=
  ∃ a len cap, E = .returned (.agg #[.int .i64 p.1, .int .i64 p.2.1, .slice a len cap]) ∧ Own .i64 3 w' w.heap.size w'.heap.size a len cap p.2.2 ∧ Below w.heap.size w w'
theorem moved_set3 {lo hi : Nat} (w : World) (C o : Nat) (v : Value) (h1 : lo ≤ C) (h2 : C < hi) : Moved lo hi w (w.setCell ⟨C, o, none⟩ v) := Moved.of_grown (grown_setCell _ _ _ _) h1 h2
set_option maxRecDepth 20000 in
set_option maxHeartbeats 1600000 in
theorem toPrb_any (W : World) (x y : Int) (a : Option Addr) (len cap : Nat) (zs : List Int) (hl : len ≤ 1073741824) (hs : Sees .i64 W a len zs) :
    Calls Try.prog 46 #[.agg #[.int .i64 x, .int .i64 y, .slice a len cap]] W (MadePrb (x, y, zs) W) := by
  obtain ⟨V, hV⟩ : ∃ V, V = (((W.alloc (.cells #[.int .i64 x, .int .i64 y, .slice a len cap] 64)).alloc (.cells #[.int .i64 0, .int .i64 0, .slice none 0 0] 28)).alloc (.cells #[.int .i64 x, .int .i64 y, .slice none 0 0] 28)) := ⟨_, rfl⟩
  have hb0 : Below W.heap.size W V := by
    rw [hV]
    exact (((Below.refl _ _).alloc (Nat.le_refl _) _).alloc (by simp) _).alloc (by simp; omega) _
  have hz : V.heap.size = W.heap.size + 3 := by rw [hV]; simp
  have k1 : V.cell? ⟨W.heap.size + 1, 0, none⟩ = some (.int .i64 0) := by rw [hV]; go_simp
  have k2 : V.cell? ⟨W.heap.size + 1, 1, none⟩ = some (.int .i64 0) := by rw [hV]; go_simp
  have k3 : V.cell? ⟨W.heap.size + 1, 2, none⟩ = some (.slice none 0 0) := by rw [hV]; go_simp
  have k4 : V.cell? ⟨W.heap.size + 1 + 1, 0, none⟩ = some (.int .i64 x) := by rw [hV]; go_simp
  have k5 : V.cell? ⟨W.heap.size + 1 + 1, 1, none⟩ = some (.int .i64 y) := by rw [hV]; go_simp
  have k6 : V.cell? ⟨W.heap.size + 1 + 1, 2, none⟩ = some (.slice none 0 0) := by rw [hV]; go_simp
  have f1 : V.frozen? ⟨W.heap.size + 1, 0, none⟩ = false := by rw [hV]; go_simp
  have f2 : V.frozen? ⟨W.heap.size + 1, 1, none⟩ = false := by rw [hV]; go_simp
  have f3 : V.frozen? ⟨W.heap.size + 1, 2, none⟩ = false := by rw [hV]; go_simp
  have f6 : V.frozen? ⟨W.heap.size + 1 + 1, 2, none⟩ = false := by rw [hV]; go_simp
  have HS := Lib.hid (hs.below hb0)
  have HB0 := Lib.hid hb0
  clear hs hb0
  go_enter Try.func46, Try.ntmps46
  go_wp2_with fail
  rw [← hV]
  clear hV
  refine (toI_any V a len cap zs hl HS.out).mono ?_
  rintro e w1 ⟨a1, l1, c1, rfl, ho, hb⟩
  have HO := Lib.hid ho
  have HB1 := Lib.hid hb
  have g1 := (hb.cell (p := ⟨W.heap.size + 1, 0, none⟩) (by simp [hz])).trans k1
  have g2 := (hb.cell (p := ⟨W.heap.size + 1, 1, none⟩) (by simp [hz])).trans k2
  have g3 := (hb.cell (p := ⟨W.heap.size + 1, 2, none⟩) (by simp [hz])).trans k3
  have g4 := (hb.cell (p := ⟨W.heap.size + 1 + 1, 0, none⟩) (by simp [hz])).trans k4
  have g5 := (hb.cell (p := ⟨W.heap.size + 1 + 1, 1, none⟩) (by simp [hz])).trans k5
  have g6 := (hb.cell (p := ⟨W.heap.size + 1 + 1, 2, none⟩) (by simp [hz])).trans k6
  have e1 := (hb.frozen (p := ⟨W.heap.size + 1, 0, none⟩) (by simp [hz])).trans f1
  have e2 := (hb.frozen (p := ⟨W.heap.size + 1, 1, none⟩) (by simp [hz])).trans f2
  have e3 := (hb.frozen (p := ⟨W.heap.size + 1, 2, none⟩) (by simp [hz])).trans f3
  have e6 := (hb.frozen (p := ⟨W.heap.size + 1 + 1, 2, none⟩) (by simp [hz])).trans f6
  clear ho hb k1 k2 k3 k4 k5 k6 f1 f2 f3 f6
  go_wp2
  have hm : Moved W.heap.size V.heap.size w1 ((((w1.setCell ⟨W.heap.size + 1 + 1, 2, none⟩ (.slice a1 l1 c1)).setCell ⟨W.heap.size + 1, 0, none⟩ (.int .i64 x)).setCell ⟨W.heap.size + 1, 1, none⟩ (.int .i64 y)).setCell ⟨W.heap.size + 1, 2, none⟩ (.slice a1 l1 c1)) :=
    (((moved_set3 _ _ _ _ (by omega) (by omega)).trans (moved_set3 _ _ _ _ (by omega) (by omega))).trans (moved_set3 _ _ _ _ (by omega) (by omega))).trans (moved_set3 _ _ _ _ (by omega) (by omega))
  refine bodyPost_ret (v := .agg #[.int .i64 x, .int .i64 y, .slice a1 l1 c1]) (by simp [results, Try.results46, go_sem, g1, g2, g3]) rfl ⟨a1, l1, c1, rfl, ?_, ?_⟩
  · exact (HO.out.moved hm (.inr (Nat.le_refl _))).wide (by omega) hm.size (Nat.le_refl _)
  · exact below_moved (below_up HB0.out HB1.out (Nat.le_refl _)) hm (Nat.le_refl _) (Nat.le_refl _)
set_option maxRecDepth 20000 in
set_option maxHeartbeats 1600000 in
theorem toQ_any (W : World) (a : Option Addr) (len cap : Nat) (ps : List Prb) (hsm : SmallM (pathsOf ps)) (hs : SeesQ W a len ps) : Calls Try.prog 27 #[.slice a len cap] W (MadeQ ps W) := by
  have HS := Lib.hid hs
  have HL := Lib.hid hs.1
  have HM := Lib.hid hsm
  have hl : len ≤ 1048576 := by unfold SmallM at hsm; rw [pathsOf_len] at hsm; have := hs.1; omega
  clear hs hsm
  obtain ⟨i0, hi, hz0, hz1, hz2⟩ := info_parts info_prb
  go_enter Try.func27, Try.ntmps27
  go_wp2_with (at_make; refine wpList_make_full _ rfl _ _ 40 rfl W.heap.size 28 i0 (.agg #[.int .i64 0, .int .i64 0, .slice none 0 0]) 3 Try.underlying40 hi hz0 hz1 _ _ _ _ len rfl rfl rfl rfl (by rw [hz2]; omega) (by unfold maxLen; omega) (by simp) ?_; intro w1 hown1 hgrow1; have HB1 := Lib.hid ((Below.refl W.heap.size W).grown hgrow1 (Nat.le_refl _) (fun k e => by cases e)); have HO1 := Lib.hid (madeQ_row w1 W.heap.size len W.heap.size (Nat.le_refl _) (hown1.lt _ rfl).2 hown1); clear hown1 hgrow1)
  go_loopw [4] (fun i wr => ∃ k : Nat, k ≤ len ∧ i = .int .i64 k ∧ OwnQ wr W.heap.size wr.heap.size (some ⟨W.heap.size, 0, none⟩) len len (upToQ ps k) ∧ Below W.heap.size W wr) (fun i _ => len - (intOf i).toNat)
  case atStart => exact ⟨0, Nat.zero_le _, rfl, by rw [upToQ_zero, HL.out]; exact HO1.out, HB1.out⟩
  case round =>
    obtain ⟨k, hk, rfl, ho, hb⟩ := hrel
    have HO := Lib.hid ho
    have HB := Lib.hid hb
    by_cases hlt : k < len
    · obtain ⟨b, off, ar, cr, rfl, hbl, hc0, hc1, hc2, hle, hcm, hsr⟩ := HS.out.2.2 k hlt
      have hfit := HS.out.2.1 _ (prb_mem (ps := ps) (r := k) (by rw [HL.out]; exact hlt))
      have hw0 := (hb.cell (p := ⟨b, off + k * 3, none⟩) hbl).trans hc0
      have hw1 := (hb.cell (p := ⟨b, off + k * 3 + 1, none⟩) hbl).trans hc1
      have hw2 := (hb.cell (p := ⟨b, off + k * 3 + 2, none⟩) hbl).trans hc2
      obtain ⟨x, y, zs, hp⟩ : ∃ x y zs, prb ps k = (x, y, zs) := ⟨_, _, _, rfl⟩
      have hrl : zs.length ≤ 1073741824 := by
        have h := HM.out.row (r := k) (by rw [pathsOf_len, HL.out]; exact hlt)
        rw [pathsOf_row (by rw [HL.out]; exact hlt), hp] at h
        simp only at h
        omega
      rw [hp] at hw0 hw1 hw2 hsr hfit
      simp only at hw0 hw1 hw2 hsr hfit
      have HZ := Lib.hid hp
      have HF := Lib.hid hfit
      have HR : Hid (Sees .i64 wr ar zs.length zs) := Lib.hid (by
        refine ⟨hsr.1, hsr.2.1, ?_⟩
        rcases hsr.2.2 with h0 | ⟨b2, o2, ha2, hlt2, hc2⟩
        · exact .inl h0
        · exact .inr ⟨b2, o2, ha2, Nat.lt_of_lt_of_le hlt2 hb.size, fun j hj => (hb.cell (p := ⟨b2, o2 + j, none⟩) hlt2).trans (hc2 j hj)⟩)
      clear hc0 hc1 hc2 hsr hp hle hcm ho hb hfit
      go_wp2_with fail
      go_at_call 46
      refine (toPrb_any _ x y _ zs.length _ zs hrl HR.out).mono ?_
      rintro e w2 ⟨a2, l2, c2, rfl, ho2, hb2⟩
      obtain rfl : zs.length = l2 := ho2.1
      have HP := Lib.hid (HO.out.put (p := (x, y, zs)) (by have := HB.out.size; omega) hb2 HF.out ho2 k hlt)
      have HM2 := HO.out.below hb2
      obtain ⟨_, _, _, hin, A, C, hrow, _⟩ := HM2
      have hfz0 := hrow.frozenAt (k * 3)
      have hfz1 := hrow.frozenAt (k * 3 + 1)
      have hfz2 := hrow.frozenAt (k * 3 + 2)
      obtain ⟨q0, q1, q2⟩ := flat3_at _ k _ (headsQ_at (A := A) (C := C) (ps := upToQ ps k) (r := k) (by rw [upToQ_len _ (by rw [HL.out]; omega), HL.out]; exact hlt))
      have hd0 := (hrow.cellAt (k * 3) (by omega)).trans q0
      have hd1 := (hrow.cellAt (k * 3 + 1) (by omega)).trans q1
      have hd2 := (hrow.cellAt (k * 3 + 2) (by omega)).trans q2
      clear hrow hin ho2 hb2 q0 q1 q2
      go_wp2
      go_roundw
      case rel =>
        have hp := HP.out.1
        have hset := upToQ_set ps (k := k) (by rw [HL.out]; exact hlt)
        rw [HZ.out] at hset
        rw [hset] at hp
        exact ⟨k + 1, by omega, by go_num, by simpa [put3, World.setCell] using hp, below_moved HB.out HP.out.2 (Nat.le_refl _) (Nat.le_refl _)⟩
      case measure => simp [intOf]; omega
    · clear ho hb
      obtain rfl : k = len := by omega
      go_wp2
      go_ret
      have h := HO.out
      have e : upToQ ps k = ps := by rw [← HL.out]; exact upToQ_all ps
      rw [e] at h
      exact ⟨_, _, _, rfl, h, HB.out⟩
end Go.Proofs.Ytldeplmiggbonaa
