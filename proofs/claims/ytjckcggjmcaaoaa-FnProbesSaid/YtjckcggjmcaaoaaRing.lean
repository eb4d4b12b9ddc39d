/- The program's queue of nodes. -/
import Derived.Test.YtjckcggjmcaaoaaRouA
import Derived.Deep.QuietTactic
import Derived.StillTailTactics
namespace Go.Proofs.Ytjckcggjmcaaoaa
open Go.RowKit
/-- Block B holds the queue Q: eight places, where it begins, how many wait. -/
structure RingIn (w : World) (B : Nat) (Q ps : List Int) (f : Nat) : Prop where
  lt : B < w.heap.size
  len : ps.length = 8
  pl : ∀ j, j < 8 → w.cell? ⟨B, j, none⟩ = some (.int .i64 (ps.getD j 0))
  cf : w.cell? ⟨B, 8, none⟩ = some (.int .i64 f)
  cc : w.cell? ⟨B, 9, none⟩ = some (.int .i64 Q.length)
  fz : ∀ j, w.frozen? ⟨B, j, none⟩ = false
  f8 : f < 8
  q8 : Q.length ≤ 8
  at_ : ∀ i, i < Q.length → ps.getD ((f + i) % 8) 0 = Q.getD i 0
def RingAt (w : World) (B : Nat) (Q : List Int) : Prop := ∃ ps f, RingIn w B Q ps f
theorem RingIn.kept {w w' : World} {B : Nat} {Q ps : List Int} {f : Nat} (h : RingIn w B Q ps f) (hb : w'.heap[B]? = w.heap[B]?) (hs : w.heap.size ≤ w'.heap.size) : RingIn w' B Q ps f :=
  ⟨Nat.lt_of_lt_of_le h.lt hs, h.len, fun j hj => (World.cell?_of_block (w := w) (a := ⟨B, j, none⟩) hb).trans (h.pl j hj), (World.cell?_of_block (w := w) (a := ⟨B, 8, none⟩) hb).trans h.cf, (World.cell?_of_block (w := w) (a := ⟨B, 9, none⟩) hb).trans h.cc,
    fun j => (World.frozen?_of_block (w := w) (a := ⟨B, j, none⟩) hb).trans (h.fz j), h.f8, h.q8, h.at_⟩
theorem RingAt.below {w w' : World} {B : Nat} {Q : List Int} (h : RingAt w B Q) (hb : Below w.heap.size w w') : RingAt w' B Q := by
  obtain ⟨ps, f, h⟩ := h
  exact ⟨ps, f, h.kept (hb.block B h.lt) hb.size⟩
theorem RingAt.off {w w' : World} {B x : Nat} {Q : List Int} (h : RingAt w B Q) (hm : Moved x (x + 1) w w') (hne : B ≠ x) : RingAt w' B Q := by
  obtain ⟨ps, f, h⟩ := h
  exact ⟨ps, f, h.kept (hm.block B h.lt (by omega)) hm.size⟩
theorem RingAt.grown {w w' : World} {B x : Nat} {Q : List Int} (h : RingAt w B Q) (hg : w.grownBy w' (some x)) (hne : B ≠ x) : RingAt w' B Q := by
  obtain ⟨ps, f, h⟩ := h
  exact ⟨ps, f, h.kept (hg.block B h.lt (by simpa using hne)) hg.size⟩
theorem set_other (w : World) {B o o2 : Nat} (v : Value) (h : o ≠ o2) : (w.setCell ⟨B, o, none⟩ v).cell? ⟨B, o2, none⟩ = w.cell? ⟨B, o2, none⟩ := World.cell?_setCell_other w _ _ _ (fun e => h (congrArg Addr.off e))
theorem set_same (w : World) {B o : Nat} {u v : Value} (h : w.cell? ⟨B, o, none⟩ = some u) : (w.setCell ⟨B, o, none⟩ v).cell? ⟨B, o, none⟩ = some v := World.cell?_setCell_same w _ _ h
theorem moved_blk (B o : Nat) (w : World) (v : Value) : Moved B (B + 1) w (w.setCell ⟨B, o, none⟩ v) := Moved.of_grown (grown_setCell _ _ _ _) (Nat.le_refl _) (Nat.lt_succ_self _)
set_option maxRecDepth 20000 in
set_option maxHeartbeats 1600000 in
theorem add_any (W : World) (B : Nat) (Q : List Int) (v : Int) (hr : RingAt W B Q) (hq : Q.length < 8) :
    Calls Try.prog 69 #[.pointer (some ⟨B, 0, none⟩), .int .i64 v] W fun e w' => e = .returned (.tuple #[]) ∧ RingAt w' B (Q ++ [v]) ∧ Moved B (B + 1) W w' := by
  obtain ⟨ps, f, hr⟩ := hr
  obtain ⟨q, hql⟩ : ∃ q, Q.length = q := ⟨_, rfl⟩
  have h8 := hr.cf
  have h9 := hr.cc
  rw [hql] at h9 hq
  have hf8 := hr.f8
  obtain ⟨x, hx⟩ : ∃ x, (f + q) % 8 = x := ⟨_, rfl⟩
  have hx8 : x < 8 := by omega
  have hcx := hr.pl x hx8
  have fx := hr.fz x
  have f9 := hr.fz 9
  have HR := Lib.hid hr
  have i0x : (0 : Int) ≤ (x : Int) := by omega
  have i1x : (x : Int) < 8 := by omega
  have e2 : ((f : Int) + (q : Int)).tmod 8 = (x : Int) := by rw [Int.tmod_eq_emod_of_nonneg (by omega)]; omega
  have e1 : IntKind.i64.wrap ((f : Int) + (q : Int)) = (f : Int) + (q : Int) := IntWalk.i64_in _ (by omega)
  have e3 : IntKind.i64.wrap (x : Int) = (x : Int) := IntWalk.i64_in _ (by omega)
  have HX := Lib.hid hx
  have HQ := Lib.hid hql
  clear hr hx hql
  go_enter Try.func69, Try.ntmps69
  go_wp2_with fail
  go_still_tail 15, (by kernel_rfl)
  change wpList _ _ _ _ _ W.drew
  go_wp2
  refine bodyPost_end (results_none rfl _ _ _) rfl ⟨rfl, ⟨ps.set x v, f, ?_⟩, ?_⟩
  · have hR := HR.out
    have hsz : (((W.setCell ⟨B, x, none⟩ (.int .i64 v)).setCell ⟨B, 9, none⟩ (.int .i64 ((q : Int) + 1))).drew).heap.size = W.heap.size := by simp [World.setCell]
    refine ⟨by rw [hsz]; exact hR.lt, by simp [hR.len], fun j hj => ?_, ?_, ?_, fun j => ?_, hf8, by simp [HQ.out]; omega, fun i hi => ?_⟩
    · show ((W.setCell ⟨B, x, none⟩ (.int .i64 v)).setCell ⟨B, 9, none⟩ (.int .i64 ((q : Int) + 1))).cell? ⟨B, j, none⟩ = _
      rw [set_other _ _ (by omega)]
      by_cases e : j = x
      · subst e
        rw [set_same _ (hR.pl j hj), getD_set_eq (by rw [hR.len]; exact hj)]
      · rw [set_other _ _ (by omega), getD_set_ne e]
        exact hR.pl j hj
    · show ((W.setCell ⟨B, x, none⟩ (.int .i64 v)).setCell ⟨B, 9, none⟩ (.int .i64 ((q : Int) + 1))).cell? ⟨B, 8, none⟩ = _
      rw [set_other _ _ (by omega), set_other _ _ (by omega)]
      exact hR.cf
    · show ((W.setCell ⟨B, x, none⟩ (.int .i64 v)).setCell ⟨B, 9, none⟩ (.int .i64 ((q : Int) + 1))).cell? ⟨B, 9, none⟩ = _
      rw [set_same _ (u := .int .i64 q) (by rw [set_other _ _ (by omega)]; have h := hR.cc; rw [HQ.out] at h; exact h)]
      simp [HQ.out]
    · show ((W.setCell ⟨B, x, none⟩ (.int .i64 v)).setCell ⟨B, 9, none⟩ (.int .i64 ((q : Int) + 1))).frozen? ⟨B, j, none⟩ = _
      simp only [World.frozen?_setCell]
      exact hR.fz j
    · rw [List.length_append, HQ.out] at hi
      simp only [List.length_cons, List.length_nil] at hi
      have hx := HX.out
      by_cases e : i = q
      · subst e
        rw [hx, getD_set_eq (by rw [hR.len]; exact hx8)]
        simp [List.getD, HQ.out]
      · rw [getD_set_ne (by omega), hR.at_ i (by rw [HQ.out]; omega)]
        have : i < Q.length := by rw [HQ.out]; omega
        simp [List.getD, List.getElem?_append_left this]
  · exact ((moved_blk _ _ _ _).trans (moved_blk _ _ _ _)).trans (Moved.drewN _ _ _ 1)
set_option maxRecDepth 20000 in
set_option maxHeartbeats 1600000 in
theorem take_any (W : World) (B : Nat) (Q : List Int) (v : Int) (hr : RingAt W B (v :: Q)) :
    Calls Try.prog 70 #[.pointer (some ⟨B, 0, none⟩)] W fun e w' => e = .returned (.int .i64 v) ∧ RingAt w' B Q ∧ Moved B (B + 1) W w' := by
  obtain ⟨ps, f, hr⟩ := hr
  obtain ⟨q, hql⟩ : ∃ q, Q.length = q := ⟨_, rfl⟩
  have h8 := hr.cf
  have h9 := hr.cc
  have hq8 := hr.q8
  rw [List.length_cons, hql] at h9 hq8
  have hf8 := hr.f8
  have hv : ps.getD f 0 = v := by
    have h := hr.at_ 0 (by simp)
    rw [Nat.add_zero, Nat.mod_eq_of_lt hf8] at h
    rw [h]; rfl
  have hcx := hr.pl f hf8
  rw [hv] at hcx
  have f8' := hr.fz 8
  have f9 := hr.fz 9
  obtain ⟨x, hx⟩ : ∃ x, (f + 1) % 8 = x := ⟨_, rfl⟩
  have hx8 : x < 8 := by omega
  have HR := Lib.hid hr
  have i0f : (0 : Int) ≤ (f : Int) := by omega
  have i1f : (f : Int) < 8 := by omega
  have e2 : ((f : Int) + 1).tmod 8 = (x : Int) := by rw [Int.tmod_eq_emod_of_nonneg (by omega)]; omega
  have e1 : IntKind.i64.wrap ((f : Int) + 1) = (f : Int) + 1 := IntWalk.i64_in _ (by omega)
  have e3 : IntKind.i64.wrap (x : Int) = (x : Int) := IntWalk.i64_in _ (by omega)
  have e4 : ((q + 1 : Nat) : Int) = (q : Int) + 1 := by omega
  rw [e4] at h9
  have HX := Lib.hid hx
  have HQ := Lib.hid hql
  have HV := Lib.hid hv
  clear hr hx hql e4 hv
  go_enter Try.func70, Try.ntmps70
  go_wp2_with fail
  go_quiet (fail)
  go_wp2
  go_ret
  refine ⟨rfl, ⟨ps, x, ?_⟩, ?_⟩
  · have hR := HR.out
    have hsz : (((W.drewN nq).setCell ⟨B, 8, none⟩ (.int .i64 (x : Int))).setCell ⟨B, 9, none⟩ (.int .i64 (q : Int))).heap.size = W.heap.size := by simp [World.setCell, World.drewN]
    have ec : ∀ j, (W.drewN nq).cell? ⟨B, j, none⟩ = W.cell? ⟨B, j, none⟩ := fun j => rfl
    refine ⟨by rw [hsz]; exact hR.lt, hR.len, fun j hj => ?_, ?_, ?_, fun j => ?_, hx8, by have h := hR.q8; simp at h; omega, fun i hi => ?_⟩
    · rw [set_other _ _ (by omega), set_other _ _ (by omega)]
      exact hR.pl j hj
    · rw [set_other _ _ (by omega), set_same (W.drewN nq) (u := .int .i64 f) hR.cf]
    · rw [set_same _ (u := .int .i64 ((v :: Q).length : Int)) (by rw [set_other _ _ (by omega)]; exact hR.cc), HQ.out]
    · simp only [World.frozen?_setCell]
      exact hR.fz j
    · have h := hR.at_ (i + 1) (by simp; exact hi)
      have hx := HX.out
      have e : (x + i) % 8 = (f + (i + 1)) % 8 := by omega
      rw [e, h]
      rfl
  · exact (Moved.drewN _ _ _ nq).trans ((moved_blk _ _ _ _).trans (moved_blk _ _ _ _))
end Go.Proofs.Ytjckcggjmcaaoaa
