/- What the laws do to networks: copy, measure, compare, mark. -/
import Derived.Test.YtbjjgcfmdlinaaaNetV
import Derived.Test.YtbjjgcfmdlinaaaPair
namespace Go.Proofs.Ytbjjgcfmdlinaaa
open Go.RowKit
theorem below_drop {w w' : World} (h : Below w.drew.heap.size w.drew w') : Below w.heap.size w w' := ⟨h.os, h.tape, h.output, h.size, h.block⟩
theorem NetAt.moved {w w' : World} {B lo hi : Nat} {n : Int} {a : Option Addr} {len cap : Nat} (h : NetAt w B n a len cap) (hm : Moved lo hi w w') (ho : B + 1 ≤ lo ∨ hi ≤ B) : NetAt w' B n a len cap :=
  ⟨(World.cell?_of_block (w := w) (a := ⟨B, 0, none⟩) (hm.block B h.lt (by omega))).trans h.c0, (World.cell?_of_block (w := w) (a := ⟨B, 1, none⟩) (hm.block B h.lt (by omega))).trans h.c1, Nat.lt_of_lt_of_le h.lt hm.size⟩
theorem moved_set {lo hi : Nat} (w : World) (C o : Nat) (v : Value) (h1 : lo ≤ C) (h2 : C < hi) : Moved lo hi w (w.setCell ⟨C, o, none⟩ v) := Moved.of_grown (grown_setCell _ _ _ _) h1 h2
/-- What a call leaves that copies a network. -/
def MadeNet (n : Int) (ls : List (Int × Int)) (w : World) (E : Ending) (w' : World) : Prop :=
  ∃ a len cap, E = .returned (.agg #[.int .i64 n, .slice a len cap]) ∧ OwnL w' w.heap.size w'.heap.size a len cap ls ∧ Below w.heap.size w w'
set_option maxRecDepth 20000 in
set_option maxHeartbeats 1600000 in
theorem toNet_any (W : World) (n : Int) (a : Option Addr) (len cap : Nat) (ls : List (Int × Int)) (hl : len ≤ 1073741824) (hs : SeesL W a len ls) :
    Calls Try.prog 30 #[.agg #[.int .i64 n, .slice a len cap]] W (MadeNet n ls W) := by
  obtain ⟨V, hV⟩ : ∃ V, V = (((W.alloc (.cells #[.int .i64 n, .slice a len cap] 52)).alloc (.cells #[.int .i64 0, .slice none 0 0] 26)).alloc (.cells #[.int .i64 n, .slice none 0 0] 26)) := ⟨_, rfl⟩
  have hb0 : Below W.heap.size W V := by
    rw [hV]
    exact (((Below.refl _ _).alloc (Nat.le_refl _) _).alloc (by simp) _).alloc (by simp; omega) _
  have hz : V.heap.size = W.heap.size + 3 := by rw [hV]; simp
  have k0 : V.cell? ⟨W.heap.size, 1, none⟩ = some (.slice a len cap) := by rw [hV]; go_simp
  have k1 : V.cell? ⟨W.heap.size + 1, 0, none⟩ = some (.int .i64 0) := by rw [hV]; go_simp
  have k2 : V.cell? ⟨W.heap.size + 1, 1, none⟩ = some (.slice none 0 0) := by rw [hV]; go_simp
  have k3 : V.cell? ⟨W.heap.size + 1 + 1, 0, none⟩ = some (.int .i64 n) := by rw [hV]; go_simp
  have k4 : V.cell? ⟨W.heap.size + 1 + 1, 1, none⟩ = some (.slice none 0 0) := by rw [hV]; go_simp
  have f1 : V.frozen? ⟨W.heap.size + 1, 0, none⟩ = false := by rw [hV]; go_simp
  have f2 : V.frozen? ⟨W.heap.size + 1, 1, none⟩ = false := by rw [hV]; go_simp
  have f4 : V.frozen? ⟨W.heap.size + 1 + 1, 1, none⟩ = false := by rw [hV]; go_simp
  have HS := Lib.hid (hs.below hb0)
  have HB0 := Lib.hid hb0
  clear hs hb0
  go_enter Try.func30, Try.ntmps30
  go_wp2_with fail
  rw [← hV]
  clear hV
  refine (toL_any V a len cap ls hl HS.out).mono ?_
  rintro e w1 ⟨a1, l1, c1, rfl, ho, hb⟩
  have HO := Lib.hid ho
  have HB1 := Lib.hid hb
  have g1 := (hb.cell (p := ⟨W.heap.size + 1, 0, none⟩) (by simp [hz])).trans k1
  have g2 := (hb.cell (p := ⟨W.heap.size + 1, 1, none⟩) (by simp [hz])).trans k2
  have g3 := (hb.cell (p := ⟨W.heap.size + 1 + 1, 0, none⟩) (by simp [hz])).trans k3
  have g4 := (hb.cell (p := ⟨W.heap.size + 1 + 1, 1, none⟩) (by simp [hz])).trans k4
  have e1 := (hb.frozen (p := ⟨W.heap.size + 1, 0, none⟩) (by simp [hz])).trans f1
  have e2 := (hb.frozen (p := ⟨W.heap.size + 1, 1, none⟩) (by simp [hz])).trans f2
  have e4 := (hb.frozen (p := ⟨W.heap.size + 1 + 1, 1, none⟩) (by simp [hz])).trans f4
  clear ho hb k0 k1 k2 k3 k4 f1 f2 f4
  go_wp2
  refine bodyPost_ret (v := .agg #[.int .i64 n, .slice a1 l1 c1]) (by simp [results, Try.results30, go_sem, g1, g2]) rfl ⟨a1, l1, c1, rfl, ?_, ?_⟩
  · have hm : Moved W.heap.size V.heap.size w1 (((w1.setCell ⟨W.heap.size + 1 + 1, 1, none⟩ (.slice a1 l1 c1)).setCell ⟨W.heap.size + 1, 0, none⟩ (.int .i64 n)).setCell ⟨W.heap.size + 1, 1, none⟩ (.slice a1 l1 c1)) :=
      ((moved_set _ _ _ _ (by omega) (by omega)).trans (moved_set _ _ _ _ (by omega) (by omega))).trans (moved_set _ _ _ _ (by omega) (by omega))
    exact (HO.out.moved hm (.inr (Nat.le_refl _))).wide (by omega) hm.size (Nat.le_refl _)
  · have hm : Moved W.heap.size V.heap.size w1 (((w1.setCell ⟨W.heap.size + 1 + 1, 1, none⟩ (.slice a1 l1 c1)).setCell ⟨W.heap.size + 1, 0, none⟩ (.int .i64 n)).setCell ⟨W.heap.size + 1, 1, none⟩ (.slice a1 l1 c1)) :=
      ((moved_set _ _ _ _ (by omega) (by omega)).trans (moved_set _ _ _ _ (by omega) (by omega))).trans (moved_set _ _ _ _ (by omega) (by omega))
    exact below_moved (below_up HB0.out HB1.out (Nat.le_refl _)) hm (Nat.le_refl _) (Nat.le_refl _)
theorem szNet_any (W : World) (n : Int) (a : Option Addr) (len cap : Nat) (left v : Int) (hl : len ≤ maxLen) (h0 : 0 ≤ left) (h1 : left ≤ 1048576) (hv : v = if left < (len : Int) then -1 else left - (len : Int)) :
    Calls Try.prog 28 #[.agg #[.int .i64 n, .slice a len cap], .int .i64 left] W fun e w' => e = .returned (.int .i64 v) ∧ Below W.heap.size W w' := by
  have HV := Lib.hid hv
  by_cases h : left < (len : Int)
  · have h2 : v = -1 := by rw [hv, if_pos h]
    subst h2
    clear hv h
    go_enter Try.func28, Try.ntmps28
    go_wp2_with (go_at_call 32; refine (szL_any _ a len cap left (-1) hl h0 h1 HV.out).mono ?_; rintro e w' ⟨rfl, rfl⟩)
    go_ret
    exact ⟨rfl, below_new _ _⟩
  · have h2 : ¬ v < 0 := by rw [hv, if_neg h]; omega
    clear hv h
    go_enter Try.func28, Try.ntmps28
    go_wp2_with (go_at_call 32; refine (szL_any _ a len cap left v hl h0 h1 HV.out).mono ?_; rintro e w' ⟨rfl, rfl⟩)
    go_ret
    exact ⟨rfl, below_new _ _⟩
theorem eqNet_yes (W : World) (n : Int) (a b : Option Addr) (len capa capb : Nat) (ls : List (Int × Int)) (hl : len ≤ 1073741824) (ha : SeesL W a len ls) (hb : SeesL W b len ls) :
    Calls Try.prog 31 #[.agg #[.int .i64 n, .slice a len capa], .agg #[.int .i64 n, .slice b len capb]] W fun e w' => e = .returned (.bool true) ∧ Below W.heap.size W w' := by
  have hbV : Below W.heap.size W ((W.alloc (.cells #[.int .i64 n, .slice a len capa] 26)).alloc (.cells #[.int .i64 n, .slice b len capb] 26)) := ((Below.refl _ _).alloc (Nat.le_refl _) _).alloc (by simp) _
  have HA := Lib.hid (ha.below hbV)
  have HZ := Lib.hid (hb.below hbV)
  have HBV := Lib.hid hbV
  clear ha hb hbV
  go_enter Try.func31, Try.ntmps31
  go_wp2_with (go_at_call 23; refine (eqL_yes _ a b len capa capb ls hl HA.out HZ.out).mono ?_; rintro e w2 ⟨rfl, hb2⟩; have HB2 := Lib.hid (below_up HBV.out hb2 (Nat.le_refl _)); clear hb2)
  go_ret
  exact ⟨rfl, HB2.out⟩
end Go.Proofs.Ytbjjgcfmdlinaaa
