/- ProbeFor: in plain words, and the model's. -/
import Derived.Test.YtldeplmiggbonaaSlQo
import Derived.Test.YtldeplmiggbonaaRouM
namespace Go.Proofs.Ytldeplmiggbonaa
open Go.RowKit
noncomputable def probeV (n : Int) (ls : List (Int × Int)) (x y : Int) : Prb × Bool := if routeV n ls x y = [] then ((0, 0, []), false) else ((x, y, routeV n ls x y), true)
theorem probeV_no {n : Int} {ls : List (Int × Int)} {x y : Int} (h : (routeV n ls x y).length = 0) : probeV n ls x y = ((0, 0, []), false) := by
  unfold probeV
  rw [if_pos (List.eq_nil_of_length_eq_zero h)]
theorem probeV_yes {n : Int} {ls : List (Int × Int)} {x y : Int} (h : ¬ (routeV n ls x y).length = 0) : probeV n ls x y = ((x, y, routeV n ls x y), true) := by
  unfold probeV
  rw [if_neg (fun e => h (by rw [e]; rfl))]
/-- What a call leaves that makes a probe and says whether there is one. -/
def MadePB (q : Prb × Bool) (w : World) (E : Ending) (w' : World) : Prop :=
  ∃ a len cap, E = .returned (.tuple #[.agg #[.int .i64 q.1.1, .int .i64 q.1.2.1, .slice a len cap], .bool q.2]) ∧ Own .i64 3 w' w.heap.size w'.heap.size a len cap q.1.2.2 ∧ Below w.heap.size w w'
set_option maxRecDepth 20000 in
set_option maxHeartbeats 1600000 in
theorem specProbe_any (W : World) (n : Int) (a : Option Addr) (len cap : Nat) (ls : List (Int × Int)) (x y : Int) (hl : len ≤ 1073741824) (hs : SeesL W a len ls) :
    Calls Try.prog 9 #[.agg #[.int .i64 n, .slice a len cap], .int .i64 x, .int .i64 y] W (MadePB (probeV n ls x y) W) := by
  obtain ⟨V, hV⟩ : ∃ V, V = (W.alloc (.cells #[.int .i64 n, .slice a len cap] 33)).alloc (.cells #[.int .i64 0, .int .i64 0, .slice none 0 0] 28) := ⟨_, rfl⟩
  have hb0 : Below W.heap.size W V := by
    rw [hV]
    exact ((Below.refl _ _).alloc (Nat.le_refl _) _).alloc (by simp) _
  have hz : V.heap.size = W.heap.size + 2 := by rw [hV]; simp
  have n1 : V.cell? ⟨W.heap.size, 0, none⟩ = some (.int .i64 n) := by rw [hV]; go_simp
  have n2 : V.cell? ⟨W.heap.size, 1, none⟩ = some (.slice a len cap) := by rw [hV]; go_simp
  have k1 : V.cell? ⟨W.heap.size + 1, 0, none⟩ = some (.int .i64 0) := by rw [hV]; go_simp
  have k2 : V.cell? ⟨W.heap.size + 1, 1, none⟩ = some (.int .i64 0) := by rw [hV]; go_simp
  have k3 : V.cell? ⟨W.heap.size + 1, 2, none⟩ = some (.slice none 0 0) := by rw [hV]; go_simp
  have f1 : V.frozen? ⟨W.heap.size + 1, 0, none⟩ = false := by rw [hV]; go_simp
  have f2 : V.frozen? ⟨W.heap.size + 1, 1, none⟩ = false := by rw [hV]; go_simp
  have f3 : V.frozen? ⟨W.heap.size + 1, 2, none⟩ = false := by rw [hV]; go_simp
  have HS := Lib.hid (hs.below hb0)
  have HB0 := Lib.hid hb0
  clear hs hb0
  go_enter Try.func9, Try.ntmps9
  go_wp2_with fail
  rw [← hV]
  clear hV
  go_wp2_with fail
  refine (specRoute_any V n a len cap ls x y hl HS.out).mono ?_
  rintro e w1 ⟨a1, l1, c1, rfl, ho, hb⟩
  have HO := Lib.hid ho
  have HB1 := Lib.hid hb
  have HLN := Lib.hid ho.1
  have g1 := (hb.cell (p := ⟨W.heap.size + 1, 0, none⟩) (by simp [hz])).trans k1
  have g2 := (hb.cell (p := ⟨W.heap.size + 1, 1, none⟩) (by simp [hz])).trans k2
  have g3 := (hb.cell (p := ⟨W.heap.size + 1, 2, none⟩) (by simp [hz])).trans k3
  have e1 := (hb.frozen (p := ⟨W.heap.size + 1, 0, none⟩) (by simp [hz])).trans f1
  have e2 := (hb.frozen (p := ⟨W.heap.size + 1, 1, none⟩) (by simp [hz])).trans f2
  have e3 := (hb.frozen (p := ⟨W.heap.size + 1, 2, none⟩) (by simp [hz])).trans f3
  clear ho hb k1 k2 k3 f1 f2 f3 n1 n2
  by_cases h0 : l1 = 0
  · have HP := Lib.hid (probeV_no (HLN.out.trans h0))
    subst h0
    go_wp2
    rw [HP.out]
    have hm : Moved W.heap.size V.heap.size w1 (((w1.setCell ⟨W.heap.size + 1, 0, none⟩ (.int .i64 0)).setCell ⟨W.heap.size + 1, 1, none⟩ (.int .i64 0)).setCell ⟨W.heap.size + 1, 2, none⟩ (.slice none 0 0)) :=
      ((moved_set3 _ _ _ _ (by omega) (by omega)).trans (moved_set3 _ _ _ _ (by omega) (by omega))).trans (moved_set3 _ _ _ _ (by omega) (by omega))
    refine bodyPost_ret (v := .tuple #[.agg #[.int .i64 0, .int .i64 0, .slice none 0 0], .bool false]) (by simp [results, Try.results9, go_sem, g1, g2, g3]) rfl ⟨none, 0, 0, rfl, own_none0 _ _ _ _ (by simp), ?_⟩
    exact below_moved (below_up HB0.out HB1.out (Nat.le_refl _)) hm (Nat.le_refl _) (Nat.le_refl _)
  · have HP := Lib.hid (probeV_yes (n := n) (ls := ls) (x := x) (y := y) (by rw [HLN.out]; exact h0))
    have h0' : ¬ (l1 : Int) = 0 := by omega
    go_wp2
    rw [HP.out]
    have hm : Moved W.heap.size V.heap.size w1 (((w1.setCell ⟨W.heap.size + 1, 0, none⟩ (.int .i64 x)).setCell ⟨W.heap.size + 1, 1, none⟩ (.int .i64 y)).setCell ⟨W.heap.size + 1, 2, none⟩ (.slice a1 l1 c1)) :=
      ((moved_set3 _ _ _ _ (by omega) (by omega)).trans (moved_set3 _ _ _ _ (by omega) (by omega))).trans (moved_set3 _ _ _ _ (by omega) (by omega))
    refine bodyPost_ret (v := .tuple #[.agg #[.int .i64 x, .int .i64 y, .slice a1 l1 c1], .bool true]) (by simp [results, Try.results9, go_sem, g1, g2, g3]) rfl ⟨a1, l1, c1, rfl, ?_, ?_⟩
    · exact (HO.out.moved hm (.inr (Nat.le_refl _))).wide (by omega) hm.size (Nat.le_refl _)
    · exact below_moved (below_up HB0.out HB1.out (Nat.le_refl _)) hm (Nat.le_refl _) (Nat.le_refl _)
end Go.Proofs.Ytldeplmiggbonaa
