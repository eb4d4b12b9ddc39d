/- The program's ProbeFor. -/
import Derived.Test.YtjckcggjmcaaoaaPrbF
import Derived.Test.YtjckcggjmcaaoaaRouR
import Derived.Test.YtjckcggjmcaaoaaNetG
namespace Go.Proofs.Ytjckcggjmcaaoaa
open Go.RowKit
set_option maxRecDepth 20000 in
set_option maxHeartbeats 1600000 in
theorem probeP_any (W : World) (n : Int) (a : Option Addr) (len cap : Nat) (ls : List (Int × Int)) (x y : Int) (hl : len ≤ 1073741824) (hs : SeesL W a len ls) :
    Calls Try.prog 27 #[.agg #[.int .i64 n, .slice a len cap], .int .i64 x, .int .i64 y] W (MadePB (probeV n ls x y) W) := by
  obtain ⟨V, hV⟩ : ∃ V, V = (W.alloc (.cells #[.int .i64 n, .slice a len cap] 26)).alloc (.cells #[.int .i64 0, .int .i64 0, .slice none 0 0] 38) := ⟨_, rfl⟩
  have hb0 : Below W.heap.size W V := by
    rw [hV]
    exact ((Below.refl _ _).alloc (Nat.le_refl _) _).alloc (by simp) _
  have hz : V.heap.size = W.heap.size + 2 := by rw [hV]; simp
  have n1 : V.cell? ⟨W.heap.size, 0, none⟩ = some (.int .i64 n) := by rw [hV]; go_simp
  have n2 : V.cell? ⟨W.heap.size, 1, none⟩ = some (.slice a len cap) := by rw [hV]; go_simp
  have k1 : V.cell? ⟨W.heap.size + 1, 0, none⟩ = some (.int .i64 0) := by rw [hV]; go_simp
  have k2 : V.cell? ⟨W.heap.size + 1, 1, none⟩ = some (.int .i64 0) := by rw [hV]; go_simp
  have k3 : V.cell? ⟨W.heap.size + 1, 2, none⟩ = some (.slice none 0 0) := by rw [hV]; go_simp
  have f1 : V.frozen? ⟨W.heap.size + 1, 0, none⟩ = false := by rw [hV]; go_simp
  have f2 : V.frozen? ⟨W.heap.size + 1, 1, none⟩ = false := by rw [hV]; go_simp
  have f3 : V.frozen? ⟨W.heap.size + 1, 2, none⟩ = false := by rw [hV]; go_simp
  have HS := Lib.hid (hs.below hb0)
  have HB0 := Lib.hid hb0
  clear hs hb0
  go_enter Try.func27, Try.ntmps27
  go_wp2_with fail
  rw [← hV]
  clear hV
  go_wp2_with fail
  refine (routeP_any V n a len cap ls x y hl HS.out).mono ?_
  rintro e w1 ⟨a1, l1, c1, rfl, ho, hb⟩
  have HO := Lib.hid ho
  have HB1 := Lib.hid hb
  have HLN := Lib.hid ho.1
  have g1 := (hb.cell (p := ⟨W.heap.size + 1, 0, none⟩) (by simp [hz])).trans k1
  have g2 := (hb.cell (p := ⟨W.heap.size + 1, 1, none⟩) (by simp [hz])).trans k2
  have g3 := (hb.cell (p := ⟨W.heap.size + 1, 2, none⟩) (by simp [hz])).trans k3
  have e1 := (hb.frozen (p := ⟨W.heap.size + 1, 0, none⟩) (by simp [hz])).trans f1
  have e2 := (hb.frozen (p := ⟨W.heap.size + 1, 1, none⟩) (by simp [hz])).trans f2
  have e3 := (hb.frozen (p := ⟨W.heap.size + 1, 2, none⟩) (by simp [hz])).trans f3
  clear ho hb k1 k2 k3 f1 f2 f3 n1 n2
  by_cases h0 : l1 = 0
  · have HP := Lib.hid (probeV_no (HLN.out.trans h0))
    subst h0
    go_wp2
    rw [HP.out]
    have hm : Moved W.heap.size V.heap.size w1 (((w1.setCell ⟨W.heap.size + 1, 0, none⟩ (.int .i64 0)).setCell ⟨W.heap.size + 1, 1, none⟩ (.int .i64 0)).setCell ⟨W.heap.size + 1, 2, none⟩ (.slice none 0 0)) :=
      ((moved_set3 _ _ _ _ (by omega) (by omega)).trans (moved_set3 _ _ _ _ (by omega) (by omega))).trans (moved_set3 _ _ _ _ (by omega) (by omega))
    refine bodyPost_ret (v := .tuple #[.agg #[.int .i64 0, .int .i64 0, .slice none 0 0], .bool false]) (by simp [results, Try.results27, go_sem, g1, g2, g3]) rfl ⟨none, 0, 0, rfl, own_none0 _ _ _ _ (by simp), ?_⟩
    exact below_moved (below_up HB0.out HB1.out (Nat.le_refl _)) hm (Nat.le_refl _) (Nat.le_refl _)
  · have HP := Lib.hid (probeV_yes (n := n) (ls := ls) (x := x) (y := y) (by rw [HLN.out]; exact h0))
    have h0' : ¬ (l1 : Int) = 0 := by omega
    go_wp2
    rw [HP.out]
    have hm : Moved W.heap.size V.heap.size w1 (((w1.setCell ⟨W.heap.size + 1, 0, none⟩ (.int .i64 x)).setCell ⟨W.heap.size + 1, 1, none⟩ (.int .i64 y)).setCell ⟨W.heap.size + 1, 2, none⟩ (.slice a1 l1 c1)) :=
      ((moved_set3 _ _ _ _ (by omega) (by omega)).trans (moved_set3 _ _ _ _ (by omega) (by omega))).trans (moved_set3 _ _ _ _ (by omega) (by omega))
    refine bodyPost_ret (v := .tuple #[.agg #[.int .i64 x, .int .i64 y, .slice a1 l1 c1], .bool true]) (by simp [results, Try.results27, go_sem, g1, g2, g3]) rfl ⟨a1, l1, c1, rfl, ?_, ?_⟩
    · exact (HO.out.moved hm (.inr (Nat.le_refl _))).wide (by omega) hm.size (Nat.le_refl _)
    · exact below_moved (below_up HB0.out HB1.out (Nat.le_refl _)) hm (Nat.le_refl _) (Nat.le_refl _)
/-- Block B holds a probe. -/
structure PrbAt (w : World) (B : Nat) (x y : Int) (a : Option Addr) (len cap : Nat) : Prop where
  c0 : w.cell? ⟨B, 0, none⟩ = some (.int .i64 x)
  c1 : w.cell? ⟨B, 1, none⟩ = some (.int .i64 y)
  c2 : w.cell? ⟨B, 2, none⟩ = some (.slice a len cap)
  lt : B < w.heap.size
theorem prb_new (w : World) (x y : Int) (a : Option Addr) (len cap : Nat) (t : TypeId) : PrbAt (w.alloc (.cells #[.int .i64 x, .int .i64 y, .slice a len cap] t)) w.heap.size x y a len cap :=
  ⟨by go_simp, by go_simp, by go_simp, by simp⟩
theorem PrbAt.below {w w' : World} {B : Nat} {x y : Int} {a : Option Addr} {len cap : Nat} (h : PrbAt w B x y a len cap) (hb : Below w.heap.size w w') : PrbAt w' B x y a len cap :=
  ⟨(hb.cell (p := ⟨B, 0, none⟩) h.lt).trans h.c0, (hb.cell (p := ⟨B, 1, none⟩) h.lt).trans h.c1, (hb.cell (p := ⟨B, 2, none⟩) h.lt).trans h.c2, Nat.lt_of_lt_of_le h.lt hb.size⟩
theorem PrbAt.moved {w w' : World} {B lo hi : Nat} {x y : Int} {a : Option Addr} {len cap : Nat} (h : PrbAt w B x y a len cap) (hm : Moved lo hi w w') (ho : B < lo ∨ hi ≤ B) : PrbAt w' B x y a len cap := by
  have hb := hm.block B h.lt (by omega)
  exact ⟨(World.cell?_of_block (a := ⟨B, 0, none⟩) hb).trans h.c0, (World.cell?_of_block (a := ⟨B, 1, none⟩) hb).trans h.c1, (World.cell?_of_block (a := ⟨B, 2, none⟩) hb).trans h.c2, Nat.lt_of_lt_of_le h.lt hm.size⟩
theorem probe_len (n : Int) (ls : List (Int × Int)) (x y : Int) : (probeV n ls x y).1.2.2.length ≤ 8 := by
  unfold probeV
  split
  · simp
  · have := route_len n ls x y
    simp only
    omega
/-- What a call leaves that makes this probe, or none. -/
def MadePX (px py : Int) (pl : Nat) (pzs : List Int) (pt : Bool) (w : World) (E : Ending) (w' : World) : Prop :=
  ∃ a cap, E = .returned (.tuple #[.agg #[.int .i64 px, .int .i64 py, .slice a pl cap], .bool pt]) ∧ Own .i64 3 w' w.heap.size w'.heap.size a pl cap pzs ∧ Below w.heap.size w w'
theorem madePX {q : Prb × Bool} {px py : Int} {pl : Nat} {pzs : List Int} {pt : Bool} {w w' : World} {E : Ending} (hq : q = ((px, py, pzs), pt)) (hz : pzs.length = pl) (h : MadePB q w E w') : MadePX px py pl pzs pt w E w' := by
  subst hq
  obtain ⟨a, len, cap, he, ho, hb⟩ := h
  obtain rfl : pl = len := hz.symm.trans ho.1
  exact ⟨a, cap, he, ho, hb⟩
theorem probePX (W : World) (n : Int) (a : Option Addr) (len cap : Nat) (ls : List (Int × Int)) (x y px py : Int) (pl : Nat) (pzs : List Int) (pt : Bool) (hl : len ≤ 1048576) (hs : SeesL W a len ls) (hq : probeV n ls x y = ((px, py, pzs), pt)) (hz : pzs.length = pl) :
    Calls Try.prog 27 #[.agg #[.int .i64 n, .slice a len cap], .int .i64 x, .int .i64 y] W (MadePX px py pl pzs pt W) :=
  (probeP_any W n a len cap ls x y (Nat.le_trans hl (by decide)) hs).mono fun _ _ h => madePX hq hz h
end Go.Proofs.Ytjckcggjmcaaoaa
