/- Branches in memory, and what the laws do to them: copy, measure, compare, mark. -/
import Derived.Test.YtgninjdnfidpcaaSlA
import Derived.Test.YtgninjdnfidpcaaPair
import Derived.Test.YtgninjdnfidpcaaIntW
namespace Go.Proofs.Ytgninjdnfidpcaa
open Go.RowKit
/-- Block B holds a branch's node and its slice of nodes behind it. -/
structure BrAt (w : World) (B : Nat) (n : Int) (a : Option Addr) (len cap : Nat) : Prop where
  c0 : w.cell? ⟨B, 0, none⟩ = some (.int .i64 n)
  c1 : w.cell? ⟨B, 1, none⟩ = some (.slice a len cap)
  lt : B < w.heap.size
theorem br_new (w : World) (n : Int) (a : Option Addr) (len cap : Nat) (t : TypeId) : BrAt (w.alloc (.cells #[.int .i64 n, .slice a len cap] t)) w.heap.size n a len cap :=
  ⟨by go_simp, by go_simp, by simp⟩
theorem BrAt.below {w w' : World} {B : Nat} {n : Int} {a : Option Addr} {len cap : Nat} (h : BrAt w B n a len cap) (hb : Below w.heap.size w w') : BrAt w' B n a len cap :=
  ⟨(hb.cell (p := ⟨B, 0, none⟩) h.lt).trans h.c0, (hb.cell (p := ⟨B, 1, none⟩) h.lt).trans h.c1, Nat.lt_of_lt_of_le h.lt hb.size⟩
theorem BrAt.up {w w' : World} {C B : Nat} {n : Int} {a : Option Addr} {len cap : Nat} (h : BrAt w B n a len cap) (hb : Below C w w') (hC : B < C) : BrAt w' B n a len cap :=
  ⟨(hb.cell (p := ⟨B, 0, none⟩) hC).trans h.c0, (hb.cell (p := ⟨B, 1, none⟩) hC).trans h.c1, Nat.lt_of_lt_of_le h.lt hb.size⟩
theorem below_newB (W : World) (o : Obj) : Below W.heap.size W (W.alloc o) := (Below.refl _ _).alloc (Nat.le_refl _) _
theorem below_dropB {w w' : World} (h : Below w.drew.heap.size w.drew w') : Below w.heap.size w w' := ⟨h.os, h.tape, h.output, h.size, h.block⟩
theorem BrAt.moved {w w' : World} {B lo hi : Nat} {n : Int} {a : Option Addr} {len cap : Nat} (h : BrAt w B n a len cap) (hm : Moved lo hi w w') (ho : B + 1 ≤ lo ∨ hi ≤ B) : BrAt w' B n a len cap :=
  ⟨(World.cell?_of_block (w := w) (a := ⟨B, 0, none⟩) (hm.block B h.lt (by omega))).trans h.c0, (World.cell?_of_block (w := w) (a := ⟨B, 1, none⟩) (hm.block B h.lt (by omega))).trans h.c1, Nat.lt_of_lt_of_le h.lt hm.size⟩
theorem moved_setB {lo hi : Nat} (w : World) (C o : Nat) (v : Value) (h1 : lo ≤ C) (h2 : C < hi) : Moved lo hi w (w.setCell ⟨C, o, none⟩ v) := Moved.of_grown (grown_setCell _ _ _ _) h1 h2
/-- What a call leaves that copies a branch. -/
def MadeBr (n : Int) (ls : List Int) (w : World) (E : Ending) (w' : World) : Prop :=
  ∃ a len cap, E = .returned (.agg #[.int .i64 n, .slice a len cap]) ∧ Own .i64 3 w' w.heap.size w'.heap.size a len cap ls ∧ Below w.heap.size w w'
set_option maxRecDepth 20000 in
set_option maxHeartbeats 1600000 in
theorem toBr_any (W : World) (n : Int) (a : Option Addr) (len cap : Nat) (ls : List Int) (hl : len ≤ 1073741824) (hs : Sees .i64 W a len ls) :
    Calls Try.prog 22 #[.agg #[.int .i64 n, .slice a len cap]] W (MadeBr n ls W) := by
  obtain ⟨V, hV⟩ : ∃ V, V = (((W.alloc (.cells #[.int .i64 n, .slice a len cap] 36)).alloc (.cells #[.int .i64 0, .slice none 0 0] 26)).alloc (.cells #[.int .i64 n, .slice none 0 0] 26)) := ⟨_, rfl⟩
  have hb0 : Below W.heap.size W V := by
    rw [hV]
    exact (((Below.refl _ _).alloc (Nat.le_refl _) _).alloc (by simp) _).alloc (by simp; omega) _
  have hz : V.heap.size = W.heap.size + 3 := by rw [hV]; simp
  have k0 : V.cell? ⟨W.heap.size, 1, none⟩ = some (.slice a len cap) := by rw [hV]; go_simp
  have k1 : V.cell? ⟨W.heap.size + 1, 0, none⟩ = some (.int .i64 0) := by rw [hV]; go_simp
  have k2 : V.cell? ⟨W.heap.size + 1, 1, none⟩ = some (.slice none 0 0) := by rw [hV]; go_simp
  have k3 : V.cell? ⟨W.heap.size + 1 + 1, 0, none⟩ = some (.int .i64 n) := by rw [hV]; go_simp
  have k4 : V.cell? ⟨W.heap.size + 1 + 1, 1, none⟩ = some (.slice none 0 0) := by rw [hV]; go_simp
  have f1 : V.frozen? ⟨W.heap.size + 1, 0, none⟩ = false := by rw [hV]; go_simp
  have f2 : V.frozen? ⟨W.heap.size + 1, 1, none⟩ = false := by rw [hV]; go_simp
  have f4 : V.frozen? ⟨W.heap.size + 1 + 1, 1, none⟩ = false := by rw [hV]; go_simp
  have HS := Lib.hid (hs.below hb0)
  have HB0 := Lib.hid hb0
  clear hs hb0
  go_enter Try.func22, Try.ntmps22
  go_wp2_with fail
  rw [← hV]
  clear hV
  refine (toI_any V a len cap ls hl HS.out).mono ?_
  rintro e w1 ⟨a1, l1, c1, rfl, ho, hb⟩
  have HO := Lib.hid ho
  have HB1 := Lib.hid hb
  have g1 := (hb.cell (p := ⟨W.heap.size + 1, 0, none⟩) (by simp [hz])).trans k1
  have g2 := (hb.cell (p := ⟨W.heap.size + 1, 1, none⟩) (by simp [hz])).trans k2
  have g3 := (hb.cell (p := ⟨W.heap.size + 1 + 1, 0, none⟩) (by simp [hz])).trans k3
  have g4 := (hb.cell (p := ⟨W.heap.size + 1 + 1, 1, none⟩) (by simp [hz])).trans k4
  have e1 := (hb.frozen (p := ⟨W.heap.size + 1, 0, none⟩) (by simp [hz])).trans f1
  have e2 := (hb.frozen (p := ⟨W.heap.size + 1, 1, none⟩) (by simp [hz])).trans f2
  have e4 := (hb.frozen (p := ⟨W.heap.size + 1 + 1, 1, none⟩) (by simp [hz])).trans f4
  clear ho hb k0 k1 k2 k3 k4 f1 f2 f4
  go_wp2
  refine bodyPost_ret (v := .agg #[.int .i64 n, .slice a1 l1 c1]) (by simp [results, Try.results22, go_sem, g1, g2]) rfl ⟨a1, l1, c1, rfl, ?_, ?_⟩
  · have hm : Moved W.heap.size V.heap.size w1 (((w1.setCell ⟨W.heap.size + 1 + 1, 1, none⟩ (.slice a1 l1 c1)).setCell ⟨W.heap.size + 1, 0, none⟩ (.int .i64 n)).setCell ⟨W.heap.size + 1, 1, none⟩ (.slice a1 l1 c1)) :=
      ((moved_setB _ _ _ _ (by omega) (by omega)).trans (moved_setB _ _ _ _ (by omega) (by omega))).trans (moved_setB _ _ _ _ (by omega) (by omega))
    exact (HO.out.moved hm (.inr (Nat.le_refl _))).wide (by omega) hm.size (Nat.le_refl _)
  · have hm : Moved W.heap.size V.heap.size w1 (((w1.setCell ⟨W.heap.size + 1 + 1, 1, none⟩ (.slice a1 l1 c1)).setCell ⟨W.heap.size + 1, 0, none⟩ (.int .i64 n)).setCell ⟨W.heap.size + 1, 1, none⟩ (.slice a1 l1 c1)) :=
      ((moved_setB _ _ _ _ (by omega) (by omega)).trans (moved_setB _ _ _ _ (by omega) (by omega))).trans (moved_setB _ _ _ _ (by omega) (by omega))
    exact below_moved (below_up HB0.out HB1.out (Nat.le_refl _)) hm (Nat.le_refl _) (Nat.le_refl _)
theorem szBr_any (W : World) (n : Int) (a : Option Addr) (len cap : Nat) (left v : Int) (hl : len ≤ maxLen) (h0 : 0 ≤ left) (h1 : left ≤ 1048576) (hv : v = if left < (len : Int) then -1 else left - (len : Int)) :
    Calls Try.prog 20 #[.agg #[.int .i64 n, .slice a len cap], .int .i64 left] W fun e w' => e = .returned (.int .i64 v) ∧ Below W.heap.size W w' := by
  have HV := Lib.hid hv
  by_cases h : left < (len : Int)
  · have h2 : v = -1 := by rw [hv, if_pos h]
    subst h2
    clear hv h
    go_enter Try.func20, Try.ntmps20
    go_wp2_with (go_at_call 60; refine (szI_any _ a len cap left (-1) hl h0 h1 HV.out).mono ?_; rintro e w' ⟨rfl, rfl⟩)
    go_ret
    exact ⟨rfl, below_newB _ _⟩
  · have h2 : ¬ v < 0 := by rw [hv, if_neg h]; omega
    clear hv h
    go_enter Try.func20, Try.ntmps20
    go_wp2_with (go_at_call 60; refine (szI_any _ a len cap left v hl h0 h1 HV.out).mono ?_; rintro e w' ⟨rfl, rfl⟩)
    go_ret
    exact ⟨rfl, below_newB _ _⟩
theorem eqBr_yes (W : World) (n : Int) (a b : Option Addr) (len capa capb : Nat) (ls : List Int) (hl : len ≤ 1073741824) (ha : Sees .i64 W a len ls) (hb : Sees .i64 W b len ls) :
    Calls Try.prog 24 #[.agg #[.int .i64 n, .slice a len capa], .agg #[.int .i64 n, .slice b len capb]] W fun e w' => e = .returned (.bool true) ∧ Below W.heap.size W w' := by
  have hbV : Below W.heap.size W ((W.alloc (.cells #[.int .i64 n, .slice a len capa] 26)).alloc (.cells #[.int .i64 n, .slice b len capb] 26)) := ((Below.refl _ _).alloc (Nat.le_refl _) _).alloc (by simp) _
  have HA := Lib.hid (ha.below hbV)
  have HZ := Lib.hid (hb.below hbV)
  have HBV := Lib.hid hbV
  clear ha hb hbV
  go_enter Try.func24, Try.ntmps24
  go_wp2_with (go_at_call 28; refine (eqI_yes _ a b len capa capb ls hl HA.out HZ.out).mono ?_; rintro e w2 ⟨rfl, hb2⟩; have HB2 := Lib.hid (below_up HBV.out hb2 (Nat.le_refl _)); clear hb2)
  go_ret
  exact ⟨rfl, HB2.out⟩
theorem markBr_any (W : World) (lo hi : Nat) (n : Int) (a : Option Addr) (len cap : Nat) (ls : List Int) (m : Int) (hl : len ≤ 1073741824) (hm0 : 0 ≤ m) (hm1 : m ≤ 4611686018427387904) (ho : Own .i64 3 W lo hi a len cap ls) :
    Calls Try.prog 29 #[.agg #[.int .i64 n, .slice a len cap], .int .i64 m] W fun e w' => e = .returned (.int .i64 (m + len)) ∧ Own .i64 3 w' lo hi a len cap (marksI m len) ∧ Moved lo hi W w' := by
  have HO := Lib.hid (ho.below (below_newB W (.cells #[.int .i64 n, .slice a len cap] 26)))
  clear ho
  go_enter Try.func29, Try.ntmps29
  go_wp2_with (go_at_call 30; refine (markI_any _ lo hi a len cap ls m hl hm0 hm1 HO.out).mono ?_; rintro e w2 ⟨rfl, ho2, hm2⟩; have HO2 := Lib.hid ho2; have HM2 := Lib.hid hm2; clear ho2 hm2)
  go_ret
  exact ⟨rfl, HO2.out, (Moved.of_below (below_newB W _)).trans HM2.out⟩
/-- What a law's walk is told of an argument. -/
def IsBr (w : World) (n : Int) (a : Option Addr) (len : Nat) (zs : List Int) : Prop := (Sees .i64 w a len zs ∧ (Lit.int .i64 n).wf = true) ∧ len ≤ maxLen
theorem isBr_nil (w : World) (a : Option Addr) {n : Int} (h : (Lit.int .i64 n).wf = true) : IsBr w n a 0 [] := ⟨⟨⟨rfl, (fun _ h => by cases h), .inl rfl⟩, h⟩, Nat.zero_le _⟩
theorem isBr_of {w : World} {a : Option Addr} {n : Int} {len cap : Nat} {zs : List Int} (h : (Lit.int .i64 n).wf = true) (hr : IsRow .i64 w a len cap zs) (hl : len ≤ maxLen) : IsBr w n a len (zs.take len) := ⟨⟨row_sees hr, h⟩, hl⟩
end Go.Proofs.Ytgninjdnfidpcaa
