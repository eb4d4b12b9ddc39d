/- One link by one row, the program's. -/
import Derived.Test.YthcinjlghhfhmaaBdP2
import Derived.Deep.DeepCutAuto
namespace Go.Proofs.Ythcinjlghhfhmaa
open Go.RowKit
theorem PairAt.off {w w' : World} {B x : Nat} {a b : Int} (h : PairAt w B a b) (hm : Moved x (x + 1) w w') (hne : B ≠ x) : PairAt w' B a b := by
  have e := hm.block B h.lt (by omega)
  exact ⟨(World.cell?_of_block (w := w) (a := ⟨B, 0, none⟩) e).trans h.c0, (World.cell?_of_block (w := w) (a := ⟨B, 1, none⟩) e).trans h.c1, (World.frozen?_of_block (w := w) (a := ⟨B, 0, none⟩) e).trans h.f0, (World.frozen?_of_block (w := w) (a := ⟨B, 1, none⟩) e).trans h.f1, Nat.lt_of_lt_of_le h.lt hm.size⟩
/-- Three new pairs. -/
def CutL (w : World) (p q y0 y1 lo hi : Int) (s7 s8 s9 : Value) (wx : World) : Prop :=
  ∃ g7 g8 g9 : Nat, s7 = .pointer (some ⟨g7, 0, none⟩) ∧ s8 = .pointer (some ⟨g8, 0, none⟩) ∧ s9 = .pointer (some ⟨g9, 0, none⟩) ∧ PairAt wx g7 p q ∧ PairAt wx g8 y0 y1 ∧ PairAt wx g9 lo hi ∧ w.heap.size ≤ g7 ∧ w.heap.size ≤ g8 ∧ w.heap.size ≤ g9 ∧ Below w.heap.size w wx
def CutX (w V : World) (N D : Int) (s10 : Value) (wx : World) : Prop :=
  ∃ g10 : Nat, s10 = .pointer (some ⟨g10, 0, none⟩) ∧ PairAt wx g10 N D ∧ w.heap.size ≤ g10 ∧ Below V.heap.size V wx
theorem pair_newN {w : World} {n : Nat} (h : n = w.heap.size) (x y : Int) (t : TypeId) : PairAt (w.alloc (.cells #[.int .i64 x, .int .i64 y] t)) n x y := by subst h; exact pair_new w x y t
theorem useFirst {p G : Prop} (h : p) (f : p → G) : G := f h
def keptOr (N D p q : Int) (ws us : List Bool) : List Bool := if N = p ∧ D = q then ws else us
set_option maxRecDepth 20000 in
set_option maxHeartbeats 6400000 in
theorem linkP_any (W w : World) (B : Nat) (a : Option Addr) (len cap : Nat) (b : Option Addr) (lb cb g lc cc h ld cd : Nat) (ms : List (List Int)) (ls xs : List (Int × Int)) (ws : List Bool) (i k : Nat) (hl : len ≤ 12) (hb : Below W.heap.size W w) (hs : SeesM W a len ms) (hsl : SeesV W b lb ls) (hc : NwC w B a len cap b lb cb g lc cc h ld cd)
    (hov : OwnV w g (g + 1) (some ⟨g, 0, none⟩) lc cc xs) (how : OwnG 4 w h (h + 1) (some ⟨h, 0, none⟩) ld cd (bv ws)) (hld : ld = len) (hlb : lb = len) (hgW : W.heap.size ≤ g) (hhW : W.heap.size ≤ h) (hgB : g < B) (hhB : h < B) (hgh : g ≠ h)
    (hr : ∀ i, i < len → (row ms i).length = lc) (hi : i < len) (hk : k < lc) (h6 : lc ≤ 6) (hok : ivsOk xs = true) (hy : 0 ≤ (iv ls i).1 ∧ (iv ls i).1 ≤ (iv ls i).2 ∧ (iv ls i).2 ≤ 100000) (N D : Int) (hN : N = narLo (row ms i) (iv ls i) xs k) (hD : D = narHi (row ms i) (iv ls i) xs k) :
    Calls Try.prog 77 #[.pointer (some ⟨B, 0, none⟩), .int .i64 (i : Int), .int .i64 (k : Int)] w fun e w' => e = .returned (.bool (decide (N ≤ D))) ∧
      OwnV w' g (g + 1) (some ⟨g, 0, none⟩) lc cc (xs.set k (N, D)) ∧ OwnG 4 w' h (h + 1) (some ⟨h, 0, none⟩) ld cd (bv (keptOr N D (iv xs k).1 (iv xs k).2 ws (wakeV ms k ws len))) ∧ Moved W.heap.size B w w' := by
  obtain ⟨p, q, hpq⟩ : ∃ p q, iv xs k = (p, q) := ⟨_, _, rfl⟩
  obtain ⟨y0, y1, hyy⟩ : ∃ y0 y1, iv ls i = (y0, y1) := ⟨_, _, rfl⟩
  have hxl := hov.1
  have hpb := ivsOk_true.1 hok k (by omega)
  have hot := oth_bound hok k xs.length (Nat.le_refl _) (z := row ms i)
  obtain ⟨lo, hlo⟩ : ∃ r, r = othLo (row ms i) xs k xs.length := ⟨_, rfl⟩
  obtain ⟨hi2, hhi⟩ : ∃ r, r = othHi (row ms i) xs k xs.length := ⟨_, rfl⟩
  rw [hyy] at hN hD hy
  unfold narLo at hN
  unfold narHi at hD
  rw [hpq] at hN hD hpb ⊢
  rw [← hlo, ← hhi] at hot
  rw [← hhi] at hN
  rw [← hlo] at hD
  simp only at hN hD hy hpb ⊢
  obtain ⟨d0, hd0⟩ : ∃ d, d = y0 - hi2 := ⟨_, rfl⟩
  obtain ⟨d1, hd1⟩ : ∃ d, d = y1 - lo := ⟨_, rfl⟩
  have w1 : IntKind.i64.wrap (y0 - hi2) = d0 := (IntWalk.i64_in _ (by omega)).trans hd0.symm
  have w2 : IntKind.i64.wrap (y1 - lo) = d1 := (IntWalk.i64_in _ (by omega)).trans hd1.symm
  rw [← hd0] at hN
  rw [← hd1] at hD
  have m1 := max_le p d0
  have m2 := min_le q d1
  have hwf : (Lit.int .i64 N).wf = true ∧ (Lit.int .i64 D).wf = true := ⟨WalkArith.wf_i64 (by omega), WalkArith.wf_i64 (by omega)⟩
  have HN := Lib.hid hN
  have HD := Lib.hid hD
  have HPQ := Lib.hid hpq
  have HLO := Lib.hid hlo
  have HHI := Lib.hid hhi
  have HWF := Lib.hid hwf
  have HC := Lib.hid hc
  have HOV := Lib.hid hov
  have HOW := Lib.hid how
  have HS := Lib.hid hs
  have HR := Lib.hid hr
  have HB := Lib.hid hb
  have HOK := Lib.hid hok
  obtain ⟨b2, o2, rfl, hb2, hy0, hy1⟩ := hsl.at (k := i) (by omega)
  rw [hyy] at hy0 hy1
  have hw0 := (hb.cell (p := ⟨b2, o2 + i * 2, none⟩) hb2).trans hy0
  have hw1 := (hb.cell (p := ⟨b2, o2 + i * 2 + 1, none⟩) hb2).trans hy1
  obtain ⟨x0, x1, _⟩ := hov.spotAt k hk
  have hpq' : xs.getD k (0, 0) = (p, q) := hpq
  rw [hpq'] at x0 x1
  have c1 := hc.c1
  have c2 := hc.c2
  have hlt := hc.lt
  have hbs := hb.size
  have hb2w : b2 < w.heap.size := Nat.lt_of_lt_of_le hb2 hbs
  have hgw : g < w.heap.size := by omega
  have C1 := Lib.hid c1
  have C2 := Lib.hid c2
  have X0 := Lib.hid x0
  have X1 := Lib.hid x1
  have Y0 := Lib.hid hw0
  have Y1 := Lib.hid hw1
  have hbd : Below w.heap.size w w.drew := (Below.refl _ _).drew
  have HBD := Lib.hid hbd
  have HOD := Lib.hid (hov.below hbd)
  have HCD := Lib.hid (hc.below hbd)
  have HBDW := Lib.hid (below_up hb hbd (Nat.le_refl _))
  have HARG := Lib.hid (And.intro hi (And.intro (hr i hi) h6))
  have HLT := Lib.hid (And.intro hlt (And.intro hgw hb2w))
  have HKEEP : Hid (∀ w' : World, Below w.heap.size w w' → (w'.cell? ⟨B, 1, none⟩ = some (.slice (some ⟨b2, o2, none⟩) lb cb) ∧ w'.cell? ⟨B, 2, none⟩ = some (.slice (some ⟨g, 0, none⟩) lc cc)) ∧ (w'.cell? ⟨g, k * 2, none⟩ = some (.int .i64 p) ∧ w'.cell? ⟨g, k * 2 + 1, none⟩ = some (.int .i64 q)) ∧ (w'.cell? ⟨b2, o2 + i * 2, none⟩ = some (.int .i64 y0) ∧ w'.cell? ⟨b2, o2 + i * 2 + 1, none⟩ = some (.int .i64 y1))) := Lib.hid (fun w' G => ⟨⟨(G.cell (p := ⟨B, 1, none⟩) hlt).trans c1, (G.cell (p := ⟨B, 2, none⟩) hlt).trans c2⟩, ⟨(G.cell (p := ⟨g, k * 2, none⟩) hgw).trans x0, (G.cell (p := ⟨g, k * 2 + 1, none⟩) hgw).trans x1⟩, (G.cell (p := ⟨b2, o2 + i * 2, none⟩) hb2w).trans hw0, (G.cell (p := ⟨b2, o2 + i * 2 + 1, none⟩) hb2w).trans hw1⟩)
  have HSUM : Hid (∀ wc : World, Below w.heap.size w wc → Calls Try.prog 81 #[.pointer (some ⟨B, 0, none⟩), .int .i64 (i : Int), .int .i64 (k : Int)] wc fun e w' => e = .returned (.agg #[.int .i64 lo, .int .i64 hi2]) ∧ Below wc.heap.size wc w' ∧ Below w.heap.size w w') := Lib.hid (fun wc G => by
    refine (sumP_any W wc B a len cap _ lb cb g lc cc h ld cd ms xs i k (below_up hb G (Nat.le_refl _)) hs (hc.below G) (hov.below G) hi (hr i hi) h6 hok).mono ?_
    rw [← hlo, ← hhi]
    rintro e w' ⟨rfl, hq⟩
    exact ⟨rfl, hq, below_up G hq (Nat.le_refl _)⟩)
  have i0 : (0 : Int) ≤ (i : Int) := by omega
  have i1 : (i : Int) < (lb : Int) := by omega
  have k0 : (0 : Int) ≤ (k : Int) := by omega
  have k1 : (k : Int) < (lc : Int) := by omega
  have HK := Lib.hid hk
  have HIX := Lib.hid (And.intro hlb (And.intro hld hl))
  have HLY := Lib.hid (And.intro hgW (And.intro hhW (And.intro hgB (And.intro hhB hgh))))
  clear hN hD hpq hpq' hyy hlo hhi hd0 hd1 hwf hc hov how hs hsl hr hb hok hy0 hy1 hbd hot hpb hy m1 m2 hxl
  go_enter Try.func77, Try.ntmps77
  go_wp2_with fail
  go_cut [7, 8, 9] (CutL w p q y0 y1 lo hi2)
  case first =>
    go_region_held3 (fun w' => (w'.cell? ⟨B, 1, none⟩ = some (.slice (some ⟨b2, o2, none⟩) lb cb) ∧ w'.cell? ⟨B, 2, none⟩ = some (.slice (some ⟨g, 0, none⟩) lc cc)) ∧ (w'.cell? ⟨g, k * 2, none⟩ = some (.int .i64 p) ∧ w'.cell? ⟨g, k * 2 + 1, none⟩ = some (.int .i64 q)) ∧ (w'.cell? ⟨b2, o2 + i * 2, none⟩ = some (.int .i64 y0) ∧ w'.cell? ⟨b2, o2 + i * 2 + 1, none⟩ = some (.int .i64 y1))) (first | exact HKEEP.out _ (by repeat (first | (with_reducible exact HBD.out) | (with_reducible exact G4.out) | (with_reducible exact Below.refl _ _) | (with_reducible refine below_allocV ?_ (Nat.le_refl _) _) | (with_reducible refine Below.setCell ?_ ?_ _; rotate_left; (focus (first | (have := G4.out.size; simp; omega) | (simp; omega) | (have := G4.out.size; omega) | omega | (simp; done)))) | (with_reducible refine Below.drew ?_))) | (go_keep; done)) (first
      | (go_at_call 81; refine (HSUM.out _ (by (repeat (first | (with_reducible exact HBD.out) | (with_reducible exact Below.refl _ _) | (with_reducible refine below_allocV ?_ (Nat.le_refl _) _) | (with_reducible refine Below.drew ?_))))).mono ?_; rintro e w4 ⟨rfl, hb4, g4⟩; have G4 := Lib.hid g4; obtain ⟨⟨u1, u2⟩, ⟨u3, u4⟩, u5, u6⟩ := HKEEP.out _ g4; (try (refine useFirst (p := PairAt w4 w.heap.size 0 0) ?_ (fun P0 => ?_); (focus (refine PairAt.below ?_ hb4; (repeat (first | (with_reducible exact pair_new _ _ _ _) | ((with_reducible refine pair_newN ?_ _ _ _); (simp; done)) | (with_reducible refine PairAt.alloc ?_ _) | (with_reducible refine PairAt.drew ?_))); done)); have p00 := P0.c0; have p01 := P0.c1; have p02 := P0.f0; have p03 := P0.f1; have n0a0 : ¬ w.heap.size = w4.heap.size  := (by have := P0.lt; omega); have n0b0 : ¬ w4.heap.size  = w.heap.size := (by have := P0.lt; omega); have n0a3 : ¬ w.heap.size = w4.heap.size + 1 := (by have := P0.lt; omega); have n0b3 : ¬ w4.heap.size + 1 = w.heap.size := (by have := P0.lt; omega); have n0a7 : ¬ w.heap.size = w4.heap.size + 1 + 1 := (by have := P0.lt; omega); have n0b7 : ¬ w4.heap.size + 1 + 1 = w.heap.size := (by have := P0.lt; omega); have p00d1 : ∀ o0, (w4.alloc o0).cell? ⟨w.heap.size, 0, none⟩ = some (.int .i64 0) := fun o0 => (P0.alloc o0).c0; have p01d1 : ∀ o0, (w4.alloc o0).cell? ⟨w.heap.size, 1, none⟩ = some (.int .i64 0) := fun o0 => (P0.alloc o0).c1; have p02d1 : ∀ o0, (w4.alloc o0).frozen? ⟨w.heap.size, 0, none⟩ = false := fun o0 => (P0.alloc o0).f0; have p03d1 : ∀ o0, (w4.alloc o0).frozen? ⟨w.heap.size, 1, none⟩ = false := fun o0 => (P0.alloc o0).f1; have p00d2 : ∀ o0 o1, ((w4.alloc o0).alloc o1).cell? ⟨w.heap.size, 0, none⟩ = some (.int .i64 0) := fun o0 o1 => ((P0.alloc o0).alloc o1).c0; have p01d2 : ∀ o0 o1, ((w4.alloc o0).alloc o1).cell? ⟨w.heap.size, 1, none⟩ = some (.int .i64 0) := fun o0 o1 => ((P0.alloc o0).alloc o1).c1; have p02d2 : ∀ o0 o1, ((w4.alloc o0).alloc o1).frozen? ⟨w.heap.size, 0, none⟩ = false := fun o0 o1 => ((P0.alloc o0).alloc o1).f0; have p03d2 : ∀ o0 o1, ((w4.alloc o0).alloc o1).frozen? ⟨w.heap.size, 1, none⟩ = false := fun o0 o1 => ((P0.alloc o0).alloc o1).f1; have P0 := Lib.hid P0)); (try (refine useFirst (p := PairAt w4 (w.heap.size + 1) 0 0) ?_ (fun P1 => ?_); (focus (refine PairAt.below ?_ hb4; (repeat (first | (with_reducible exact pair_new _ _ _ _) | ((with_reducible refine pair_newN ?_ _ _ _); (simp; done)) | (with_reducible refine PairAt.alloc ?_ _) | (with_reducible refine PairAt.drew ?_))); done)); have p10 := P1.c0; have p11 := P1.c1; have p12 := P1.f0; have p13 := P1.f1; have n1a0 : ¬ w.heap.size + 1 = w4.heap.size  := (by have := P1.lt; omega); have n1b0 : ¬ w4.heap.size  = w.heap.size + 1 := (by have := P1.lt; omega); have n1a3 : ¬ w.heap.size + 1 = w4.heap.size + 1 := (by have := P1.lt; omega); have n1b3 : ¬ w4.heap.size + 1 = w.heap.size + 1 := (by have := P1.lt; omega); have n1a7 : ¬ w.heap.size + 1 = w4.heap.size + 1 + 1 := (by have := P1.lt; omega); have n1b7 : ¬ w4.heap.size + 1 + 1 = w.heap.size + 1 := (by have := P1.lt; omega); have p10d1 : ∀ o0, (w4.alloc o0).cell? ⟨w.heap.size + 1, 0, none⟩ = some (.int .i64 0) := fun o0 => (P1.alloc o0).c0; have p11d1 : ∀ o0, (w4.alloc o0).cell? ⟨w.heap.size + 1, 1, none⟩ = some (.int .i64 0) := fun o0 => (P1.alloc o0).c1; have p12d1 : ∀ o0, (w4.alloc o0).frozen? ⟨w.heap.size + 1, 0, none⟩ = false := fun o0 => (P1.alloc o0).f0; have p13d1 : ∀ o0, (w4.alloc o0).frozen? ⟨w.heap.size + 1, 1, none⟩ = false := fun o0 => (P1.alloc o0).f1; have p10d2 : ∀ o0 o1, ((w4.alloc o0).alloc o1).cell? ⟨w.heap.size + 1, 0, none⟩ = some (.int .i64 0) := fun o0 o1 => ((P1.alloc o0).alloc o1).c0; have p11d2 : ∀ o0 o1, ((w4.alloc o0).alloc o1).cell? ⟨w.heap.size + 1, 1, none⟩ = some (.int .i64 0) := fun o0 o1 => ((P1.alloc o0).alloc o1).c1; have p12d2 : ∀ o0 o1, ((w4.alloc o0).alloc o1).frozen? ⟨w.heap.size + 1, 0, none⟩ = false := fun o0 o1 => ((P1.alloc o0).alloc o1).f0; have p13d2 : ∀ o0 o1, ((w4.alloc o0).alloc o1).frozen? ⟨w.heap.size + 1, 1, none⟩ = false := fun o0 o1 => ((P1.alloc o0).alloc o1).f1; have P1 := Lib.hid P1)); (try (refine useFirst (p := PairAt w4 (w.heap.size + 1 + 1) 0 0) ?_ (fun P2 => ?_); (focus (refine PairAt.below ?_ hb4; (repeat (first | (with_reducible exact pair_new _ _ _ _) | ((with_reducible refine pair_newN ?_ _ _ _); (simp; done)) | (with_reducible refine PairAt.alloc ?_ _) | (with_reducible refine PairAt.drew ?_))); done)); have p20 := P2.c0; have p21 := P2.c1; have p22 := P2.f0; have p23 := P2.f1; have n2a0 : ¬ w.heap.size + 1 + 1 = w4.heap.size  := (by have := P2.lt; omega); have n2b0 : ¬ w4.heap.size  = w.heap.size + 1 + 1 := (by have := P2.lt; omega); have n2a3 : ¬ w.heap.size + 1 + 1 = w4.heap.size + 1 := (by have := P2.lt; omega); have n2b3 : ¬ w4.heap.size + 1 = w.heap.size + 1 + 1 := (by have := P2.lt; omega); have n2a7 : ¬ w.heap.size + 1 + 1 = w4.heap.size + 1 + 1 := (by have := P2.lt; omega); have n2b7 : ¬ w4.heap.size + 1 + 1 = w.heap.size + 1 + 1 := (by have := P2.lt; omega); have p20d1 : ∀ o0, (w4.alloc o0).cell? ⟨w.heap.size + 1 + 1, 0, none⟩ = some (.int .i64 0) := fun o0 => (P2.alloc o0).c0; have p21d1 : ∀ o0, (w4.alloc o0).cell? ⟨w.heap.size + 1 + 1, 1, none⟩ = some (.int .i64 0) := fun o0 => (P2.alloc o0).c1; have p22d1 : ∀ o0, (w4.alloc o0).frozen? ⟨w.heap.size + 1 + 1, 0, none⟩ = false := fun o0 => (P2.alloc o0).f0; have p23d1 : ∀ o0, (w4.alloc o0).frozen? ⟨w.heap.size + 1 + 1, 1, none⟩ = false := fun o0 => (P2.alloc o0).f1; have p20d2 : ∀ o0 o1, ((w4.alloc o0).alloc o1).cell? ⟨w.heap.size + 1 + 1, 0, none⟩ = some (.int .i64 0) := fun o0 o1 => ((P2.alloc o0).alloc o1).c0; have p21d2 : ∀ o0 o1, ((w4.alloc o0).alloc o1).cell? ⟨w.heap.size + 1 + 1, 1, none⟩ = some (.int .i64 0) := fun o0 o1 => ((P2.alloc o0).alloc o1).c1; have p22d2 : ∀ o0 o1, ((w4.alloc o0).alloc o1).frozen? ⟨w.heap.size + 1 + 1, 0, none⟩ = false := fun o0 o1 => ((P2.alloc o0).alloc o1).f0; have p23d2 : ∀ o0 o1, ((w4.alloc o0).alloc o1).frozen? ⟨w.heap.size + 1 + 1, 1, none⟩ = false := fun o0 o1 => ((P2.alloc o0).alloc o1).f1; have P2 := Lib.hid P2)); clear hb4 g4))
    all_goals go_wp2_with fail
    all_goals go_meet
    all_goals exact ⟨_, _, _, rfl, rfl, rfl, (by (repeat (first | (with_reducible exact P0.out) | (with_reducible exact P1.out) | (with_reducible exact P2.out) | (with_reducible exact pair_new _ _ _ _) | ((with_reducible refine pair_newN ?_ _ _ _); (simp; done)) | (with_reducible refine pair_putV (x := 0) (y := 0) ?_ _ _) | (with_reducible refine PairAt.set ?_ _ ?_; rotate_left; (focus (first | assumption | omega | (simp; omega)))) | (with_reducible refine PairAt.alloc ?_ _)))), (by (repeat (first | (with_reducible exact P0.out) | (with_reducible exact P1.out) | (with_reducible exact P2.out) | (with_reducible exact pair_new _ _ _ _) | ((with_reducible refine pair_newN ?_ _ _ _); (simp; done)) | (with_reducible refine pair_putV (x := 0) (y := 0) ?_ _ _) | (with_reducible refine PairAt.set ?_ _ ?_; rotate_left; (focus (first | assumption | omega | (simp; omega)))) | (with_reducible refine PairAt.alloc ?_ _)))), (by (repeat (first | (with_reducible exact P0.out) | (with_reducible exact P1.out) | (with_reducible exact P2.out) | (with_reducible exact pair_new _ _ _ _) | ((with_reducible refine pair_newN ?_ _ _ _); (simp; done)) | (with_reducible refine pair_putV (x := 0) (y := 0) ?_ _ _) | (with_reducible refine PairAt.set ?_ _ ?_; rotate_left; (focus (first | assumption | omega | (simp; omega)))) | (with_reducible refine PairAt.alloc ?_ _)))), (by (first | exact Nat.le_refl _ | exact G4.out.size | omega | (have := G4.out.size; omega))), (by (first | exact Nat.le_refl _ | exact G4.out.size | omega | (have := G4.out.size; omega))), (by (first | exact Nat.le_refl _ | exact G4.out.size | omega | (have := G4.out.size; omega))), (by (repeat (first | (with_reducible exact G4.out) | (with_reducible refine below_allocV ?_ (Nat.le_refl _) _) | (with_reducible refine Below.setCell ?_ ?_ _; rotate_left; (focus (first | (exact Nat.le_refl _) | (have := G4.out.size; simp; omega) | (simp; omega) | (have := G4.out.size; omega) | omega | (simp; done)))))))⟩
  case rest =>
    obtain ⟨g7, g8, g9, rfl, rfl, rfl, h7, h8, h9, hg7, hg8, hg9, hbx⟩ := hcut
    have H7 := Lib.hid h7
    have H8 := Lib.hid h8
    have H9 := Lib.hid h9
    have HBX := Lib.hid hbx
    have HGE := Lib.hid (And.intro hg7 (And.intro hg8 hg9))
    obtain ⟨V, rfl⟩ : ∃ V, V = wc := ⟨_, rfl⟩
    have hl7 := h7.lt
    have hl8 := h8.lt
    have hl9 := h9.lt
    have r0 := h7.c0
    have r1 := h7.c1
    have s0 := h8.c0
    have s1 := h8.c1
    have t0 := h9.c0
    have t1 := h9.c1
    have hvd : Below V.heap.size V V.drew := (Below.refl _ _).drew
    have HVD := Lib.hid hvd
    have HKEEP2 : Hid (∀ w' : World, Below V.heap.size V w' → (w'.cell? ⟨g7, 0, none⟩ = some (.int .i64 p) ∧ w'.cell? ⟨g7, 1, none⟩ = some (.int .i64 q)) ∧ (w'.cell? ⟨g8, 0, none⟩ = some (.int .i64 y0) ∧ w'.cell? ⟨g8, 1, none⟩ = some (.int .i64 y1)) ∧ (w'.cell? ⟨g9, 0, none⟩ = some (.int .i64 lo) ∧ w'.cell? ⟨g9, 1, none⟩ = some (.int .i64 hi2))) := Lib.hid (fun w' G => ⟨⟨(G.cell (p := ⟨g7, 0, none⟩) hl7).trans r0, (G.cell (p := ⟨g7, 1, none⟩) hl7).trans r1⟩, ⟨(G.cell (p := ⟨g8, 0, none⟩) hl8).trans s0, (G.cell (p := ⟨g8, 1, none⟩) hl8).trans s1⟩, (G.cell (p := ⟨g9, 0, none⟩) hl9).trans t0, (G.cell (p := ⟨g9, 1, none⟩) hl9).trans t1⟩)
    have HMAX : Hid (∀ wc : World, Below V.heap.size V wc → Calls Try.prog 82 #[.int .i64 p, .int .i64 d0] wc fun e w' => e = .returned (.int .i64 N) ∧ Below wc.heap.size wc w' ∧ Below V.heap.size V w') := Lib.hid (fun wc G => by
      refine (max_bel p d0 wc).mono ?_
      rw [← HN.out]
      rintro e w' ⟨rfl, hq⟩
      exact ⟨rfl, hq, below_up G hq (Nat.le_refl _)⟩)
    have HMIN : Hid (∀ wc : World, Below V.heap.size V wc → Calls Try.prog 66 #[.int .i64 q, .int .i64 d1] wc fun e w' => e = .returned (.int .i64 D) ∧ Below wc.heap.size wc w' ∧ Below V.heap.size V w') := Lib.hid (fun wc G => by
      refine (min_bel q d1 wc).mono ?_
      rw [← HD.out]
      rintro e w' ⟨rfl, hq⟩
      exact ⟨rfl, hq, below_up G hq (Nat.le_refl _)⟩)
    have HVS := Lib.hid hbx.size
    clear h7 h8 h9 hbx hg7 hg8 hg9 hvd
    go_wp2_with fail
    go_cut [10] (CutX w V N D)
    case first =>
      go_region_held3 (fun w' => (w'.cell? ⟨g7, 0, none⟩ = some (.int .i64 p) ∧ w'.cell? ⟨g7, 1, none⟩ = some (.int .i64 q)) ∧ (w'.cell? ⟨g8, 0, none⟩ = some (.int .i64 y0) ∧ w'.cell? ⟨g8, 1, none⟩ = some (.int .i64 y1)) ∧ (w'.cell? ⟨g9, 0, none⟩ = some (.int .i64 lo) ∧ w'.cell? ⟨g9, 1, none⟩ = some (.int .i64 hi2))) (first | exact HKEEP2.out _ (by (repeat (first | (with_reducible exact HVD.out) | (with_reducible exact G4.out) | (with_reducible exact G5.out) | (with_reducible exact Below.refl _ _) | (with_reducible refine below_allocV ?_ (Nat.le_refl _) _) | (with_reducible refine Below.setCell ?_ ?_ _; rotate_left; (focus (first | (exact Nat.le_refl _) | (have := G4.out.size; simp; omega) | (have := G5.out.size; simp; omega) | (simp; omega) | (have := G4.out.size; omega) | (have := G5.out.size; omega) | omega | (simp; done)))) | (with_reducible refine Below.drew ?_)))) | (go_keep; done)) (first
        | (go_at_call 82; refine (HMAX.out _ (by (repeat (first | (with_reducible exact HVD.out) | (with_reducible exact G4.out) | (with_reducible exact G5.out) | (with_reducible exact Below.refl _ _) | (with_reducible refine below_allocV ?_ (Nat.le_refl _) _) | (with_reducible refine Below.setCell ?_ ?_ _; rotate_left; (focus (first | (exact Nat.le_refl _) | (have := G4.out.size; simp; omega) | (have := G5.out.size; simp; omega) | (simp; omega) | (have := G4.out.size; omega) | (have := G5.out.size; omega) | omega | (simp; done)))) | (with_reducible refine Below.drew ?_))))).mono ?_; rintro e w4 ⟨rfl, hb, gg⟩; have G4 := Lib.hid gg; obtain ⟨⟨u1, u2⟩, ⟨u3, u4⟩, u5, u6⟩ := HKEEP2.out _ gg; (try (refine useFirst (p := PairAt w4 V.heap.size 0 0) ?_ (fun P0 => ?_); (focus (refine PairAt.below ?_ hb; (repeat (first | (with_reducible exact P0.out) | (with_reducible exact pair_new _ _ _ _) | ((with_reducible refine pair_newN ?_ _ _ _); (simp; done)) | (with_reducible refine pair_putV (x := 0) (y := 0) ?_ _ _) | (with_reducible refine PairAt.set ?_ _ ?_; rotate_left; (focus (first | assumption | omega | (simp; omega)))) | (with_reducible refine PairAt.alloc ?_ _) | (with_reducible refine PairAt.drew ?_))); done)); have p00 := P0.c0; have p01 := P0.c1; have p02 := P0.f0; have p03 := P0.f1; have P0 := Lib.hid P0)); (try (refine useFirst (p := PairAt w4 w5.heap.size 0 0) ?_ (fun P0 => ?_); (focus (refine PairAt.below ?_ hb; (repeat (first | (with_reducible exact P0.out) | (with_reducible exact pair_new _ _ _ _) | ((with_reducible refine pair_newN ?_ _ _ _); (simp; done)) | (with_reducible refine pair_putV (x := 0) (y := 0) ?_ _ _) | (with_reducible refine PairAt.set ?_ _ ?_; rotate_left; (focus (first | assumption | omega | (simp; omega)))) | (with_reducible refine PairAt.alloc ?_ _) | (with_reducible refine PairAt.drew ?_))); done)); have p00 := P0.c0; have p01 := P0.c1; have p02 := P0.f0; have p03 := P0.f1; have P0 := Lib.hid P0)); clear hb gg)
        | (go_at_call 66; refine (HMIN.out _ (by (repeat (first | (with_reducible exact HVD.out) | (with_reducible exact G4.out) | (with_reducible exact G5.out) | (with_reducible exact Below.refl _ _) | (with_reducible refine below_allocV ?_ (Nat.le_refl _) _) | (with_reducible refine Below.setCell ?_ ?_ _; rotate_left; (focus (first | (exact Nat.le_refl _) | (have := G4.out.size; simp; omega) | (have := G5.out.size; simp; omega) | (simp; omega) | (have := G4.out.size; omega) | (have := G5.out.size; omega) | omega | (simp; done)))) | (with_reducible refine Below.drew ?_))))).mono ?_; rintro e w5 ⟨rfl, hb, gg⟩; have G5 := Lib.hid gg; obtain ⟨⟨u1, u2⟩, ⟨u3, u4⟩, u5, u6⟩ := HKEEP2.out _ gg; (try (refine useFirst (p := PairAt w5 V.heap.size 0 0) ?_ (fun P0 => ?_); (focus (refine PairAt.below ?_ hb; (repeat (first | (with_reducible exact P0.out) | (with_reducible exact pair_new _ _ _ _) | ((with_reducible refine pair_newN ?_ _ _ _); (simp; done)) | (with_reducible refine pair_putV (x := 0) (y := 0) ?_ _ _) | (with_reducible refine PairAt.set ?_ _ ?_; rotate_left; (focus (first | assumption | omega | (simp; omega)))) | (with_reducible refine PairAt.alloc ?_ _) | (with_reducible refine PairAt.drew ?_))); done)); have p00 := P0.c0; have p01 := P0.c1; have p02 := P0.f0; have p03 := P0.f1; have P0 := Lib.hid P0)); (try (refine useFirst (p := PairAt w5 w4.heap.size 0 0) ?_ (fun P0 => ?_); (focus (refine PairAt.below ?_ hb; (repeat (first | (with_reducible exact P0.out) | (with_reducible exact pair_new _ _ _ _) | ((with_reducible refine pair_newN ?_ _ _ _); (simp; done)) | (with_reducible refine pair_putV (x := 0) (y := 0) ?_ _ _) | (with_reducible refine PairAt.set ?_ _ ?_; rotate_left; (focus (first | assumption | omega | (simp; omega)))) | (with_reducible refine PairAt.alloc ?_ _) | (with_reducible refine PairAt.drew ?_))); done)); have p00 := P0.c0; have p01 := P0.c1; have p02 := P0.f0; have p03 := P0.f1; have P0 := Lib.hid P0)); clear hb gg))
      all_goals go_wp2_with fail
      all_goals go_meet
      all_goals exact ⟨_, rfl, (by (repeat (first | (with_reducible exact P0.out) | (with_reducible exact pair_new _ _ _ _) | ((with_reducible refine pair_newN ?_ _ _ _); (simp; done)) | (with_reducible refine pair_putV (x := 0) (y := 0) ?_ _ _) | (with_reducible refine PairAt.set ?_ _ ?_; rotate_left; (focus (first | assumption | omega | (simp; omega)))) | (with_reducible refine PairAt.alloc ?_ _) | (with_reducible refine PairAt.drew ?_)))), (by have := HVS.out; first | exact HVS.out | omega | (have := G4.out.size; omega) | (have := G5.out.size; omega)), (by (repeat (first | (with_reducible exact HVD.out) | (with_reducible exact G4.out) | (with_reducible exact G5.out) | (with_reducible exact Below.refl _ _) | (with_reducible refine below_allocV ?_ (Nat.le_refl _) _) | (with_reducible refine Below.setCell ?_ ?_ _; rotate_left; (focus (first | (exact Nat.le_refl _) | (have := G4.out.size; simp; omega) | (have := G5.out.size; simp; omega) | (simp; omega) | (have := G4.out.size; omega) | (have := G5.out.size; omega) | omega | (simp; done)))) | (with_reducible refine Below.drew ?_))))⟩
    case rest =>
      obtain ⟨g10, rfl, h10, hg10, hbv⟩ := hcut
      obtain ⟨V2, rfl⟩ : ∃ V2, V2 = wc := ⟨_, rfl⟩
      have HBV2 := Lib.hid (below_up HBX.out hbv (Nat.le_refl _))
      have HP7 := Lib.hid (H7.out.below hbv)
      have H10 := Lib.hid h10
      have r0 := HP7.out.c0
      have r1 := HP7.out.c1
      have n0 := h10.c0
      have n1 := h10.c1
      clear hbv h10 hl7 hl8 hl9 s0 s1 t0 t1
      have hcase : (N = p ∧ D = q) ∨ (N = p ∧ ¬ D = q) ∨ ¬ N = p := by omega
      rcases hcase with ⟨e1, e2⟩ | ⟨e1, e2⟩ | e1
      · have HPOST : Hid (OwnV V2 g (g + 1) (some ⟨g, 0, none⟩) lc cc (xs.set k (N, D)) ∧ OwnG 4 V2 h (h + 1) (some ⟨h, 0, none⟩) ld cd (bv (keptOr N D p q ws (wakeV ms k ws len))) ∧ Moved W.heap.size B w V2) := Lib.hid (by
          refine ⟨?_, ?_, Moved.of_below HBV2.out⟩
          · rw [e1, e2, ← HPQ.out, set_iv (by rw [HOV.out.1]; exact HK.out)]
            exact HOV.out.below HBV2.out
          · unfold keptOr
            rw [if_pos ⟨e1, e2⟩]
            exact HOW.out.below HBV2.out)
        subst e1 e2
        go_wp2
        go_ret
        exact ⟨rfl, HPOST.out⟩
      · have HNE : Hid (¬ (N = p ∧ D = q)) := Lib.hid (fun h => e2 h.2)
        rw [← e1] at r0
        clear e1
        go_wp2_with fail
        obtain ⟨x0, x1, xf⟩ := (HOV.out.below HBV2.out).spotAt k HK.out
        have xf0 := xf (k * 2)
        have xf1 := xf (k * 2 + 1)
        have hpq' : xs.getD k (0, 0) = (p, q) := HPQ.out
        rw [hpq'] at x0 x1
        have c2' := (HBV2.out.cell (p := ⟨B, 2, none⟩) HLT.out.1).trans C2.out
        clear xf hpq' r0 r1
        go_still_tail 7, (by kernel_rfl)
        change wpList _ _ _ _ _ V2.drew
        obtain ⟨V3, hV3⟩ : ∃ V3, V3 = V2.drew := ⟨_, rfl⟩
        have hb3 : Below V2.heap.size V2 V3 := by rw [hV3]; exact (Below.refl _ _).drew
        rw [← hV3]
        have HBV3 := Lib.hid (below_up HBV2.out hb3 (Nat.le_refl _))
        have H10' := Lib.hid (H10.out.below hb3)
        obtain ⟨x0, x1, xf⟩ := (HOV.out.below HBV3.out).spotAt k HK.out
        have xf0 := xf (k * 2)
        have xf1 := xf (k * 2 + 1)
        have hpq' : xs.getD k (0, 0) = (p, q) := HPQ.out
        rw [hpq'] at x0 x1
        have n0 := H10'.out.c0
        have n1 := H10'.out.c1
        have HSTO := Lib.hid ((HOV.out.below HBV3.out).stored k (N, D) HWF.out)
        clear xf hpq' hV3 hb3 c2'
        obtain ⟨V4, hV4⟩ : ∃ V4, V4 = (V3.setCell ⟨g, k * 2, none⟩ (.int .i64 N)).setCell ⟨g, k * 2 + 1, none⟩ (.int .i64 D) := ⟨_, rfl⟩
        have HOV4 : Hid (OwnV V4 g (g + 1) (some ⟨g, 0, none⟩) lc cc (xs.set k (N, D))) := Lib.hid (by rw [hV4]; exact HSTO.out.1)
        have hm4 : Moved g (g + 1) V3 V4 := by rw [hV4]; exact HSTO.out.2
        have HMW4 : Hid (Moved W.heap.size B w V4) := Lib.hid ((Moved.of_below HBV3.out).trans (moved_one hm4 HLY.out.1 HLY.out.2.2.1))
        have HC4 := Lib.hid ((HC.out.below HBV3.out).moved hm4 (by have := HLY.out; omega))
        have HOW4 := Lib.hid ((HOW.out.below HBV3.out).moved hm4 (by have := HLY.out; omega))
        have HB4 := Lib.hid (below_moved HB.out HMW4.out (Nat.le_refl _) (Nat.le_refl _))
        have H104 : Hid (PairAt V4 g10 N D) := Lib.hid (by rw [hV4]; exact (H10'.out.set _ (by have := HLT.out; omega)).set _ (by have := HLT.out; omega))
        go_wp2_with fail
        rw [← hV4]
        clear hV4 hm4 HSTO x0 x1 xf0 xf1 n0 n1
        go_wp2_with (go_at_call 83; refine (wakeP_any W _ B a len cap _ lb cb g lc cc h ld cd ms ws lc k HIX.out.2.2 HB4.out HS.out HC4.out HOW4.out HIX.out.2.1 (by have := HLY.out; omega) HLY.out.2.1 HR.out HK.out).mono ?_; rintro e w5 ⟨rfl, ho5, hm5⟩; have HO5 := Lib.hid ho5; have HP5 := Lib.hid (H104.out.off hm5 (by have := HLT.out; have := HLY.out; omega)); have HM5 := Lib.hid hm5; have n0 := HP5.out.c0; have n1 := HP5.out.c1; clear ho5 hm5)
        go_ret
        refine ⟨rfl, HOV4.out.moved HM5.out (by have := HLY.out; omega), ?_, HMW4.out.trans (moved_one HM5.out HLY.out.2.1 HLY.out.2.2.2.1)⟩
        unfold keptOr
        rw [if_neg HNE.out]
        exact HO5.out
      · have HNE : Hid (¬ (N = p ∧ D = q)) := Lib.hid (fun h => e1 h.1)
        go_wp2_with fail
        obtain ⟨x0, x1, xf⟩ := (HOV.out.below HBV2.out).spotAt k HK.out
        have xf0 := xf (k * 2)
        have xf1 := xf (k * 2 + 1)
        have hpq' : xs.getD k (0, 0) = (p, q) := HPQ.out
        rw [hpq'] at x0 x1
        have c2' := (HBV2.out.cell (p := ⟨B, 2, none⟩) HLT.out.1).trans C2.out
        clear xf hpq' r0 r1
        go_still_tail 7, (by kernel_rfl)
        change wpList _ _ _ _ _ V2.drew
        obtain ⟨V3, hV3⟩ : ∃ V3, V3 = V2.drew := ⟨_, rfl⟩
        have hb3 : Below V2.heap.size V2 V3 := by rw [hV3]; exact (Below.refl _ _).drew
        rw [← hV3]
        have HBV3 := Lib.hid (below_up HBV2.out hb3 (Nat.le_refl _))
        have H10' := Lib.hid (H10.out.below hb3)
        obtain ⟨x0, x1, xf⟩ := (HOV.out.below HBV3.out).spotAt k HK.out
        have xf0 := xf (k * 2)
        have xf1 := xf (k * 2 + 1)
        have hpq' : xs.getD k (0, 0) = (p, q) := HPQ.out
        rw [hpq'] at x0 x1
        have n0 := H10'.out.c0
        have n1 := H10'.out.c1
        have HSTO := Lib.hid ((HOV.out.below HBV3.out).stored k (N, D) HWF.out)
        clear xf hpq' hV3 hb3 c2'
        obtain ⟨V4, hV4⟩ : ∃ V4, V4 = (V3.setCell ⟨g, k * 2, none⟩ (.int .i64 N)).setCell ⟨g, k * 2 + 1, none⟩ (.int .i64 D) := ⟨_, rfl⟩
        have HOV4 : Hid (OwnV V4 g (g + 1) (some ⟨g, 0, none⟩) lc cc (xs.set k (N, D))) := Lib.hid (by rw [hV4]; exact HSTO.out.1)
        have hm4 : Moved g (g + 1) V3 V4 := by rw [hV4]; exact HSTO.out.2
        have HMW4 : Hid (Moved W.heap.size B w V4) := Lib.hid ((Moved.of_below HBV3.out).trans (moved_one hm4 HLY.out.1 HLY.out.2.2.1))
        have HC4 := Lib.hid ((HC.out.below HBV3.out).moved hm4 (by have := HLY.out; omega))
        have HOW4 := Lib.hid ((HOW.out.below HBV3.out).moved hm4 (by have := HLY.out; omega))
        have HB4 := Lib.hid (below_moved HB.out HMW4.out (Nat.le_refl _) (Nat.le_refl _))
        have H104 : Hid (PairAt V4 g10 N D) := Lib.hid (by rw [hV4]; exact (H10'.out.set _ (by have := HLT.out; omega)).set _ (by have := HLT.out; omega))
        go_wp2_with fail
        rw [← hV4]
        clear hV4 hm4 HSTO x0 x1 xf0 xf1 n0 n1
        go_wp2_with (go_at_call 83; refine (wakeP_any W _ B a len cap _ lb cb g lc cc h ld cd ms ws lc k HIX.out.2.2 HB4.out HS.out HC4.out HOW4.out HIX.out.2.1 (by have := HLY.out; omega) HLY.out.2.1 HR.out HK.out).mono ?_; rintro e w5 ⟨rfl, ho5, hm5⟩; have HO5 := Lib.hid ho5; have HP5 := Lib.hid (H104.out.off hm5 (by have := HLT.out; have := HLY.out; omega)); have HM5 := Lib.hid hm5; have n0 := HP5.out.c0; have n1 := HP5.out.c1; clear ho5 hm5)
        go_ret
        refine ⟨rfl, HOV4.out.moved HM5.out (by have := HLY.out; omega), ?_, HMW4.out.trans (moved_one HM5.out HLY.out.2.1 HLY.out.2.2.2.1)⟩
        unfold keptOr
        rw [if_neg HNE.out]
        exact HO5.out
end Go.Proofs.Ythcinjlghhfhmaa
