/- A variable of two integers, and what keeps it. -/
import Derived.Test.YtedkeobhcpbigaaSl
import Derived.Test.YtedkeobhcpbigaaDraw
namespace Go.Proofs.Ytedkeobhcpbigaa
open Go.RowKit
/-- Block B holds the two integers x and y, and may be written. -/
structure PairAt (w : World) (B : Nat) (x y : Int) : Prop where
  c0 : w.cell? ⟨B, 0, none⟩ = some (.int .i64 x)
  c1 : w.cell? ⟨B, 1, none⟩ = some (.int .i64 y)
  f0 : w.frozen? ⟨B, 0, none⟩ = false
  f1 : w.frozen? ⟨B, 1, none⟩ = false
  lt : B < w.heap.size
theorem pair_new (w : World) (x y : Int) (t : TypeId) : PairAt (w.alloc (.cells #[.int .i64 x, .int .i64 y] t)) w.heap.size x y :=
  ⟨by go_simp, by go_simp, by go_simp, by go_simp, by simp⟩
theorem PairAt.belowB {w w' : World} {B C : Nat} {x y : Int} (h : PairAt w B x y) (hb : Below C w w') (hC : B < C) : PairAt w' B x y :=
  ⟨(hb.cell (p := ⟨B, 0, none⟩) hC).trans h.c0, (hb.cell (p := ⟨B, 1, none⟩) hC).trans h.c1, (hb.frozen (p := ⟨B, 0, none⟩) hC).trans h.f0, (hb.frozen (p := ⟨B, 1, none⟩) hC).trans h.f1, Nat.lt_of_lt_of_le h.lt hb.size⟩
theorem PairAt.below {w w' : World} {B : Nat} {x y : Int} (h : PairAt w B x y) (hb : Below w.heap.size w w') : PairAt w' B x y := h.belowB hb h.lt
theorem PairAt.alloc {w : World} {B : Nat} {x y : Int} (h : PairAt w B x y) (o : Obj) : PairAt (w.alloc o) B x y := h.below ((Below.refl _ _).alloc (Nat.le_refl _) _)
theorem PairAt.drew {w : World} {B : Nat} {x y : Int} (h : PairAt w B x y) : PairAt w.drew B x y := h.below (Below.refl _ _).drew
theorem PairAt.drewN {w : World} {B : Nat} {x y : Int} (h : PairAt w B x y) (n : Nat) : PairAt (w.drewN n) B x y := h.below (below_drewN0 _ _ _)
theorem PairAt.grown {w w' : World} {B C : Nat} {x y : Int} (h : PairAt w B x y) (hg : w.grownBy w' (some C)) (hne : B ≠ C) : PairAt w' B x y :=
  have hb := hg.block B h.lt (by simpa using hne)
  ⟨(World.cell?_of_block (a := ⟨B, 0, none⟩) hb).trans h.c0, (World.cell?_of_block (a := ⟨B, 1, none⟩) hb).trans h.c1, (World.frozen?_of_block (a := ⟨B, 0, none⟩) hb).trans h.f0, (World.frozen?_of_block (a := ⟨B, 1, none⟩) hb).trans h.f1, Nat.lt_of_lt_of_le h.lt hg.size⟩
theorem PairAt.set {w : World} {B C o : Nat} {x y : Int} (h : PairAt w B x y) (v : Value) (hne : B ≠ C) : PairAt (w.setCell ⟨C, o, none⟩ v) B x y := h.grown (grown_setCell _ _ _ _) hne
theorem grown_of_below {w w' : World} (h : Below w.heap.size w w') (row : Option Nat) : w.grownBy w' row := ⟨h.os, h.tape, h.output, h.size, fun k hk _ => h.block k hk⟩
theorem Cur.belowN {W W' : World} {B : Nat} (h : Cur W B) (hb : Below W.heap.size W W') : Cur W' B := h.kept (grown_of_below hb none) (fun k e => by cases e)
theorem grown_newset {w w' : World} {B C o : Nat} (h : w.grownBy w' (some B)) (v : Value) (hC : w.heap.size ≤ C) : w.grownBy (w'.setCell ⟨C, o, none⟩ v) (some B) :=
  ⟨h.os, h.tape, h.output, by simpa [World.setCell] using h.size, fun k hk hne => (Below.heap_setCell w' _ v k (by simp; omega)).trans (h.block k hk hne)⟩
theorem grown_newalloc {w w' : World} {B : Nat} (h : w.grownBy w' (some B)) (o : Obj) : w.grownBy (w'.alloc o) (some B) := grown_trans h (World.grownBy_alloc w' o _)
end Go.Proofs.Ytedkeobhcpbigaa
