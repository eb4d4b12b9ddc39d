/- What the laws do to networks: copy, measure, compare, mark. -/
import Derived.Test.YtjckcggjmcaaoaaNetV
import Derived.Test.YtjckcggjmcaaoaaPair
namespace Go.Proofs.Ytjckcggjmcaaoaa
open Go.RowKit
theorem below_drop {w w' : World} (h : Below w.drew.heap.size w.drew w') : Below w.heap.size w w' := ⟨h.os, h.tape, h.output, h.size, h.block⟩
theorem NetAt.moved {w w' : World} {B lo hi : Nat} {n : Int} {a : Option Addr} {len cap : Nat} (h : NetAt w B n a len cap) (hm : Moved lo hi w w') (ho : B + 1 ≤ lo ∨ hi ≤ B) : NetAt w' B n a len cap :=
  ⟨(World.cell?_of_block (w := w) (a := ⟨B, 0, none⟩) (hm.block B h.lt (by omega))).trans h.c0, (World.cell?_of_block (w := w) (a := ⟨B, 1, none⟩) (hm.block B h.lt (by omega))).trans h.c1, Nat.lt_of_lt_of_le h.lt hm.size⟩
theorem moved_set {lo hi : Nat} (w : World) (C o : Nat) (v : Value) (h1 : lo ≤ C) (h2 : C < hi) : Moved lo hi w (w.setCell ⟨C, o, none⟩ v) := Moved.of_grown (grown_setCell _ _ _ _) h1 h2
/-- What a call leaves that copies a network. -/
def MadeNet (n : Int) (ls : List (Int × Int)) (w : World) (E : Ending) (w' : World) : Prop :=
  ∃ a len cap, E = .returned (.agg #[.int .i64 n, .slice a len cap]) ∧ OwnL w' w.heap.size w'.heap.size a len cap ls ∧ Below w.heap.size w w'
end Go.Proofs.Ytjckcggjmcaaoaa
