/- Bytes drawn by the model's cursor. -/
import Derived.Test.YtedkeobhcpbigaaDrawNum
import Derived.Test.YtedkeobhcpbigaaSlA
namespace Go.Proofs.Ytedkeobhcpbigaa
open Go.RowKit
theorem Cur.below {W W' : World} {B : Nat} (h : Cur W B) (hb : Below (B + 1) W W') : Cur W' B := by
  obtain ⟨a, len, cap, i, h0, c0, c1, c2, f1, f2, g1, g2, g3, hc⟩ := h
  have e : ∀ o, W'.cell? ⟨B, o, none⟩ = W.cell? ⟨B, o, none⟩ := fun o => hb.cell (p := ⟨B, o, none⟩) (Nat.lt_succ_self _)
  have ef : ∀ o, W'.frozen? ⟨B, o, none⟩ = W.frozen? ⟨B, o, none⟩ := fun o => hb.frozen (p := ⟨B, o, none⟩) (Nat.lt_succ_self _)
  refine ⟨a, len, cap, i, h0, (e 0).trans c0, (e 1).trans c1, (e 2).trans c2, (ef 1).trans f1, (ef 2).trans f2, g1, g2, g3, ?_⟩
  exact hc.below (hb.mono (Nat.le_succ _))
theorem grown_moved {a b c : World} {B lo hi : Nat} (h : a.grownBy b (some B)) (g : Moved lo hi b c) (hl : a.heap.size ≤ lo) : a.grownBy c (some B) :=
  ⟨g.os.trans h.os, g.tape.trans h.tape, g.output.trans h.output, Nat.le_trans h.size g.size, fun k hk hne => (g.block k (Nat.lt_of_lt_of_le hk h.size) (by omega)).trans (h.block k hk hne)⟩
theorem Own.grown {k : IntKind} {e : TypeId} {w w' : World} {lo hi B : Nat} {a : Option Addr} {len cap : Nat} {zs : List Int} (h : Own k e w lo hi a len cap zs) (hg : w.grownBy w' (some B)) (hB : B < lo) : Own k e w' lo hi a len cap zs :=
  h.moved (Moved.of_grown hg (Nat.le_refl B) (Nat.lt_succ_self B)) (.inr hB)
/-- What a draw of bytes leaves. -/
def DrewL (B n : Nat) (w : World) (e : Ending) (w' : World) : Prop :=
  ∃ (zs : List Int) (a : Option Addr) (len cap : Nat), len ≤ n ∧ e = .returned (.slice a len cap) ∧ Own .u8 5 w' w.heap.size w'.heap.size a len cap zs ∧ Cur w' B ∧ w.grownBy w' (some B)
end Go.Proofs.Ytedkeobhcpbigaa
