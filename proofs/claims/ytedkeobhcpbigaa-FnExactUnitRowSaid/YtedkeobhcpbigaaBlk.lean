/- A row of the call's own that lies in one known block. -/
import Derived.Test.YtedkeobhcpbigaaSlA
import Derived.Test.YtedkeobhcpbigaaStepSl
namespace Go.Proofs.Ytedkeobhcpbigaa
open Go.RowKit
/-- A row that lies in the block g. -/
def OwnB (w : World) (g len cap : Nat) (zs : List Int) : Prop := Own .i64 3 w g (g + 1) (some ⟨g, 0, none⟩) len cap zs
theorem ownB_new (w : World) : OwnB (w.alloc (.cells #[] 3)) w.heap.size 0 0 [] := own_nil _ _ _
theorem OwnB.lt {w : World} {g len cap : Nat} {zs : List Int} (h : OwnB w g len cap zs) : g < w.heap.size := h.2.2.1
theorem OwnB.below {w w' : World} {g len cap : Nat} {zs : List Int} (h : OwnB w g len cap zs) (hb : Below w.heap.size w w') : OwnB w' g len cap zs := Own.below h hb
theorem OwnB.off {w w' : World} {g len cap x : Nat} {zs : List Int} (h : OwnB w g len cap zs) (hm : Moved x (x + 1) w w') (hne : g ≠ x) : OwnB w' g len cap zs := Own.moved h hm (by omega)
theorem OwnB.spot {w : World} {g len cap : Nat} {zs : List Int} (h : OwnB w g len cap zs) : zs.length = len ∧ len ≤ cap ∧ cap ≤ maxLen ∧ (∀ j, j < len → w.cell? ⟨g, j, none⟩ = some (.int .i64 (zs.getD j 0))) ∧ ∀ j, w.frozen? ⟨g, j, none⟩ = false := by
  rcases Own.spot h with ⟨h0, _⟩ | ⟨g', hg, _, _, h1, h2, hc, hf⟩
  · cases h0
  · cases hg; exact ⟨h.1, h1, h2, hc, hf⟩
theorem OwnB.stored {w : World} {g len cap : Nat} {zs : List Int} (h : OwnB w g len cap zs) (j : Nat) (x : Int) (hx : (Lit.int .i64 x).wf = true) : OwnB (w.setCell ⟨g, j, none⟩ (.int .i64 x)) g len cap (zs.set j x) ∧ Moved g (g + 1) w (w.setCell ⟨g, j, none⟩ (.int .i64 x)) := Own.stored h j x hx
/-- One more number behind such a row: it stays in its block, or goes to a new one. -/
theorem wp_append_blk {P : Program} {w : World} {ops : Array Oper} {rest : List Oper} {o : Oper} {act : Act} {Q : Exit → Act → World → Prop} (hgd : o.guard = none) (s x : Operand) (t : TypeId)
    (ho : o.op = .call { callee := .builtin .append, args := #[s, x], argTypes := #[t, t] }) (i : TypeInfo) (ht : P.underlying t = some (.slice 3)) (hi : P.info? 3 = some i)
    (hz : i.zero = some (.int .i64 0)) (hsize : i.size = 1) (hby : i.bytes = 8) (g len cap : Nat) (zs : List Int) (hs : act.eval s = .slice (some ⟨g, 0, none⟩) len cap) (hown : OwnB w g len cap zs)
    (ad : Addr) (y : Int) (c2 : Nat) (hx : act.eval x = .slice (some ad) 1 c2) (hsee : Sees .i64 w (some ad) 1 [y]) (h8 : len ≤ 1073741824)
    (h : ∀ g' cap' w', OwnB w' g' (len + 1) cap' (zs ++ [y]) → (g' = g ∨ g' = w.heap.size) → Moved g (g + 1) w w' → wpList P ops Q rest (act.put o.dst (.slice (some ⟨g', 0, none⟩) (len + 1) cap')) w') : wpList P ops Q (o :: rest) act w := by
  have hwf : ∀ n ∈ zs ++ [y], (Lit.int .i64 n).wf = true := by
    intro n hn
    rcases List.mem_append.1 hn with hn | hn
    · exact hown.2.1 n hn
    · exact hsee.2.1 n hn
  refine wpList_append_own_at w hgd s x t ho g 3 i (.int .i64 0) 1 8 ht hi hz hsize hby rfl (by decide) _ len (zs.map (.int .i64)) hs hown.2.2.2.1 ad 1 c2 [.int .i64 y] hx rfl ?_ (ints_oneCell _ [y]) (by unfold maxLen; omega) (by omega) (Nat.le_of_lt hown.lt) ?_
  · intro j u hu
    have hj := (List.getElem?_eq_some_iff.1 hu).1
    simp at hj
    subst hj
    rcases hsee.2.2 with h0 | ⟨b, off, ha, _, hc⟩
    · omega
    · obtain rfl := Option.some.inj ha
      rw [add_plain, hc 0 (by omega), ← hu]
      rfl
  · intro v' w' ho' hg _ hat
    obtain ⟨a', cap', rfl⟩ := own_shape ho'
    have hOwn : Own .i64 3 w' g w'.heap.size a' (len + 1) cap' (zs ++ [y]) := own_of (n := len + 1) (by rw [List.map_append]; exact ho') hwf
    rcases hOwn.spot with ⟨_, h0, _⟩ | ⟨g', rfl, _⟩
    · omega
    · refine h g' cap' w' hOwn.narrow ?_ ⟨hg.os, hg.tape, hg.output, hg.size, fun k hk hne => hg.block k hk fun e => hne ?_⟩
      · simpa [Value.ownBlock] using hat
      · simp only [Value.ownBlock, Option.some.injEq] at e
        omega
end Go.Proofs.Ytedkeobhcpbigaa
