/- Draws of chapter 5: rows and matrices. -/
import Derived.Test.YthcinjlghhfhmaaDrawB
import Derived.Test.YthcinjlghhfhmaaElimP
import Derived.Test.YthcinjlghhfhmaaRedW
namespace Go.Proofs.Ythcinjlghhfhmaa
open Go.RowKit
theorem OwnM.grown {w w' : World} {lo hi B : Nat} {a : Option Addr} {len cap : Nat} {ms : List (List Int)} (h : OwnM w lo hi a len cap ms) (hg : w.grownBy w' (some B)) (hB : B < lo) : OwnM w' lo hi a len cap ms :=
  h.moved (Moved.of_grown hg (Nat.le_refl _) (Nat.lt_succ_self _)) (.inr hB)
theorem wp_append_run {P : Program} {w : World} {ops : Array Oper} {rest : List Oper} {o : Oper} {act : Act} {Q : Exit → Act → World → Prop} (hgd : o.guard = none) (s x : Operand) (t : TypeId)
    (ho : o.op = .call { callee := .builtin .append, args := #[s, x], argTypes := #[t, t] }) (vs vx : Value) (hs : act.eval s = vs) (hx : act.eval x = vx) (v' : Value) (w' : World) (hr : (Builtin.append_ #[t, t] o.type #[vs, vx]).run P w = .ok v' w')
    (h : wpList P ops Q rest (act.put o.dst v') w') : wpList P ops Q (o :: rest) act w := by
  refine wpList_plain hgd fun K hK => ?_
  unfold Oper.wp execOp
  simp only [ho, resolve, invoke, builtin, Sem.run_bind, Sem.run_pure, Result.andThen_ok, List.map_toArray, List.map_cons, List.map_nil, hs, hx, hr]
  exact hK _ _ h
/-- What a draw of a row leaves. -/
def DrewR (B n : Nat) (w : World) (e : Ending) (w' : World) : Prop :=
  ∃ (zs : List Int) (a : Option Addr) (cap : Nat), e = .returned (.slice a n cap) ∧ Own .i64 3 w' w.heap.size w'.heap.size a n cap zs ∧ Cur w' B ∧ w.grownBy w' (some B)
/-- What a draw of rows leaves. -/
def DrewM (B n m : Nat) (w : World) (e : Ending) (w' : World) : Prop :=
  ∃ (ms : List (List Int)) (a : Option Addr) (len cap : Nat), len ≤ m ∧ (∀ r, r < len → (row ms r).length = n) ∧ e = .returned (.slice a len cap) ∧ OwnM w' w.heap.size w'.heap.size a len cap ms ∧ Cur w' B ∧ w.grownBy w' (some B)
theorem ownM_nil0 (W : World) : OwnM (W.alloc (.cells #[] 26)) W.heap.size (W.heap.size + 1) (some ⟨W.heap.size, 0, none⟩) 0 0 [] :=
  ⟨rfl, by simp, fun x hx => by cases hx; exact ⟨Nat.le_refl _, Nat.lt_succ_self _⟩, fun _ => none, fun _ => 0, ⟨rfl, .inr ⟨W.heap.size, 0, #[], rfl, Nat.le_refl _, heap_alloc_new W _, Nat.le_refl _, Nat.zero_le _, rfl, rfl⟩⟩, fun r hr => absurd hr (Nat.not_lt_zero _)⟩
theorem OwnM.alloc {w : World} {lo hi : Nat} {a : Option Addr} {len cap : Nat} {ms : List (List Int)} (h : OwnM w lo hi a len cap ms) (o : Obj) : OwnM (w.alloc o) lo hi a len cap ms :=
  h.below ((Below.refl _ _).alloc (Nat.le_refl _) _)
theorem rows_more {ms : List (List Int)} {z : List Int} {k n : Nat} (hl : ms.length = k) (h : ∀ r, r < k → (row ms r).length = n) (hz : z.length = n) : ∀ r, r < k + 1 → (row (ms ++ [z]) r).length = n := fun r hr => by
  rcases Nat.lt_or_eq_of_le (Nat.lt_succ_iff.1 hr) with h1 | h1
  · rw [row_append_left (by omega)]; exact h r h1
  · rw [h1, ← hl, row_append_last]; exact hz
end Go.Proofs.Ythcinjlghhfhmaa
/- Draws of chapter 5: matrices, and what is none. -/
namespace Go.Proofs.Ythcinjlghhfhmaa
open Go.RowKit
/-- What a draw of a matrix leaves, or of what is none: rows 1 and on have n columns. -/
def DrewA (B n : Nat) (w : World) (e : Ending) (w' : World) : Prop :=
  ∃ (ms : List (List Int)) (a : Option Addr) (len cap : Nat), len ≤ 13 ∧ (∀ r, r < len → (row ms r).length ≤ 7) ∧ (∀ r, 1 ≤ r → r < len → (row ms r).length = n) ∧ e = .returned (.slice a len cap) ∧ OwnM w' w.heap.size w'.heap.size a len cap ms ∧ Cur w' B ∧ w.grownBy w' (some B)
theorem rows_set {ms : List (List Int)} {n : Nat} {z : List Int} {len : Nat} (hl : ms.length = len) (h0 : 0 < len) (h : ∀ r, r < len → (row ms r).length = n) (hn : n ≤ 7) (hz : z.length ≤ 7) :
    (∀ r, r < len → (row (ms.set 0 z) r).length ≤ 7) ∧ ∀ r, 1 ≤ r → r < len → (row (ms.set 0 z) r).length = n := by
  refine ⟨fun r hr => ?_, fun r h1 hr => ?_⟩
  · by_cases e : r = 0
    · subst e; rw [row_set_same (by omega)]; exact hz
    · rw [row_set_other e, h r hr]; exact hn
  · rw [row_set_other (by omega), h r hr]
theorem OwnM.blockAt {w : World} {lo hi : Nat} {a : Option Addr} {len cap : Nat} {ms : List (List Int)} (h : OwnM w lo hi a len cap ms) (hl : 0 < len) : ∃ g, a = some ⟨g, 0, none⟩ ∧ g < w.heap.size ∧ len ≤ cap ∧ ∀ i, i < len → w.frozen? ⟨g, i, none⟩ = false := by
  obtain ⟨h1, h2, h3, A, C, h4, h5⟩ := h
  rcases ownsRow_spot h4 with ⟨_, h0⟩ | ⟨g, rfl, _, hg, hc, _, _, hf⟩
  · omega
  · exact ⟨g, rfl, hg, hc, fun i _ => hf i⟩
theorem own_cell0 {w : World} {lo hi g len cap : Nat} {zs : List Int} (h : Own .i64 3 w lo hi (some ⟨g, 0, none⟩) len cap zs) (hl : 0 < len) : w.cell? ⟨g, 0, none⟩ = some (.int .i64 (zs.getD 0 0)) := by
  rcases h.spot with ⟨h0, _⟩ | ⟨g', hg', _, _, _, _, hc, _⟩
  · cases h0
  · cases hg'; exact hc 0 hl
theorem own_frozen0 {w : World} {lo hi g len cap : Nat} {zs : List Int} (h : Own .i64 3 w lo hi (some ⟨g, 0, none⟩) len cap zs) : w.frozen? ⟨g, 0, none⟩ = false := by
  rcases h.spot with ⟨h0, _⟩ | ⟨g', hg', _, _, _, _, _, hf⟩
  · cases h0
  · cases hg'; exact hf 0
theorem below_grown {w w' : World} {B : Nat} (h : Below w.heap.size w w') : w.grownBy w' (some B) := ⟨h.os, h.tape, h.output, h.size, fun j hj _ => h.block j hj⟩
end Go.Proofs.Ythcinjlghhfhmaa
/- Draws of chapter 5: a matrix and a number of columns. -/
namespace Go.Proofs.Ythcinjlghhfhmaa
open Go.RowKit
theorem drawn_small {ms : List (List Int)} {len : Nat} (hl : ms.length = len) (h : len ≤ 13) (hr : ∀ r, r < len → (row ms r).length ≤ 7) : SmallM ms := by
  have := tot_le (ms := ms) (n := 7) (fun i hi => hr i (by omega)) _ (Nat.le_refl _)
  unfold SmallM
  omega
/-- A matrix, or what is none, and a number of columns. -/
def GotMI (w : World) (e : Ending) (w' : World) : Prop :=
  ∃ (ms : List (List Int)) (a : Option Addr) (len cap : Nat) (n : Int), SmallM ms ∧ len ≤ 13 ∧ (-1 ≤ n ∧ n ≤ 7) ∧ e = .returned (.tuple #[.slice a len cap, .int .i64 n]) ∧ OwnM w' w.heap.size w'.heap.size a len cap ms ∧ Below w.heap.size w w'
end Go.Proofs.Ythcinjlghhfhmaa
