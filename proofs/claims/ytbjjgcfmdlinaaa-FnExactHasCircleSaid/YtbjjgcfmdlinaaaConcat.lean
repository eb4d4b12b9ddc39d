/- Slices of integers joined: the library's Grow and Concat. -/
import Derived.Test.YtbjjgcfmdlinaaaSlA
import Derived.Lib.AppendZerosOnto
namespace Go.Proofs.Ytbjjgcfmdlinaaa
open Go.RowKit
theorem own_none (k : IntKind) (e : TypeId) (w : World) (lo hi : Nat) (h : hi ≤ w.heap.size) : Own k e w lo hi none 0 0 [] :=
  ⟨rfl, (fun _ h => by cases h), h, ⟨rfl, .inl ⟨rfl, rfl⟩⟩, fun x hx => by cases hx⟩
/-- A literal of one element. -/
theorem own_one {k : IntKind} {x : Int} (h : (Lit.int k x).wf = true) (e : TypeId) (w : World) : Own k e (w.alloc (.cells #[.int k x] e)) w.heap.size (w.heap.size + 1) (some ⟨w.heap.size, 0, none⟩) 1 1 [x] := by
  refine ⟨rfl, by simpa using h, by simp, ⟨rfl, .inr ⟨w.heap.size, 1, #[.int k x], rfl, Nat.le_refl _, heap_alloc_new w _, Nat.le_refl _, by unfold maxLen; omega, rfl, rfl⟩⟩, fun x hx => ?_⟩
  obtain rfl := Option.some.inj hx
  exact ⟨Nat.le_refl _, Nat.lt_succ_self _⟩
theorem own_room (e : TypeId) (w : World) (C : Array Value) (G : Nat) (hG : G ≤ maxLen) (hC : C.size = G) :
    Own .i64 e (w.alloc (.cells C e)) w.heap.size (w.heap.size + 1) (some ⟨w.heap.size, 0, none⟩) 0 G [] := by
  refine ⟨rfl, (fun _ h => by cases h), by simp, ⟨rfl, .inr ⟨w.heap.size, G, C, rfl, Nat.le_refl _, heap_alloc_new w _, Nat.zero_le _, hG, by rw [hC, Nat.mul_one], by simp⟩⟩, fun x hx => ?_⟩
  obtain rfl := Option.some.inj hx
  exact ⟨Nat.le_refl _, Nat.lt_succ_self _⟩
theorem zeroCells_size (n : Nat) : (Builtin.zeroCells (Value.int .i64 0).cells n).size = n := by
  have : (Value.int .i64 0).cells = #[Value.int .i64 0] := rfl
  simp [this, Builtin.zeroCells]
/-- The lengths of the first parts together. -/
def totC (f : Nat → Nat) : Nat → Nat
  | 0 => 0
  | k + 1 => totC f k + f k
theorem totC_le (f : Nat → Nat) {k n : Nat} (h : k ≤ n) : totC f k ≤ totC f n := by
  induction n with
  | zero => rw [Nat.le_zero.1 h]; exact Nat.le_refl _
  | succ n ih =>
    rcases Nat.lt_or_ge n k with h1 | h1
    · rw [show k = n + 1 by omega]; exact Nat.le_refl _
    · exact Nat.le_trans (ih h1) (Nat.le_add_right _ _)
/-- The first parts, one behind the other. -/
def cat (Z : Nat → List Int) : Nat → List Int
  | 0 => []
  | k + 1 => cat Z k ++ Z k
theorem cat_len {Z : Nat → List Int} {f : Nat → Nat} {n : Nat} (h : ∀ j, j < n → (Z j).length = f j) : ∀ k, k ≤ n → (cat Z k).length = totC f k := by
  intro k
  induction k with
  | zero => intro _; rfl
  | succ k ih => intro hk; rw [cat, List.length_append, ih (by omega), h k (by omega)]; rfl
/-- What a slice of slices holds. -/
structure Parts (W : World) (L n : Nat) (A : Nat → Option Addr) (f C : Nat → Nat) (Z : Nat → List Int) : Prop where
  lt : L < W.heap.size
  cell : ∀ j, j < n → W.cell? ⟨L, j, none⟩ = some (.slice (A j) (f j) (C j))
  sees : ∀ j, j < n → Sees .i64 W (A j) (f j) (Z j)
end Go.Proofs.Ytbjjgcfmdlinaaa
