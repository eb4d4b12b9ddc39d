import Derived.Test.YtbclnklejleobaaMinW
namespace Go.Proofs.Ytbclnklejleobaa
open Go.RowKit
theorem min_bel (a b : Int) (w : World) : Calls Try.prog 52 #[.int .i64 a, .int .i64 b] w fun e w' => e = .returned (.int .i64 (minV a b)) ∧ Below w.heap.size w w' := by
  have hll := as_ll
  by_cases h : b < a
  · go_enter Try.func52, Try.ntmps52
    go_wp2
    go_loop [7, 13] (fun c i => (c = .int .i64 a ∧ i = .int .i64 0) ∨ (c = .int .i64 b ∧ i = .int .i64 1)) (fun _ i => 1 - (intOf i).toNat)
    case atStart => exact Or.inl ⟨rfl, rfl⟩
    case round =>
      rcases hrel with ⟨rfl, rfl⟩ | ⟨rfl, rfl⟩
      · go_wp2
        go_round
        case rel => exact Or.inr ⟨rfl, rfl⟩
        case measure => simp [intOf]
      · go_wp2
        go_ret
        exact ⟨ret_int (by unfold minV; rw [if_pos (by omega)]), (Below.refl _ _).alloc (Nat.le_refl _) _⟩
  · go_enter Try.func52, Try.ntmps52
    go_wp2
    go_loop [7, 13] (fun c i => (c = .int .i64 a ∧ i = .int .i64 0) ∨ (c = .int .i64 a ∧ i = .int .i64 1)) (fun _ i => 1 - (intOf i).toNat)
    case atStart => exact Or.inl ⟨rfl, rfl⟩
    case round =>
      rcases hrel with ⟨rfl, rfl⟩ | ⟨rfl, rfl⟩
      · go_wp2
        go_round
        case rel => exact Or.inr ⟨rfl, rfl⟩
        case measure => simp [intOf]
      · go_wp2
        go_ret
        exact ⟨ret_int (by unfold minV; rw [if_neg (by omega)]), (Below.refl _ _).alloc (Nat.le_refl _) _⟩
end Go.Proofs.Ytbclnklejleobaa
