import Derived.Test.YtklookaggnohdaaMinW
namespace Go.Proofs.Ytklookaggnohdaa
open Go.RowKit
theorem max_bel (a b : Int) (w : World) : Calls Try.prog 57 #[.int .i64 a, .int .i64 b] w fun e w' => e = .returned (.int .i64 (maxV a b)) ∧ Below w.heap.size w w' := by
  have hgl := as_gl
  have hgg := as_gg
  by_cases h : a < b
  · go_enter Try.func57, Try.ntmps57
    go_wp2
    go_loop [7, 13] (fun c i => (c = .int .i64 a ∧ i = .int .i64 0) ∨ (c = .int .i64 b ∧ i = .int .i64 1)) (fun _ i => 1 - (intOf i).toNat)
    case atStart => exact Or.inl ⟨rfl, rfl⟩
    case round =>
      rcases hrel with ⟨rfl, rfl⟩ | ⟨rfl, rfl⟩
      · go_wp2
        go_round
        case rel => exact Or.inr ⟨rfl, rfl⟩
        case measure => simp [intOf]
      · go_wp2
        go_ret
        exact ⟨ret_int (by unfold maxV; rw [if_pos (by omega)]), (Below.refl _ _).alloc (Nat.le_refl _) _⟩
  · go_enter Try.func57, Try.ntmps57
    go_wp2
    go_loop [7, 13] (fun c i => (c = .int .i64 a ∧ i = .int .i64 0) ∨ (c = .int .i64 a ∧ i = .int .i64 1)) (fun _ i => 1 - (intOf i).toNat)
    case atStart => exact Or.inl ⟨rfl, rfl⟩
    case round =>
      rcases hrel with ⟨rfl, rfl⟩ | ⟨rfl, rfl⟩
      · go_wp2
        go_round
        case rel => exact Or.inr ⟨rfl, rfl⟩
        case measure => simp [intOf]
      · go_wp2
        go_ret
        exact ⟨ret_int (by unfold maxV; rw [if_neg (by omega)]), (Below.refl _ _).alloc (Nat.le_refl _) _⟩
end Go.Proofs.Ytklookaggnohdaa
