import Derived.Test.YtklookaggnohdaaIntW
import Derived.OpenShut
import Derived.Outline
import Derived.LoopTactic
namespace Go.Proofs.Ytklookaggnohdaa
open Go.RowKit
def minV (a b : Int) : Int := if b < a then b else a
def maxV (a b : Int) : Int := if a < b then b else a
theorem as_ll (v : Value) (w : World) : (Instr.typeAssert (.iface 77 v) 75 77 true).run Try.prog w = .ok (.tuple #[v, .bool true]) w := by kernel_rfl
theorem as_gl (v : Value) (w : World) : (Instr.typeAssert (.iface 72 v) 75 77 true).run Try.prog w = .ok (.tuple #[.agg #[], .bool false]) w := by kernel_rfl
theorem as_gg (v : Value) (w : World) : (Instr.typeAssert (.iface 72 v) 75 72 true).run Try.prog w = .ok (.tuple #[v, .bool true]) w := by kernel_rfl
theorem max_any (a b : Int) (w : World) : Calls Try.prog 57 #[.int .i64 a, .int .i64 b] w fun e w' => e = .returned (.int .i64 (maxV a b)) ∧ Grown w w' := by
  have hgl := as_gl
  have hgg := as_gg
  by_cases h : a < b
  · go_enter Try.func57, Try.ntmps57
    go_wp2
    go_loop [7, 13] (fun c i => (c = .int .i64 a ∧ i = .int .i64 0) ∨ (c = .int .i64 b ∧ i = .int .i64 1)) (fun _ i => 1 - (intOf i).toNat)
    case atStart => exact Or.inl ⟨rfl, rfl⟩
    case round =>
      rcases hrel with ⟨rfl, rfl⟩ | ⟨rfl, rfl⟩
      · go_wp2
        go_round
        case rel => exact Or.inr ⟨rfl, rfl⟩
        case measure => simp [intOf]
      · go_wp2
        go_ret
        exact ⟨ret_int (by unfold maxV; rw [if_pos (by omega)]), (Grown.refl _).alloc _ _⟩
  · go_enter Try.func57, Try.ntmps57
    go_wp2
    go_loop [7, 13] (fun c i => (c = .int .i64 a ∧ i = .int .i64 0) ∨ (c = .int .i64 a ∧ i = .int .i64 1)) (fun _ i => 1 - (intOf i).toNat)
    case atStart => exact Or.inl ⟨rfl, rfl⟩
    case round =>
      rcases hrel with ⟨rfl, rfl⟩ | ⟨rfl, rfl⟩
      · go_wp2
        go_round
        case rel => exact Or.inr ⟨rfl, rfl⟩
        case measure => simp [intOf]
      · go_wp2
        go_ret
        exact ⟨ret_int (by unfold maxV; rw [if_neg (by omega)]), (Grown.refl _).alloc _ _⟩
theorem specMax_any (a b : Int) (w : World) : Calls Try.prog 56 #[.int .i64 a, .int .i64 b] w fun e w' => e = .returned (.int .i64 (maxV a b)) ∧ w = w' := by
  by_cases h : a < b
  · go_enter Try.func56, Try.ntmps56
    go_wp2
    go_ret
    exact ⟨ret_int (by unfold maxV; rw [if_pos (by omega)]), rfl⟩
  · go_enter Try.func56, Try.ntmps56
    go_wp2
    go_ret
    exact ⟨ret_int (by unfold maxV; rw [if_neg (by omega)]), rfl⟩
end Go.Proofs.Ytklookaggnohdaa
