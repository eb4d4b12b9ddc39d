import Derived.Test.YtbclnklejleobaaIntW
import Derived.OpenShut
import Derived.Outline
import Derived.LoopTactic
namespace Go.Proofs.Ytbclnklejleobaa
open Go.RowKit
def minV (a b : Int) : Int := if b < a then b else a
def maxV (a b : Int) : Int := if a < b then b else a
theorem as_ll (v : Value) (w : World) : (Instr.typeAssert (.iface 65 v) 71 65 true).run Try.prog w = .ok (.tuple #[v, .bool true]) w := by kernel_rfl
theorem as_gl (v : Value) (w : World) : (Instr.typeAssert (.iface 74 v) 71 65 true).run Try.prog w = .ok (.tuple #[.agg #[], .bool false]) w := by kernel_rfl
theorem as_gg (v : Value) (w : World) : (Instr.typeAssert (.iface 74 v) 71 74 true).run Try.prog w = .ok (.tuple #[v, .bool true]) w := by kernel_rfl
theorem min_any (a b : Int) (w : World) : Calls Try.prog 52 #[.int .i64 a, .int .i64 b] w fun e w' => e = .returned (.int .i64 (minV a b)) ∧ Grown w w' := by
  have hll := as_ll
  by_cases h : b < a
  · go_enter Try.func52, Try.ntmps52
    go_wp2
    go_loop [7, 13] (fun c i => (c = .int .i64 a ∧ i = .int .i64 0) ∨ (c = .int .i64 b ∧ i = .int .i64 1)) (fun _ i => 1 - (intOf i).toNat)
    case atStart => exact Or.inl ⟨rfl, rfl⟩
    case round =>
      rcases hrel with ⟨rfl, rfl⟩ | ⟨rfl, rfl⟩
      · go_wp2
        go_round
        case rel => exact Or.inr ⟨rfl, rfl⟩
        case measure => simp [intOf]
      · go_wp2
        go_ret
        exact ⟨ret_int (by unfold minV; rw [if_pos (by omega)]), (Grown.refl _).alloc _ _⟩
  · go_enter Try.func52, Try.ntmps52
    go_wp2
    go_loop [7, 13] (fun c i => (c = .int .i64 a ∧ i = .int .i64 0) ∨ (c = .int .i64 a ∧ i = .int .i64 1)) (fun _ i => 1 - (intOf i).toNat)
    case atStart => exact Or.inl ⟨rfl, rfl⟩
    case round =>
      rcases hrel with ⟨rfl, rfl⟩ | ⟨rfl, rfl⟩
      · go_wp2
        go_round
        case rel => exact Or.inr ⟨rfl, rfl⟩
        case measure => simp [intOf]
      · go_wp2
        go_ret
        exact ⟨ret_int (by unfold minV; rw [if_neg (by omega)]), (Grown.refl _).alloc _ _⟩
theorem specMin_any (a b : Int) (w : World) : Calls Try.prog 68 #[.int .i64 a, .int .i64 b] w fun e w' => e = .returned (.int .i64 (minV a b)) ∧ w = w' := by
  by_cases h : b < a
  · go_enter Try.func68, Try.ntmps68
    go_wp2
    go_ret
    exact ⟨ret_int (by unfold minV; rw [if_pos (by omega)]), rfl⟩
  · go_enter Try.func68, Try.ntmps68
    go_wp2
    go_ret
    exact ⟨ret_int (by unfold minV; rw [if_neg (by omega)]), rfl⟩
theorem specMax_any (a b : Int) (w : World) : Calls Try.prog 67 #[.int .i64 a, .int .i64 b] w fun e w' => e = .returned (.int .i64 (maxV a b)) ∧ w = w' := by
  by_cases h : a < b
  · go_enter Try.func67, Try.ntmps67
    go_wp2
    go_ret
    exact ⟨ret_int (by unfold maxV; rw [if_pos (by omega)]), rfl⟩
  · go_enter Try.func67, Try.ntmps67
    go_wp2
    go_ret
    exact ⟨ret_int (by unfold maxV; rw [if_neg (by omega)]), rfl⟩
end Go.Proofs.Ytbclnklejleobaa
