/- The contracts of chapter 1's functions and of the model's: what each returns. -/
import Derived.Test.YtedkeobhcpbigaaProg
import Derived.WalkKit
import Derived.ProofKit
import Derived.Lib.Hide
import Derived.OpenShut
import Derived.Outline
import Derived.LoopTactic
namespace Go.Proofs.Ytedkeobhcpbigaa
open Go.RowKit
def inR (n lo hi : Int) : Bool := decide (lo ≤ n ∧ n ≤ hi)
theorem inR_true {n lo hi : Int} : inR n lo hi = true ↔ lo ≤ n ∧ n ≤ hi := by unfold inR; simp
theorem inR_false {n lo hi : Int} : inR n lo hi = false ↔ ¬ (lo ≤ n ∧ n ≤ hi) := by unfold inR; simp
def modV (p q : Int) : Int := if inR q 1 1000000000000 then p % q else 0
def ceilV (a b : Int) : Int := if inR a 0 1000000000000 && inR b 1 1000000000000 then (a + b - 1) / b else 0
theorem ret_int {k : IntKind} {a b : Int} (h : a = b) : Ending.returned (.int k a) = .returned (.int k b) := by rw [h]
theorem ret_bool {a b : Bool} (h : a = b) : Ending.returned (.bool a) = .returned (.bool b) := by rw [h]
theorem l1In_any (n lo hi : Int) (w : World) : Calls Try.prog 52 #[.int .i64 n, .int .i64 lo, .int .i64 hi] w fun e w' => e = .returned (.bool (inR n lo hi)) ∧ w = w' := by
  by_cases h1 : lo ≤ n <;> by_cases h2 : n ≤ hi
  all_goals
    go_enter Try.func52, Try.ntmps52
    go_wp2
    go_ret
    exact ⟨ret_bool (by simp [inR, h1, h2]), rfl⟩
theorem inRange_any (n lo hi : Int) (w : World) : Calls Try.prog 43 #[.int .i64 n, .int .i64 lo, .int .i64 hi] w fun e w' => e = .returned (.bool (inR n lo hi)) ∧ w = w' := by
  by_cases h1 : lo ≤ n <;> by_cases h2 : n ≤ hi
  all_goals
    go_enter Try.func43, Try.ntmps43
    go_wp2
    go_ret
    exact ⟨ret_bool (by simp [inR, h1, h2]), rfl⟩
/-! Mod -/
theorem tmod_bd {p q : Int} (h : 1 ≤ q) : -q < p.tmod q ∧ p.tmod q < q := by
  have h1 := Int.tmod_lt_of_pos p (show 0 < q by omega)
  have h2 := Int.lt_tmod_of_pos p (show 0 < q by omega)
  exact ⟨h2, h1⟩
theorem tmod_emod' (p q : Int) : (p.tmod q) % q = p % q := by
  rw [Int.tmod_def, Int.sub_mul_emod_self_left]
theorem tmod_neg {p q : Int} (h : 1 ≤ q) (hn : p.tmod q < 0) : p.tmod q + q = p % q := by
  have hb := tmod_bd (p := p) h
  have h3 : (p.tmod q + q) % q = p % q := by rw [Int.add_emod_right, tmod_emod']
  rw [← h3, Int.emod_eq_of_lt (by omega) (by omega)]
theorem tmod_pos {p q : Int} (h : 1 ≤ q) (hn : ¬ p.tmod q < 0) : p.tmod q = p % q := by
  have hb := tmod_bd (p := p) h
  rw [← tmod_emod' p q, Int.emod_eq_of_lt (by omega) (by omega)]
theorem tmod_twice (p q : Int) : (p.tmod q + q) % q = p % q := by rw [Int.add_emod_right, tmod_emod']
/-! CeilDiv -/
end Go.Proofs.Ytedkeobhcpbigaa
namespace Go.Proofs.Ytedkeobhcpbigaa
open Go.RowKit
def minV (a b : Int) : Int := if b < a then b else a
def maxV (a b : Int) : Int := if a < b then b else a
theorem specMax_any (a b : Int) (w : World) : Calls Try.prog 105 #[.int .i64 a, .int .i64 b] w fun e w' => e = .returned (.int .i64 (maxV a b)) ∧ w = w' := by
  by_cases h : a < b
  · go_enter Try.func105, Try.ntmps105
    go_wp2
    go_ret
    exact ⟨ret_int (by unfold maxV; rw [if_pos (by omega)]), rfl⟩
  · go_enter Try.func105, Try.ntmps105
    go_wp2
    go_ret
    exact ⟨ret_int (by unfold maxV; rw [if_neg (by omega)]), rfl⟩
end Go.Proofs.Ytedkeobhcpbigaa
namespace Go.Proofs.Ytedkeobhcpbigaa
open Go.RowKit
end Go.Proofs.Ytedkeobhcpbigaa
