/- Whether a path is one (the program's), and the row of a path. -/
import Derived.Test.YtbjjgcfmdlinaaaNetH
namespace Go.Proofs.Ytbjjgcfmdlinaaa
open Go.RowKit
theorem path_neg {ls : List (Int × Int)} {p : List Int} {a b : Int} (h1 : ¬ p.length = 0) (h2 : ¬ 0 ≤ b) : isPathB ls p a b = false := by
  unfold isPathB
  rw [decide_eq_false h1, decide_eq_false h2]
  simp
theorem path_pos {ls : List (Int × Int)} {p : List Int} {a b : Int} (h : 0 ≤ b ∨ p.length = 0) : isPathB ls p a b = (decide p.Nodup && decide (endV ls p a = b)) := by
  unfold isPathB
  have : (decide (0 ≤ b) || decide (p.length = 0)) = true := by rcases h with h | h <;> simp [h]
  rw [this, Bool.and_true]
/-! The row of a path. -/
def rowL (p : List Int) (m : Nat) : List Int := (List.range m).map fun (i : Nat) => if hasB p (i : Int) = true then 1 else 0
def rowA (p : List Int) (n : Int) : List Int := if inR n 1 6 = true then rowL p n.toNat else []
theorem rowL_len (p : List Int) (m : Nat) : (rowL p m).length = m := by simp [rowL]
theorem rowL_next (p : List Int) (k : Nat) : rowL p k ++ [if hasB p (k : Int) = true then 1 else 0] = rowL p (k + 1) := by
  unfold rowL
  rw [List.range_succ, List.map_append]
  rfl
theorem rowL_nil (m : Nat) : rowL [] m = List.replicate m 0 := by
  apply List.ext_getElem
  · simp [rowL]
  · intro i h1 h2
    simp [rowL, hasB]
theorem hasB_next {p : List Int} {k : Nat} (hk : k < p.length) (x : Int) : hasB (p.take (k + 1)) x = (hasB (p.take k) x || decide (x = p.getD k 0)) := by
  have e : p.take (k + 1) = p.take k ++ [p.getD k 0] := by rw [List.take_add_one]; simp [List.getD, hk]
  unfold hasB
  rw [e, ← Bool.decide_or]
  refine decide_eq_decide.2 ?_
  rw [List.mem_append, List.mem_singleton]
theorem rowL_skip {p : List Int} {k m : Nat} (hk : k < p.length) (h : inR (p.getD k 0) 0 ((m : Int) - 1) = false) : rowL (p.take (k + 1)) m = rowL (p.take k) m := by
  unfold rowL
  refine List.map_congr_left fun i hi => ?_
  have hi := List.mem_range.1 hi
  have hne : ¬ (i : Int) = p.getD k 0 := fun e => by
    rw [← e] at h
    have := inR_false.1 h
    omega
  rw [hasB_next hk, decide_eq_false hne, Bool.or_false]
theorem rowL_set {p : List Int} {k m y : Nat} (hk : k < p.length) (h : p.getD k 0 = (y : Int)) : rowL (p.take (k + 1)) m = (rowL (p.take k) m).set y 1 := by
  apply List.ext_getElem
  · simp [rowL]
  · intro i h1 h2
    simp only [rowL, List.getElem_map, List.getElem_range, List.getElem_set]
    rw [hasB_next hk, h]
    by_cases e : y = i
    · subst e; simp
    · have : ¬ (i : Int) = (y : Int) := by omega
      simp [e, this]
theorem rowL_bits (p : List Int) (m : Nat) : ∀ x ∈ rowL p m, (Lit.int .i64 x).wf = true := fun x hx => by
  obtain ⟨i, _, rfl⟩ := List.mem_map.1 hx
  split <;> decide
end Go.Proofs.Ytbjjgcfmdlinaaa
