/- Matrices: what is one, in plain mathematics. -/
import Derived.Test.YtbclnklejleobaaSlO
import Derived.Test.YtbclnklejleobaaIntW
namespace Go.Proofs.Ytbclnklejleobaa
open Go.RowKit
/-- A row of a matrix with cols columns. -/
def rowOk (cols : Int) (z : List Int) : Bool := decide ((z.length : Int) = cols) && z.all (fun x => inR x (-2) 2)
def isMat (ms : List (List Int)) (cols : Int) : Bool := inR cols 1 6 && (decide (ms.length ≤ 12) && ms.all (rowOk cols))
theorem row_mem {ms : List (List Int)} {r : Nat} (h : r < ms.length) : row ms r ∈ ms := by simp [row, List.getD, h]
theorem isMat_cols {ms : List (List Int)} {cols : Int} (h : inR cols 1 6 = false) : isMat ms cols = false := by simp [isMat, h]
theorem isMat_many {ms : List (List Int)} {cols : Int} (h : 12 < ms.length) : isMat ms cols = false := by
  have : decide (ms.length ≤ 12) = false := by simp; omega
  simp [isMat, this]
theorem isMat_row {ms : List (List Int)} {cols : Int} {r : Nat} (hr : r < ms.length) (h : rowOk cols (row ms r) = false) : isMat ms cols = false := by
  have : ms.all (rowOk cols) = false := by
    rw [List.all_eq_false]
    exact ⟨_, row_mem hr, by rw [h]; decide⟩
  simp [isMat, this]
theorem isMat_yes {ms : List (List Int)} {cols : Int} (h1 : inR cols 1 6 = true) (h2 : ms.length ≤ 12) (h3 : ∀ r, r < ms.length → rowOk cols (row ms r) = true) : isMat ms cols = true := by
  have : ms.all (rowOk cols) = true := by
    rw [List.all_eq_true]
    intro z hz
    obtain ⟨r, hr, rfl⟩ := List.getElem_of_mem hz
    have := h3 r hr
    simpa [row, List.getD, hr] using this
  simp [isMat, this, h1, h2]
theorem rowOk_len {cols : Int} {z : List Int} (h : (z.length : Int) ≠ cols) : rowOk cols z = false := by simp [rowOk, h]
theorem rowOk_cell {cols : Int} {z : List Int} {k : Nat} (hk : k < z.length) (h : inR (z.getD k 0) (-2) 2 = false) : rowOk cols z = false := by
  have : z.all (fun x => inR x (-2) 2) = false := by
    rw [List.all_eq_false]
    exact ⟨_, getD_mem hk, by simp only [h]; decide⟩
  simp [rowOk, this]
theorem rowOk_yes {cols : Int} {z : List Int} (h1 : (z.length : Int) = cols) (h2 : ∀ k, k < z.length → inR (z.getD k 0) (-2) 2 = true) : rowOk cols z = true := by
  have : z.all (fun x => inR x (-2) 2) = true := by
    rw [List.all_eq_true]
    intro x hx
    obtain ⟨k, hk, rfl⟩ := List.getElem_of_mem hx
    have := h2 k hk
    simpa [List.getD, hk] using this
  simp [rowOk, this, h1]
theorem isMat_true {ms : List (List Int)} {cols : Int} (h : isMat ms cols = true) : (1 ≤ cols ∧ cols ≤ 6) ∧ ms.length ≤ 12 ∧ ∀ r, r < ms.length → ((row ms r).length : Int) = cols ∧ ∀ k, k < (row ms r).length → -2 ≤ (row ms r).getD k 0 ∧ (row ms r).getD k 0 ≤ 2 := by
  simp only [isMat, Bool.and_eq_true, decide_eq_true_eq] at h
  obtain ⟨h1, h2, h3⟩ := h
  refine ⟨inR_true.1 h1, h2, fun r hr => ?_⟩
  have h4 := List.all_eq_true.1 h3 _ (row_mem hr)
  simp only [rowOk, Bool.and_eq_true, decide_eq_true_eq] at h4
  exact ⟨h4.1, fun k hk => inR_true.1 (List.all_eq_true.1 h4.2 _ (getD_mem hk))⟩
end Go.Proofs.Ytbclnklejleobaa
