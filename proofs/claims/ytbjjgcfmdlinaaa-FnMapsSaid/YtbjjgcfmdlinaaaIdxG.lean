/- The first place of a list at which a function holds; a function that is called by its value. -/
import Derived.Test.YtbjjgcfmdlinaaaSl
namespace Go.Proofs.Ytbjjgcfmdlinaaa
open Go.RowKit
/-- The first place at which p holds, or -1. -/
def idxG {α : Type} (p : α → Bool) (l : List α) : Int := match l.findIdx? p with
  | some i => (i : Int)
  | none => -1
theorem getD_is {α : Type} {l : List α} {k : Nat} (d : α) (h : k < l.length) : l[k] = l.getD k d := by simp [List.getD, h]
theorem idxG_at {α : Type} {p : α → Bool} {l : List α} {k : Nat} (d : α) (hk : k < l.length) (h1 : p (l.getD k d) = true) (h2 : ∀ j, j < k → p (l.getD j d) = false) : idxG p l = (k : Int) := by
  have h : l.findIdx? p = some k := by
    rw [List.findIdx?_eq_some_iff_getElem]
    exact ⟨hk, by rw [getD_is d hk]; exact h1, fun j hj => by rw [getD_is d (by omega), h2 j hj]; simp⟩
  unfold idxG
  rw [h]
theorem idxG_none {α : Type} {p : α → Bool} {l : List α} (d : α) (h2 : ∀ j, j < l.length → p (l.getD j d) = false) : idxG p l = -1 := by
  have h : l.findIdx? p = none := by
    rw [List.findIdx?_eq_none_iff]
    intro x hx
    obtain ⟨r, hr, rfl⟩ := List.getElem_of_mem hx
    rw [getD_is d hr, h2 r hr]
  unfold idxG
  rw [h]
theorem idxG_any {α : Type} (p : α → Bool) (l : List α) : decide (0 ≤ idxG p l) = l.any p := by
  unfold idxG
  split
  · rename_i i hi
    rw [List.findIdx?_eq_some_iff_getElem] at hi
    obtain ⟨h, h1, _⟩ := hi
    rw [decide_eq_true (by omega)]
    symm
    exact List.any_eq_true.2 ⟨_, List.getElem_mem h, h1⟩
  · rename_i hi
    rw [List.findIdx?_eq_none_iff] at hi
    rw [decide_eq_false (by omega)]
    symm
    exact List.any_eq_false.2 (fun x hx => by rw [hi x hx]; simp)
/-- A function of the program, called by its value. -/
def Plain (K : Nat) : Prop := ∀ (args : Array Value) (w : World), Sem.run Try.prog (callFunc K args) w = .ok (.enter K args) w
end Go.Proofs.Ytbjjgcfmdlinaaa
