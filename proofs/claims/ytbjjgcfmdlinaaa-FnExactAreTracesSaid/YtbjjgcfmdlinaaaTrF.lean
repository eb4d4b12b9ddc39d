/- Traces: plain words. -/
import Derived.Test.YtbjjgcfmdlinaaaSlA
import Derived.Test.YtbjjgcfmdlinaaaIntW
import Derived.Test.YtbjjgcfmdlinaaaHas
namespace Go.Proofs.Ytbjjgcfmdlinaaa
open Go.RowKit
def trAt (h : List Int) (k : Nat) : Bool := inR (h.getD k 0) (-1) 7 && (decide (h.getD k 0 < 0) || !hasB (h.take k) (h.getD k 0))
def trOk (h : List Int) : Bool := decide (h.length ≤ 8) && (List.range h.length).all (trAt h)
def areT (ms : List (List Int)) : Bool := (List.range ms.length).all (fun i => trOk (row ms i)) && decide (ms.length ≤ 8)
theorem trOk_true {h : List Int} : trOk h = true ↔ h.length ≤ 8 ∧ ∀ k, k < h.length → trAt h k = true := by
  unfold trOk
  simp only [Bool.and_eq_true, List.all_eq_true, List.mem_range, decide_eq_true_eq]
theorem trOk_long {h : List Int} (hl : ¬ h.length ≤ 8) : trOk h = false := by
  cases h1 : trOk h
  · rfl
  · exact absurd (trOk_true.1 h1).1 hl
theorem trOk_no {h : List Int} {k : Nat} (hk : k < h.length) (h0 : trAt h k = false) : trOk h = false := by
  cases h1 : trOk h
  · rfl
  · have := (trOk_true.1 h1).2 k hk
    rw [h0] at this
    cases this
theorem areT_true {ms : List (List Int)} : areT ms = true ↔ (∀ i, i < ms.length → trOk (row ms i) = true) ∧ ms.length ≤ 8 := by
  unfold areT
  simp only [Bool.and_eq_true, List.all_eq_true, List.mem_range, decide_eq_true_eq]
theorem areT_no {ms : List (List Int)} {i : Nat} (hi : i < ms.length) (h0 : trOk (row ms i) = false) : areT ms = false := by
  cases h1 : areT ms
  · rfl
  · have := (areT_true.1 h1).1 i hi
    rw [h0] at this
    cases this
theorem areT_all {ms : List (List Int)} (h : ∀ i, i < ms.length → trOk (row ms i) = true) : areT ms = decide (ms.length ≤ 8) := by
  cases h1 : areT ms
  · by_cases h2 : ms.length ≤ 8
    · rw [areT_true.2 ⟨h, h2⟩] at h1
      cases h1
    · rw [decide_eq_false h2]
  · rw [decide_eq_true (areT_true.1 h1).2]
/-- How many of the first k places nobody answers. -/
def gapR (h : List Int) : Nat → Nat
  | 0 => 0
  | k + 1 => gapR h k + (if h.getD k 0 = -1 then 1 else 0)
def gapK (ms : List (List Int)) : Nat → Nat
  | 0 => 0
  | i + 1 => gapK ms i + gapR (row ms i) (row ms i).length
def gapV (ms : List (List Int)) : Int := (gapK ms ms.length : Int)
theorem gapR_le (h : List Int) : ∀ k, gapR h k ≤ k
  | 0 => Nat.le_refl _
  | k + 1 => by have := gapR_le h k; simp only [gapR]; split <;> omega
theorem gapK_le (ms : List (List Int)) : ∀ k, gapK ms k ≤ tot ms k
  | 0 => Nat.zero_le _
  | k + 1 => by have h1 := gapK_le ms k; have h2 := gapR_le (row ms k) (row ms k).length; simp only [gapK, tot]; omega
/-- Links in the order of their nodes. -/
def ltL (p q : Int × Int) : Bool := decide (p.1 < q.1) || (decide (p.1 = q.1) && decide (p.2 < q.2))
/-- A link is put into its place, unless it is there. -/
def putL (x : Int × Int) : List (Int × Int) → List (Int × Int)
  | [] => [x]
  | y :: r => if ltL y x = true then y :: putL x r else if y = x then y :: r else x :: y :: r
theorem putL_mem {x z : Int × Int} : ∀ {l : List (Int × Int)}, z ∈ putL x l ↔ z = x ∨ z ∈ l
  | [] => by simp [putL]
  | y :: r => by
    unfold putL
    split
    · rw [List.mem_cons, putL_mem (l := r), List.mem_cons]
      constructor
      · rintro (h | h | h)
        · exact .inr (.inl h)
        · exact .inl h
        · exact .inr (.inr h)
      · rintro (h | h | h)
        · exact .inr (.inl h)
        · exact .inl h
        · exact .inr (.inr h)
    · split
      · rename_i h
        subst h
        rw [List.mem_cons]
        constructor
        · exact .inr
        · rintro (h | h)
          · exact .inl h
          · exact h
      · rw [List.mem_cons]
theorem putL_len (x : Int × Int) : ∀ l : List (Int × Int), (putL x l).length ≤ l.length + 1
  | [] => by simp [putL]
  | y :: r => by
    unfold putL
    split
    · have := putL_len x r
      simp only [List.length_cons]
      omega
    · split <;> simp
/-- Where a link stands or goes, by its place. -/
theorem putL_at {x : Int × Int} : ∀ {l : List (Int × Int)} {p : Nat}, p ≤ l.length → (∀ r, r < p → ltL (l.getD r (0, 0)) x = true) → (p < l.length → ltL (l.getD p (0, 0)) x = false) →
    putL x l = if p < l.length ∧ l.getD p (0, 0) = x then l else l.take p ++ [x] ++ l.drop p
  | [], p, hp, _, _ => by
    have : p = 0 := by simpa using hp
    subst this
    simp [putL]
  | y :: r, 0, _, _, h2 => by
    have h3 := h2 (by simp)
    simp only [List.getD_cons_zero] at h3
    unfold putL
    rw [if_neg (by rw [h3]; decide)]
    by_cases h : y = x
    · rw [if_pos h, if_pos (by simp [h])]
    · rw [if_neg h, if_neg (by simp [h])]
      simp
  | y :: r, p + 1, hp, h1, h2 => by
    have h3 := h1 0 (by omega)
    simp only [List.getD_cons_zero] at h3
    have ih := putL_at (x := x) (l := r) (p := p) (by simpa using hp) (fun j hj => by have := h1 (j + 1) (by omega); simpa using this) (fun h => by have := h2 (by simpa using h); simpa using this)
    unfold putL
    rw [if_pos h3, ih]
    by_cases h : p < r.length ∧ r.getD p (0, 0) = x
    · rw [if_pos h, if_pos (by simpa using h)]
    · rw [if_neg h, if_neg (by simpa using h)]
      simp
/-- The links of a trace up to place k. -/
def mapR (h : List Int) (acc : List (Int × Int)) : Nat → List (Int × Int)
  | 0 => acc
  | k + 1 => if k = 0 then acc else if 0 ≤ h.getD (k - 1) 0 ∧ 0 ≤ h.getD k 0 then putL (minV (h.getD (k - 1) 0) (h.getD k 0), maxV (h.getD (k - 1) 0) (h.getD k 0)) (mapR h acc k) else mapR h acc k
def mapK (ms : List (List Int)) : Nat → List (Int × Int)
  | 0 => []
  | i + 1 => mapR (row ms i) (mapK ms i) (row ms i).length
def mapV (ms : List (List Int)) : List (Int × Int) := if areT ms = true then mapK ms ms.length else []
end Go.Proofs.Ytbjjgcfmdlinaaa
