/- Traces: what the program's order of checks gives. -/
import Derived.Test.YtbjjgcfmdlinaaaTrF
import Derived.Test.YtbjjgcfmdlinaaaTwP
namespace Go.Proofs.Ytbjjgcfmdlinaaa
open Go.RowKit
def noHop (x : Int) : Bool := decide (x = -1)
def noNd (n : Int) : Bool := !inR n 0 7
/-- The nodes that answered. -/
def hopsV (h : List Int) : List Int := h.filter (fun x => !noHop x)
theorem hasB_mem {l : List Int} {x : Int} : hasB l x = true ↔ x ∈ l := ⟨fun h => of_decide_eq_true h, fun h => decide_eq_true h⟩
theorem trOk_prog (h : List Int) : trOk h = (decide (h.length ≤ 8) && (!((hopsV h).any noNd) && decide (hopsV h).Nodup)) := by
  have hn : (hopsV h).Nodup ↔ h.Pairwise (fun a b => a ≠ -1 → b ≠ -1 → a ≠ b) := by
    unfold hopsV List.Nodup
    rw [List.pairwise_filter]
    simp [noHop]
  have ha : (hopsV h).any noNd = false ↔ ∀ x ∈ h, x ≠ -1 → inR x 0 7 = true := by
    rw [List.any_eq_false]
    constructor
    · intro g x hx h1
      have := g x (List.mem_filter.2 ⟨hx, by simp [noHop, h1]⟩)
      simpa [noNd] using this
    · intro g x hx
      obtain ⟨h1, h2⟩ := List.mem_filter.1 hx
      have := g x h1 (by simpa [noHop] using h2)
      simp [noNd, this]
  have e : (trOk h = true) ↔ (decide (h.length ≤ 8) && (!((hopsV h).any noNd) && decide (hopsV h).Nodup)) = true := by
    rw [trOk_true]
    simp only [Bool.and_eq_true, decide_eq_true_eq, Bool.not_eq_true']
    rw [ha, hn]
    refine and_congr Iff.rfl ⟨fun g => ⟨fun x hx h1 => ?_, List.pairwise_iff_getElem.2 fun i j hi hj hij h1 h2 e => ?_⟩, fun ⟨g1, g2⟩ k hk => ?_⟩
    · obtain ⟨k, hk, rfl⟩ := List.getElem_of_mem hx
      have h3 := g k hk
      unfold trAt at h3
      rw [show h.getD k 0 = h[k] by simp [List.getD, hk], Bool.and_eq_true] at h3
      have h4 := h3.1
      rw [inR_true] at h4 ⊢
      omega
    · have h3 := g j hj
      unfold trAt at h3
      rw [show h.getD j 0 = h[j] by simp [List.getD, hj], Bool.and_eq_true, Bool.or_eq_true] at h3
      have h4 := h3.1
      rw [inR_true] at h4
      rcases h3.2 with h5 | h5
      · have := of_decide_eq_true h5
        omega
      · have h6 : hasB (h.take j) h[j] = true := hasB_mem.2 (by
          rw [← e]
          exact List.mem_take_iff_getElem.2 ⟨i, by omega, rfl⟩)
        rw [h6] at h5
        cases h5
    · unfold trAt
      rw [show h.getD k 0 = h[k] by simp [List.getD, hk], Bool.and_eq_true, Bool.or_eq_true]
      have h1 := g1 h[k] (List.getElem_mem hk)
      by_cases hm : h[k] = -1
      · rw [hm]
        exact ⟨by decide, .inl (by decide)⟩
      · have h2 := h1 hm
        rw [inR_true] at h2 ⊢
        refine ⟨by omega, .inr ?_⟩
        cases h3 : hasB (h.take k) h[k]
        · rfl
        · obtain ⟨i, hi, e⟩ := List.mem_take_iff_getElem.1 (hasB_mem.1 h3)
          exact absurd e (List.pairwise_iff_getElem.1 g2 i k (by omega) hk (by omega) (by rw [e]; exact hm) hm)
  cases h1 : trOk h
  · cases h2 : (decide (h.length ≤ 8) && (!((hopsV h).any noNd) && decide (hopsV h).Nodup))
    · rfl
    · rw [h2] at e
      rw [h1] at e
      exact absurd (e.2 rfl) (by decide)
  · rw [e.1 h1]
theorem hopsV_len (h : List Int) : (hopsV h).length ≤ h.length := List.length_filter_le _ _
/-- All traces are valid, by the program's words. -/
theorem areT_prog (ms : List (List Int)) : areT ms = (decide (ms.length ≤ 8) && !(ms.any (fun h => !trOk h))) := by
  unfold areT
  have e : (List.range ms.length).all (fun i => trOk (row ms i)) = !(ms.any (fun h => !trOk h)) := by
    rw [List.not_any_eq_all_not]
    simp only [Bool.not_not]
    rw [Bool.eq_iff_iff, List.all_eq_true, List.all_eq_true]
    constructor
    · intro g x hx
      obtain ⟨i, hi, rfl⟩ := List.getElem_of_mem hx
      have := g i (List.mem_range.2 hi)
      rw [show row ms i = ms[i] by simp [row, List.getD, hi]] at this
      exact this
    · intro g i hi
      have hi2 := List.mem_range.1 hi
      rw [show row ms i = ms[i] by simp [row, List.getD, hi2]]
      exact g _ (List.getElem_mem hi2)
  rw [e, Bool.and_comm]
end Go.Proofs.Ytbjjgcfmdlinaaa
