/- Branches: what the program's order of checks gives, and what its sorted list of nexts is. -/
import Derived.Test.YtgninjdnfidpcaaBrF
import Derived.Test.YtgninjdnfidpcaaTwP
import Derived.Test.YtgninjdnfidpcaaCmpG
namespace Go.Proofs.Ytgninjdnfidpcaa
open Go.RowKit
def noNd (n : Int) : Bool := !inR n 0 7
theorem brOk_prog (nd : Int) (nx : List Int) : brOk nd nx = (inR (nx.length : Int) 1 4 && (decide nx.Nodup && (inR nd 0 7 && !(nx.any noNd)))) := by
  cases h : (inR (nx.length : Int) 1 4 && (decide nx.Nodup && (inR nd 0 7 && !(nx.any noNd))))
  · cases h1 : brOk nd nx
    · rfl
    · have h2 := brOk_true.1 h1
      have hd : nx.Nodup := nodup_of fun k hk => by
        have := h2.1 k hk
        unfold brAt at this
        simp only [Bool.and_eq_true, Bool.not_eq_true'] at this
        exact this.2
      have ha : nx.any noNd = false := List.any_eq_false.2 fun x hx => by
        obtain ⟨k, hk, e⟩ := List.getElem_of_mem hx
        have := h2.1 k hk
        unfold brAt at this
        rw [Bool.and_eq_true] at this
        have e2 : nx.getD k 0 = x := by rw [← e]; simp [List.getD, hk]
        rw [e2] at this
        simp [noNd, this.1]
      rw [h2.2.1, h2.2.2, ha, decide_eq_true hd] at h
      cases h
  · simp only [Bool.and_eq_true, decide_eq_true_eq, Bool.not_eq_true'] at h
    refine brOk_true.2 ⟨fun i hi => ?_, h.2.2.1, h.1⟩
    have hx : nx.getD i 0 ∈ nx := getD_mem hi
    have h1 := List.any_eq_false.1 h.2.2.2 _ hx
    unfold brAt
    rw [Bool.and_eq_true]
    refine ⟨by simpa [noNd] using h1, ?_⟩
    cases h3 : hasB (nx.take i) (nx.getD i 0)
    · rfl
    · exact absurd h.2.1 (not_nodup hi h3)
theorem nextV_no {nd : Int} {nx : List Int} {f : Int} (h : nextV nd nx f < 0) : nextV nd nx f = -1 := by
  unfold nextV at h ⊢
  split
  · rename_i hc
    rw [if_pos hc] at h
    rw [Bool.and_eq_true] at hc
    have h2 := (brOk_true.1 hc.1).1 _ (nextAt_lt (nd := nd) (f := f) (brOk_len hc.1).1)
    unfold brAt at h2
    rw [Bool.and_eq_true] at h2
    have := inR_true.1 h2.1
    omega
  · rfl
/-- What is left of sorted numbers, each once, when -1 is struck. -/
def struck (l : List Int) : List Int := l.filter fun x => !decide (x = -1)
theorem struck_asc {l : List Int} (h : Asc l) : Asc (struck l) := h.sublist List.filter_sublist
theorem seenN_prog (nd : Int) (nx fl : List Int) : struck (Lib.compact (sortI (fl.map (nextV nd nx)))) = seenN nd nx fl :=
  asc_uniq (struck_asc (compact_sort_asc _)) (seenK12_asc nd nx fl _) fun x => by
    unfold struck
    unfold seenN
    rw [List.mem_filter, compact_mem, sortI_mem, seenK12_mem, List.mem_map, List.take_length]
    constructor
    · rintro ⟨⟨f, h1, h2⟩, h3⟩
      refine ⟨f, h1, h2, ?_⟩
      have h4 : ¬ x = -1 := by simpa using h3
      by_cases h5 : nextV nd nx f < 0
      · exact absurd (h2.symm.trans (nextV_no h5)) h4
      · omega
    · rintro ⟨f, h1, h2, h3⟩
      exact ⟨⟨f, h1, h2⟩, by simp; omega⟩
end Go.Proofs.Ytgninjdnfidpcaa
