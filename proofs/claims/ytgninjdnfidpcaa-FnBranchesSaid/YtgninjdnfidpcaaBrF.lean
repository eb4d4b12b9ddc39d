/- Branches: plain words. -/
import Derived.Test.YtgninjdnfidpcaaBrL
import Derived.Test.YtgninjdnfidpcaaHas
import Derived.Test.YtgninjdnfidpcaaInsF
import Derived.Test.YtgninjdnfidpcaaHash
namespace Go.Proofs.Ytgninjdnfidpcaa
open Go.RowKit
def brAt (nx : List Int) (i : Nat) : Bool := inR (nx.getD i 0) 0 7 && !hasB (nx.take i) (nx.getD i 0)
def brOk (nd : Int) (nx : List Int) : Bool := (List.range nx.length).all (brAt nx) && (inR nd 0 7 && inR (nx.length : Int) 1 4)
theorem brOk_true {nd : Int} {nx : List Int} : brOk nd nx = true ↔ (∀ i, i < nx.length → brAt nx i = true) ∧ inR nd 0 7 = true ∧ inR (nx.length : Int) 1 4 = true := by
  unfold brOk
  simp only [Bool.and_eq_true, List.all_eq_true, List.mem_range]
theorem brOk_no {nd : Int} {nx : List Int} {i : Nat} (hi : i < nx.length) (h : brAt nx i = false) : brOk nd nx = false := by
  cases h1 : brOk nd nx
  · rfl
  · have := (brOk_true.1 h1).1 i hi
    rw [h] at this
    cases this
theorem brOk_all {nd : Int} {nx : List Int} (h : ∀ i, i < nx.length → brAt nx i = true) : brOk nd nx = (inR nd 0 7 && inR (nx.length : Int) 1 4) := by
  cases h1 : brOk nd nx
  · cases h2 : (inR nd 0 7 && inR (nx.length : Int) 1 4)
    · rfl
    · rw [Bool.and_eq_true] at h2
      rw [brOk_true.2 ⟨h, h2⟩] at h1
      cases h1
  · have := brOk_true.1 h1
    rw [this.2.1, this.2.2]
    rfl
/-- Where a flow goes: the place among the next nodes. -/
def nextAt (nd : Int) (nx : List Int) (f : Int) : Nat := (hashV [nd, f] % (nx.length : Int)).toNat
def nextV (nd : Int) (nx : List Int) (f : Int) : Int := if (brOk nd nx && inR f 0 9999) = true then nx.getD (nextAt nd nx f) 0 else -1
theorem nextAt_lt {nd : Int} {nx : List Int} {f : Int} (h : 1 ≤ nx.length) : nextAt nd nx f < nx.length := by
  unfold nextAt
  have h1 := Int.emod_nonneg (hashV [nd, f]) (b := (nx.length : Int)) (by omega)
  have h2 := Int.emod_lt_of_pos (hashV [nd, f]) (b := (nx.length : Int)) (by omega)
  omega
theorem brOk_len {nd : Int} {nx : List Int} (h : brOk nd nx = true) : 1 ≤ nx.length ∧ nx.length ≤ 4 := by
  have := inR_true.1 (brOk_true.1 h).2.2
  omega
theorem nextV_mem {nd : Int} {nx : List Int} {f : Int} (h : 0 ≤ nextV nd nx f) : nextV nd nx f ∈ nx ∧ brOk nd nx = true := by
  unfold nextV at h ⊢
  split at h
  · rename_i hc
    rw [if_pos hc]
    rw [Bool.and_eq_true] at hc
    exact ⟨getD_mem (nextAt_lt (brOk_len hc.1).1), hc.1⟩
  · omega
/-- The next nodes that the first k flows were seen to take. -/
def seenK12 (nd : Int) (nx fl : List Int) (k : Nat) : List Int := insAll (((fl.take k).map (nextV nd nx)).filter fun n => decide (0 ≤ n)) []
def seenN (nd : Int) (nx fl : List Int) : List Int := seenK12 nd nx fl fl.length
theorem take_more {l : List Int} {k : Nat} (h : k < l.length) : l.take (k + 1) = l.take k ++ [l.getD k 0] := by
  rw [List.take_succ_eq_append_getElem h]
  simp [List.getD, h]
theorem seenK12_skip {nd : Int} {nx fl : List Int} {k : Nat} (hk : k < fl.length) (h : nextV nd nx (fl.getD k 0) < 0) : seenK12 nd nx fl (k + 1) = seenK12 nd nx fl k := by
  unfold seenK12
  rw [take_more hk, List.map_append, List.filter_append, List.map_cons, List.map_nil, List.filter_cons_of_neg (by simpa using h), List.filter_nil, List.append_nil]
theorem seenK12_next {nd : Int} {nx fl : List Int} {k : Nat} (hk : k < fl.length) (h : 0 ≤ nextV nd nx (fl.getD k 0)) : seenK12 nd nx fl (k + 1) = insU (nextV nd nx (fl.getD k 0)) (seenK12 nd nx fl k) := by
  unfold seenK12
  rw [take_more hk, List.map_append, List.filter_append, List.map_cons, List.map_nil, List.filter_cons_of_pos (by simpa using h), List.filter_nil]
  unfold insAll
  rw [List.foldl_append]
  rfl
theorem seenK12_len (nd : Int) (nx fl : List Int) (k : Nat) : (seenK12 nd nx fl k).length ≤ k := by
  have h := insAll_len (((fl.take k).map (nextV nd nx)).filter fun n => decide (0 ≤ n)) []
  have h2 := List.length_filter_le (fun n : Int => decide (0 ≤ n)) ((fl.take k).map (nextV nd nx))
  rw [List.length_map, List.length_take] at h2
  unfold seenK12
  simp only [List.length_nil] at h
  omega
theorem seenK12_asc (nd : Int) (nx fl : List Int) (k : Nat) : Asc (seenK12 nd nx fl k) := insAll_asc List.Pairwise.nil
theorem seenK12_mem {nd : Int} {nx fl : List Int} {k : Nat} {x : Int} : x ∈ seenK12 nd nx fl k ↔ ∃ f, f ∈ fl.take k ∧ nextV nd nx f = x ∧ 0 ≤ x := by
  unfold seenK12
  rw [insAll_mem]
  simp only [List.mem_filter, List.mem_map, decide_eq_true_eq, List.not_mem_nil, or_false]
  constructor
  · rintro ⟨⟨f, h1, h2⟩, h3⟩; exact ⟨f, h1, h2, h3⟩
  · rintro ⟨f, h1, h2, h3⟩; exact ⟨⟨f, h1, h2⟩, h3⟩
end Go.Proofs.Ytgninjdnfidpcaa
