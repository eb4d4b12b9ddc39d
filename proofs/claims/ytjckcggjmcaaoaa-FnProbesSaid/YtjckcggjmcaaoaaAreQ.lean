/- AreProbes: in plain words, the model's and the program's. -/
import Derived.Test.YtjckcggjmcaaoaaSlQ
import Derived.Test.YtjckcggjmcaaoaaNetR
import Derived.Test.YtjckcggjmcaaoaaNetW
namespace Go.Proofs.Ytjckcggjmcaaoaa
open Go.RowKit
/-- A probe's path is not empty and leads where the probe says. -/
def leadsB (ls : List (Int × Int)) (p : Prb) : Bool := !decide (p.2.2 = []) && isPathB ls p.2.2 p.1 p.2.1
def areQ (n : Int) (ls : List (Int × Int)) (ps : List Prb) : Bool := netB n ls && decide (ps.length ≤ 12) && ps.all (leadsB ls)
theorem leads_nil {ls : List (Int × Int)} {x y : Int} {zs : List Int} (h : zs.length = 0) : leadsB ls (x, y, zs) = false := by
  have := List.eq_nil_of_length_eq_zero h
  subst this
  rfl
theorem leads_cons {ls : List (Int × Int)} {x y : Int} {zs : List Int} (h : ¬ zs.length = 0) : leadsB ls (x, y, zs) = isPathB ls zs x y := by
  have h1 : ¬ zs = [] := fun e => h (by rw [e]; rfl)
  simp [leadsB, h1]
theorem all_no {ls : List (Int × Int)} {ps : List Prb} {k : Nat} (hk : k < ps.length) (h : leadsB ls (prb ps k) = false) : ps.all (leadsB ls) = false := by
  rw [List.all_eq_false]
  exact ⟨_, prb_mem hk, by rw [h]; decide⟩
theorem all_yes {ls : List (Int × Int)} {ps : List Prb} (h : ∀ r, r < ps.length → leadsB ls (prb ps r) = true) : ps.all (leadsB ls) = true := by
  rw [List.all_eq_true]
  intro p hp
  obtain ⟨r, hr, rfl⟩ := List.getElem_of_mem hp
  have := h r hr
  simpa [prb, List.getD, hr] using this
theorem areQ_no {n : Int} {ls : List (Int × Int)} {ps : List Prb} {k : Nat} (hk : k < ps.length) (h : leadsB ls (prb ps k) = false) : areQ n ls ps = false := by
  unfold areQ
  rw [all_no hk h, Bool.and_false]
theorem areQ_all {n : Int} {ls : List (Int × Int)} {ps : List Prb} (h : ps.all (leadsB ls) = true) : areQ n ls ps = (netB n ls && decide (ps.length ≤ 12)) := by
  unfold areQ
  rw [h, Bool.and_true]
theorem next_leads {ls : List (Int × Int)} {ps : List Prb} {k : Nat} (h : ∀ r, r < k → leadsB ls (prb ps r) = true) (hk : leadsB ls (prb ps k) = true) : ∀ r, r < k + 1 → leadsB ls (prb ps r) = true := fun r hr => by
  by_cases hrk : r < k
  · exact h r hrk
  · obtain rfl : r = k := by omega
    exact hk
end Go.Proofs.Ytjckcggjmcaaoaa
