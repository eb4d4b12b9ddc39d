/- A region that draws its order: an operation whose guard says no may be taken first, and one that yields in every world that meets the condition. -/
import Derived.Test.YtbjjgcfmdlinaaaProg
import Derived.Deep.RegionHeld3
namespace Go.Proofs.Ytbjjgcfmdlinaaa
theorem take_un {P : Program} {md : Region.Mode} {ops : Array Oper} {Q : Exit → Act → World → Prop} {S : World → Prop} (i : Nat) (d : Option Tmp) {fuel : Nat} {listed : Array Bool} {a : Act} {w : World}
    (hs : Region.noSelect ops = true) (hf : Region.free md ops listed i = true) (hr : (Region.ready md ops listed).contains i = true)
    (hq : ∀ c a w, Q (.panic c) (a.put d undef) w → Q (.panic c) a w)
    (hw : ∃ o : Oper, ops[i]? = some o ∧ o.dst = d ∧ Region.wanted o (yielded ops a.tmps) = false)
    (hS : S w) (h : wpAnyH P md ops Q S fuel (listed.setIfInBounds i true) (a.put d undef) w) : wpAnyH P md ops Q S (fuel + 1) listed a w := by
  obtain ⟨o, ho, rfl, hu⟩ := hw
  exact wpAnyH_take ho hs hf hr hq (Or.inr ⟨hu, rfl⟩) hS h
theorem take_val {P : Program} {md : Region.Mode} {ops : Array Oper} {Q : Exit → Act → World → Prop} {S : World → Prop} (i : Nat) (d : Option Tmp) (v : Value) {fuel : Nat} {listed : Array Bool} {a : Act} {w : World}
    (hs : Region.noSelect ops = true) (hf : Region.free md ops listed i = true) (hr : (Region.ready md ops listed).contains i = true)
    (hq : ∀ c a w, Q (.panic c) (a.put d v) w → Q (.panic c) a w)
    (hw : ∃ o : Oper, ops[i]? = some o ∧ o.dst = d ∧ Region.wanted o (yielded ops a.tmps) = true ∧ ∀ w, S w → (execOp a.eval o).run P w = .ok (.value v) w)
    (hS : S w) (h : wpAnyH P md ops Q S fuel (listed.setIfInBounds i true) (a.put d v) w) : wpAnyH P md ops Q S (fuel + 1) listed a w := by
  obtain ⟨o, ho, rfl, hu, hv⟩ := hw
  exact wpAnyH_take ho hs hf hr hq (Or.inl ⟨hu, hv⟩) hS h
end Go.Proofs.Ytbjjgcfmdlinaaa
