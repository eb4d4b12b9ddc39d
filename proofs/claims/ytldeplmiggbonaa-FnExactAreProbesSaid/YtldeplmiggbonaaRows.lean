/-
  No cell of these rows narrows 'for every input' (looked for: loops, veiled, ifaces, maps, wideKeys, modest, calm, conditions, laid).
  DERIVED. THE GIVEN ROWS OF THIS SEAT. 5 by the template 'for every input the law returns true; each argument reads behind the call as it read before'; 0 by the template 'total and deterministic' (their statements: YtldeplmiggbonaaTotals.lean).
  GIVEN WITH THE SEED: the statements are not yours to turn. If you find one false, say at which input.
  Laid BY PROGRAM, IN A SANDBOX (cutbox-rows.mjs): the forced cells as the released guide's own fill.sh prints them over the translation 6ed9f6f0c407cf2e… (all of the seat's roots in one cut). By AI agents, Wed Nov 11 2026. No macro, syntax, notation, axiom, sorry.
-/
import Derived.Test.YtldeplmiggbonaaChecked
import GoSem.Claim
import GoSem.ClaimJoined
import GoSem.ClaimMapViews
import Derived.JoinedTies
import Derived.KernelRfl
namespace Go.Proofs.Ytldeplmiggbonaa
/- THE CELL 'sum', in the pinned program and in every row, IS THE sha256 OF THE DUMP (.gsa) THAT YtldeplmiggbonaaProg.lean LOADS. Nothing in Lean hashes anything: it is a label: what it is worth is what the hold of that sum in a sandbox is worth. -/
noncomputable def Try.pinned : Pinned := { name := "ytldeplmiggbonaa", sum := "6ed9f6f0c407cf2ef45b64f8d10933e360fb9480bec7d55bf77476632926b0eb", checked := Try.checked }
namespace Rows
def none {H : Type} : Left H := { results := [], args := [] }

/-- 'laws.FnExactProbeFor': WHATEVER THE INPUT: true; the input reads as it did. -/
def fnExactProbeForSpec : ChangeSpec := { name := "fnExactProbeFor", fn := fun _ => fun
  | [d1, d2, d3] => { results := [.lit (.bool true)], args := [d1, d2, d3] }
  | _ => none }
def fnExactProbeForRow : OpenClaim := { program := "ytldeplmiggbonaa", sum := "6ed9f6f0c407cf2ef45b64f8d10933e360fb9480bec7d55bf77476632926b0eb", func := "loop.example/g00958/laws.FnExactProbeFor", spec := "fnExactProbeFor", unfollowed := true, recurses := true, apart := false }
def FnExactProbeForSaid : Prop := fnExactProbeForRow.holds Try.pinned (OpenSpec.ofChange fnExactProbeForSpec)

/-- ITS FALSE NEIGHBOUR: 'it returns false'. Refute it at one input. -/
def fnExactProbeForWrong : ChangeSpec := { name := "fnExactProbeFor", fn := fun _ => fun
  | [d1, d2, d3] => { results := [.lit (.bool false)], args := [d1, d2, d3] }
  | _ => none }
def FnExactProbeForWrongFalsely : Prop := fnExactProbeForRow.holds Try.pinned (OpenSpec.ofChange fnExactProbeForWrong)

/-- 'laws.FnExactProbesOf': WHATEVER THE INPUT: true; the input reads as it did. -/
def fnExactProbesOfSpec : ChangeSpec := { name := "fnExactProbesOf", fn := fun _ => fun
  | [d1, d2] => { results := [.lit (.bool true)], args := [d1, d2] }
  | _ => none }
def fnExactProbesOfRow : OpenClaim := { program := "ytldeplmiggbonaa", sum := "6ed9f6f0c407cf2ef45b64f8d10933e360fb9480bec7d55bf77476632926b0eb", func := "loop.example/g00958/laws.FnExactProbesOf", spec := "fnExactProbesOf", unfollowed := true, recurses := true, apart := false }
def FnExactProbesOfSaid : Prop := fnExactProbesOfRow.holds Try.pinned (OpenSpec.ofChange fnExactProbesOfSpec)

/-- ITS FALSE NEIGHBOUR: 'it returns false'. Refute it at one input. -/
def fnExactProbesOfWrong : ChangeSpec := { name := "fnExactProbesOf", fn := fun _ => fun
  | [d1, d2] => { results := [.lit (.bool false)], args := [d1, d2] }
  | _ => none }
def FnExactProbesOfWrongFalsely : Prop := fnExactProbesOfRow.holds Try.pinned (OpenSpec.ofChange fnExactProbesOfWrong)

/-- 'laws.FnExactAreProbes': WHATEVER THE INPUT: true; the input reads as it did. -/
def fnExactAreProbesSpec : ChangeSpec := { name := "fnExactAreProbes", fn := fun _ => fun
  | [d1, d2] => { results := [.lit (.bool true)], args := [d1, d2] }
  | _ => none }
def fnExactAreProbesRow : OpenClaim := { program := "ytldeplmiggbonaa", sum := "6ed9f6f0c407cf2ef45b64f8d10933e360fb9480bec7d55bf77476632926b0eb", func := "loop.example/g00958/laws.FnExactAreProbes", spec := "fnExactAreProbes", unfollowed := true, recurses := true, apart := false }
def FnExactAreProbesSaid : Prop := fnExactAreProbesRow.holds Try.pinned (OpenSpec.ofChange fnExactAreProbesSpec)

/-- ITS FALSE NEIGHBOUR: 'it returns false'. Refute it at one input. -/
def fnExactAreProbesWrong : ChangeSpec := { name := "fnExactAreProbes", fn := fun _ => fun
  | [d1, d2] => { results := [.lit (.bool false)], args := [d1, d2] }
  | _ => none }
def FnExactAreProbesWrongFalsely : Prop := fnExactAreProbesRow.holds Try.pinned (OpenSpec.ofChange fnExactAreProbesWrong)

/-- 'laws.FnExactMatrixOf': WHATEVER THE INPUT: true; the input reads as it did. -/
def fnExactMatrixOfSpec : ChangeSpec := { name := "fnExactMatrixOf", fn := fun _ => fun
  | [d1, d2] => { results := [.lit (.bool true)], args := [d1, d2] }
  | _ => none }
def fnExactMatrixOfRow : OpenClaim := { program := "ytldeplmiggbonaa", sum := "6ed9f6f0c407cf2ef45b64f8d10933e360fb9480bec7d55bf77476632926b0eb", func := "loop.example/g00958/laws.FnExactMatrixOf", spec := "fnExactMatrixOf", apart := false }
def FnExactMatrixOfSaid : Prop := fnExactMatrixOfRow.holds Try.pinned (OpenSpec.ofChange fnExactMatrixOfSpec)

/-- ITS FALSE NEIGHBOUR: 'it returns false'. Refute it at one input. -/
def fnExactMatrixOfWrong : ChangeSpec := { name := "fnExactMatrixOf", fn := fun _ => fun
  | [d1, d2] => { results := [.lit (.bool false)], args := [d1, d2] }
  | _ => none }
def FnExactMatrixOfWrongFalsely : Prop := fnExactMatrixOfRow.holds Try.pinned (OpenSpec.ofChange fnExactMatrixOfWrong)

/-- 'laws.FnExactAloneOn': WHATEVER THE INPUT: true; the input reads as it did. -/
def fnExactAloneOnSpec : ChangeSpec := { name := "fnExactAloneOn", fn := fun _ => fun
  | [d1, d2] => { results := [.lit (.bool true)], args := [d1, d2] }
  | _ => none }
def fnExactAloneOnRow : OpenClaim := { program := "ytldeplmiggbonaa", sum := "6ed9f6f0c407cf2ef45b64f8d10933e360fb9480bec7d55bf77476632926b0eb", func := "loop.example/g00958/laws.FnExactAloneOn", spec := "fnExactAloneOn", unfollowed := true, recurses := true, apart := false }
def FnExactAloneOnSaid : Prop := fnExactAloneOnRow.holds Try.pinned (OpenSpec.ofChange fnExactAloneOnSpec)

/-- ITS FALSE NEIGHBOUR: 'it returns false'. Refute it at one input. -/
def fnExactAloneOnWrong : ChangeSpec := { name := "fnExactAloneOn", fn := fun _ => fun
  | [d1, d2] => { results := [.lit (.bool false)], args := [d1, d2] }
  | _ => none }
def FnExactAloneOnWrongFalsely : Prop := fnExactAloneOnRow.holds Try.pinned (OpenSpec.ofChange fnExactAloneOnWrong)

/- THE SECOND FORM. 'bulk': how many values and letters a reading holds, each counted each time it is reached (what is shared counts as often as it is met; a slice's spare places count too). A statement '..UptoSaid' is the law's where the arguments, and the package variables that the reading takes, are together of bulk at most 1048576: NARROWER than '..Said'. Prove '..Said' where nothing that the law and all that it calls make is longer than what came in: it says more and counts as full. Else prove '..UptoSaid'. A law counts once. -/
mutual
def uptoBulk {H : Type} : DataW H → Nat
  | .lit (.string bytes) => bytes.length + 1
  | .lit _ => 1
  | .nil => 1
  | .ptr d => uptoBulk d + 1
  | .slice elems spare => uptoBulkAll elems + uptoBulkAll spare + 1
  | .agg parts => uptoBulkAll parts + 1
  | .iface _ d => uptoBulk d + 1
  | .map entries => uptoBulkEntries entries + 1
  | .held _ => 1
def uptoBulkAll {H : Type} : List (DataW H) → Nat
  | [] => 0
  | d :: r => uptoBulk d + uptoBulkAll r
def uptoBulkEntries {H : Type} : List (Lit × DataW H) → Nat
  | [] => 0
  | x :: r => uptoBulkEntry x + uptoBulkEntries r
def uptoBulkEntry {H : Type} : Lit × DataW H → Nat
  | (.string bytes, d) => bytes.length + uptoBulk d + 1
  | (_, d) => uptoBulk d + 1
 end
def uptoSmall : (H : Type) → List (DataW H) → Bool := fun _ ds => decide (uptoBulkAll ds ≤ 1048576)
def OpenSpec.upto (s : _root_.Go.ChangeSpec) : _root_.Go.OpenSpec := { _root_.Go.OpenSpec.ofChange s with cond := some uptoSmall }

/-- 'laws.FnExactProbeFor', WHERE WHAT IT READS IS OF BULK AT MOST 1048576: true; the input reads as it did. -/
def fnExactProbeForUptoRow : OpenClaim := { program := "ytldeplmiggbonaa", sum := "6ed9f6f0c407cf2ef45b64f8d10933e360fb9480bec7d55bf77476632926b0eb", func := "loop.example/g00958/laws.FnExactProbeFor", spec := "fnExactProbeFor", unfollowed := true, recurses := true, apart := false, narrowed := true }
def FnExactProbeForUptoSaid : Prop := fnExactProbeForUptoRow.holds Try.pinned (OpenSpec.upto fnExactProbeForSpec)

/-- 'laws.FnExactProbesOf', WHERE WHAT IT READS IS OF BULK AT MOST 1048576: true; the input reads as it did. -/
def fnExactProbesOfUptoRow : OpenClaim := { program := "ytldeplmiggbonaa", sum := "6ed9f6f0c407cf2ef45b64f8d10933e360fb9480bec7d55bf77476632926b0eb", func := "loop.example/g00958/laws.FnExactProbesOf", spec := "fnExactProbesOf", unfollowed := true, recurses := true, apart := false, narrowed := true }
def FnExactProbesOfUptoSaid : Prop := fnExactProbesOfUptoRow.holds Try.pinned (OpenSpec.upto fnExactProbesOfSpec)

/-- 'laws.FnExactAreProbes', WHERE WHAT IT READS IS OF BULK AT MOST 1048576: true; the input reads as it did. -/
def fnExactAreProbesUptoRow : OpenClaim := { program := "ytldeplmiggbonaa", sum := "6ed9f6f0c407cf2ef45b64f8d10933e360fb9480bec7d55bf77476632926b0eb", func := "loop.example/g00958/laws.FnExactAreProbes", spec := "fnExactAreProbes", unfollowed := true, recurses := true, apart := false, narrowed := true }
def FnExactAreProbesUptoSaid : Prop := fnExactAreProbesUptoRow.holds Try.pinned (OpenSpec.upto fnExactAreProbesSpec)

/-- 'laws.FnExactMatrixOf', WHERE WHAT IT READS IS OF BULK AT MOST 1048576: true; the input reads as it did. -/
def fnExactMatrixOfUptoRow : OpenClaim := { program := "ytldeplmiggbonaa", sum := "6ed9f6f0c407cf2ef45b64f8d10933e360fb9480bec7d55bf77476632926b0eb", func := "loop.example/g00958/laws.FnExactMatrixOf", spec := "fnExactMatrixOf", apart := false, narrowed := true }
def FnExactMatrixOfUptoSaid : Prop := fnExactMatrixOfUptoRow.holds Try.pinned (OpenSpec.upto fnExactMatrixOfSpec)

/-- 'laws.FnExactAloneOn', WHERE WHAT IT READS IS OF BULK AT MOST 1048576: true; the input reads as it did. -/
def fnExactAloneOnUptoRow : OpenClaim := { program := "ytldeplmiggbonaa", sum := "6ed9f6f0c407cf2ef45b64f8d10933e360fb9480bec7d55bf77476632926b0eb", func := "loop.example/g00958/laws.FnExactAloneOn", spec := "fnExactAloneOn", unfollowed := true, recurses := true, apart := false, narrowed := true }
def FnExactAloneOnUptoSaid : Prop := fnExactAloneOnUptoRow.holds Try.pinned (OpenSpec.upto fnExactAloneOnSpec)

end Rows
end Go.Proofs.Ytldeplmiggbonaa
