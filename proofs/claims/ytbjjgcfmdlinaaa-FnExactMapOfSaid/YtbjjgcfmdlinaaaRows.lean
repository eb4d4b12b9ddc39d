/-
  No cell of these rows narrows 'for every input' (looked for: loops, veiled, ifaces, maps, wideKeys, modest, calm, conditions, laid).
  DERIVED. THE GIVEN ROWS OF THIS SEAT. 6 by the template 'for every input the law returns true; each argument reads behind the call as it read before'; 0 by the template 'total and deterministic' (their statements: YtbjjgcfmdlinaaaTotals.lean).
  GIVEN WITH THE SEED: the statements are not yours to turn. If you find one false, say at which input.
  Laid BY PROGRAM, IN A SANDBOX (cutbox-rows.mjs): the forced cells as the released guide's own fill.sh prints them over the translation 5eab3e68969d33cd… (all of the seat's roots in one cut). By AI agents, Wed Nov 11 2026. No macro, syntax, notation, axiom, sorry.
-/
import Derived.Test.YtbjjgcfmdlinaaaChecked
import GoSem.Claim
import GoSem.ClaimJoined
import GoSem.ClaimMapViews
import Derived.JoinedTies
import Derived.KernelRfl
namespace Go.Proofs.Ytbjjgcfmdlinaaa
/- THE CELL 'sum', in the pinned program and in every row, IS THE sha256 OF THE DUMP (.gsa) THAT YtbjjgcfmdlinaaaProg.lean LOADS. Nothing in Lean hashes anything: it is a label: what it is worth is what the hold of that sum in a sandbox is worth. -/
noncomputable def Try.pinned : Pinned := { name := "ytbjjgcfmdlinaaa", sum := "5eab3e68969d33cdbe90c675c379cdfd0be59ff9e6fc0d59b2da0a3959d28648", checked := Try.checked }
namespace Rows
def none {H : Type} : Left H := { results := [], args := [] }

/-- 'laws.FnMaps': WHATEVER THE INPUT: true; the input reads as it did. -/
def fnMapsSpec : ChangeSpec := { name := "fnMaps", fn := fun _ => fun
  | [d] => { results := [.lit (.bool true)], args := [d] }
  | _ => none }
def fnMapsRow : OpenClaim := { program := "ytbjjgcfmdlinaaa", sum := "5eab3e68969d33cdbe90c675c379cdfd0be59ff9e6fc0d59b2da0a3959d28648", func := "loop.example/g00958/laws.FnMaps", spec := "fnMaps", unfollowed := true, recurses := true, plainKeys := false, apart := false }
def FnMapsSaid : Prop := fnMapsRow.holds Try.pinned (OpenSpec.ofChange fnMapsSpec)

/-- ITS FALSE NEIGHBOUR: 'it returns false'. Refute it at one input. -/
def fnMapsWrong : ChangeSpec := { name := "fnMaps", fn := fun _ => fun
  | [d] => { results := [.lit (.bool false)], args := [d] }
  | _ => none }
def FnMapsWrongFalsely : Prop := fnMapsRow.holds Try.pinned (OpenSpec.ofChange fnMapsWrong)

/-- 'laws.FnExactAreTraces': WHATEVER THE INPUT: true; the input reads as it did. -/
def fnExactAreTracesSpec : ChangeSpec := { name := "fnExactAreTraces", fn := fun _ => fun
  | [d] => { results := [.lit (.bool true)], args := [d] }
  | _ => none }
def fnExactAreTracesRow : OpenClaim := { program := "ytbjjgcfmdlinaaa", sum := "5eab3e68969d33cdbe90c675c379cdfd0be59ff9e6fc0d59b2da0a3959d28648", func := "loop.example/g00958/laws.FnExactAreTraces", spec := "fnExactAreTraces", unfollowed := true, recurses := true, plainKeys := false, apart := false }
def FnExactAreTracesSaid : Prop := fnExactAreTracesRow.holds Try.pinned (OpenSpec.ofChange fnExactAreTracesSpec)

/-- ITS FALSE NEIGHBOUR: 'it returns false'. Refute it at one input. -/
def fnExactAreTracesWrong : ChangeSpec := { name := "fnExactAreTraces", fn := fun _ => fun
  | [d] => { results := [.lit (.bool false)], args := [d] }
  | _ => none }
def FnExactAreTracesWrongFalsely : Prop := fnExactAreTracesRow.holds Try.pinned (OpenSpec.ofChange fnExactAreTracesWrong)

/-- 'laws.FnExactMapOf': WHATEVER THE INPUT: true; the input reads as it did. -/
def fnExactMapOfSpec : ChangeSpec := { name := "fnExactMapOf", fn := fun _ => fun
  | [d] => { results := [.lit (.bool true)], args := [d] }
  | _ => none }
def fnExactMapOfRow : OpenClaim := { program := "ytbjjgcfmdlinaaa", sum := "5eab3e68969d33cdbe90c675c379cdfd0be59ff9e6fc0d59b2da0a3959d28648", func := "loop.example/g00958/laws.FnExactMapOf", spec := "fnExactMapOf", unfollowed := true, recurses := true, plainKeys := false, apart := false }
def FnExactMapOfSaid : Prop := fnExactMapOfRow.holds Try.pinned (OpenSpec.ofChange fnExactMapOfSpec)

/-- ITS FALSE NEIGHBOUR: 'it returns false'. Refute it at one input. -/
def fnExactMapOfWrong : ChangeSpec := { name := "fnExactMapOf", fn := fun _ => fun
  | [d] => { results := [.lit (.bool false)], args := [d] }
  | _ => none }
def FnExactMapOfWrongFalsely : Prop := fnExactMapOfRow.holds Try.pinned (OpenSpec.ofChange fnExactMapOfWrong)

/-- 'laws.FnExactGapsIn': WHATEVER THE INPUT: true; the input reads as it did. -/
def fnExactGapsInSpec : ChangeSpec := { name := "fnExactGapsIn", fn := fun _ => fun
  | [d] => { results := [.lit (.bool true)], args := [d] }
  | _ => none }
def fnExactGapsInRow : OpenClaim := { program := "ytbjjgcfmdlinaaa", sum := "5eab3e68969d33cdbe90c675c379cdfd0be59ff9e6fc0d59b2da0a3959d28648", func := "loop.example/g00958/laws.FnExactGapsIn", spec := "fnExactGapsIn", plainKeys := false, apart := false }
def FnExactGapsInSaid : Prop := fnExactGapsInRow.holds Try.pinned (OpenSpec.ofChange fnExactGapsInSpec)

/-- ITS FALSE NEIGHBOUR: 'it returns false'. Refute it at one input. -/
def fnExactGapsInWrong : ChangeSpec := { name := "fnExactGapsIn", fn := fun _ => fun
  | [d] => { results := [.lit (.bool false)], args := [d] }
  | _ => none }
def FnExactGapsInWrongFalsely : Prop := fnExactGapsInRow.holds Try.pinned (OpenSpec.ofChange fnExactGapsInWrong)

/-- 'laws.FnExactFitsMap': WHATEVER THE INPUT: true; the input reads as it did. -/
def fnExactFitsMapSpec : ChangeSpec := { name := "fnExactFitsMap", fn := fun _ => fun
  | [d1, d2] => { results := [.lit (.bool true)], args := [d1, d2] }
  | _ => none }
def fnExactFitsMapRow : OpenClaim := { program := "ytbjjgcfmdlinaaa", sum := "5eab3e68969d33cdbe90c675c379cdfd0be59ff9e6fc0d59b2da0a3959d28648", func := "loop.example/g00958/laws.FnExactFitsMap", spec := "fnExactFitsMap", unfollowed := true, recurses := true, plainKeys := false, apart := false }
def FnExactFitsMapSaid : Prop := fnExactFitsMapRow.holds Try.pinned (OpenSpec.ofChange fnExactFitsMapSpec)

/-- ITS FALSE NEIGHBOUR: 'it returns false'. Refute it at one input. -/
def fnExactFitsMapWrong : ChangeSpec := { name := "fnExactFitsMap", fn := fun _ => fun
  | [d1, d2] => { results := [.lit (.bool false)], args := [d1, d2] }
  | _ => none }
def FnExactFitsMapWrongFalsely : Prop := fnExactFitsMapRow.holds Try.pinned (OpenSpec.ofChange fnExactFitsMapWrong)

/-- 'laws.FnExactHasCircle': WHATEVER THE INPUT: true; the input reads as it did. -/
def fnExactHasCircleSpec : ChangeSpec := { name := "fnExactHasCircle", fn := fun _ => fun
  | [d] => { results := [.lit (.bool true)], args := [d] }
  | _ => none }
def fnExactHasCircleRow : OpenClaim := { program := "ytbjjgcfmdlinaaa", sum := "5eab3e68969d33cdbe90c675c379cdfd0be59ff9e6fc0d59b2da0a3959d28648", func := "loop.example/g00958/laws.FnExactHasCircle", spec := "fnExactHasCircle", plainKeys := false, apart := false }
def FnExactHasCircleSaid : Prop := fnExactHasCircleRow.holds Try.pinned (OpenSpec.ofChange fnExactHasCircleSpec)

/-- ITS FALSE NEIGHBOUR: 'it returns false'. Refute it at one input. -/
def fnExactHasCircleWrong : ChangeSpec := { name := "fnExactHasCircle", fn := fun _ => fun
  | [d] => { results := [.lit (.bool false)], args := [d] }
  | _ => none }
def FnExactHasCircleWrongFalsely : Prop := fnExactHasCircleRow.holds Try.pinned (OpenSpec.ofChange fnExactHasCircleWrong)

/- THE SECOND FORM. 'bulk': how many values and letters a reading holds, each counted each time it is reached (what is shared counts as often as it is met; a slice's spare places count too). A statement '..UptoSaid' is the law's where the arguments, and the package variables that the reading takes, are together of bulk at most 1048576: NARROWER than '..Said'. Prove '..Said' where nothing that the law and all that it calls make is longer than what came in: it says more and counts as full. Else prove '..UptoSaid'. A law counts once. -/
mutual
def uptoBulk {H : Type} : DataW H → Nat
  | .lit (.string bytes) => bytes.length + 1
  | .lit _ => 1
  | .nil => 1
  | .ptr d => uptoBulk d + 1
  | .slice elems spare => uptoBulkAll elems + uptoBulkAll spare + 1
  | .agg parts => uptoBulkAll parts + 1
  | .iface _ d => uptoBulk d + 1
  | .map entries => uptoBulkEntries entries + 1
  | .held _ => 1
def uptoBulkAll {H : Type} : List (DataW H) → Nat
  | [] => 0
  | d :: r => uptoBulk d + uptoBulkAll r
def uptoBulkEntries {H : Type} : List (Lit × DataW H) → Nat
  | [] => 0
  | x :: r => uptoBulkEntry x + uptoBulkEntries r
def uptoBulkEntry {H : Type} : Lit × DataW H → Nat
  | (.string bytes, d) => bytes.length + uptoBulk d + 1
  | (_, d) => uptoBulk d + 1
 end
def uptoSmall : (H : Type) → List (DataW H) → Bool := fun _ ds => decide (uptoBulkAll ds ≤ 1048576)
def OpenSpec.upto (s : _root_.Go.ChangeSpec) : _root_.Go.OpenSpec := { _root_.Go.OpenSpec.ofChange s with cond := some uptoSmall }

/-- 'laws.FnMaps', WHERE WHAT IT READS IS OF BULK AT MOST 1048576: true; the input reads as it did. -/
def fnMapsUptoRow : OpenClaim := { program := "ytbjjgcfmdlinaaa", sum := "5eab3e68969d33cdbe90c675c379cdfd0be59ff9e6fc0d59b2da0a3959d28648", func := "loop.example/g00958/laws.FnMaps", spec := "fnMaps", unfollowed := true, recurses := true, plainKeys := false, apart := false, narrowed := true }
def FnMapsUptoSaid : Prop := fnMapsUptoRow.holds Try.pinned (OpenSpec.upto fnMapsSpec)

/-- 'laws.FnExactAreTraces', WHERE WHAT IT READS IS OF BULK AT MOST 1048576: true; the input reads as it did. -/
def fnExactAreTracesUptoRow : OpenClaim := { program := "ytbjjgcfmdlinaaa", sum := "5eab3e68969d33cdbe90c675c379cdfd0be59ff9e6fc0d59b2da0a3959d28648", func := "loop.example/g00958/laws.FnExactAreTraces", spec := "fnExactAreTraces", unfollowed := true, recurses := true, plainKeys := false, apart := false, narrowed := true }
def FnExactAreTracesUptoSaid : Prop := fnExactAreTracesUptoRow.holds Try.pinned (OpenSpec.upto fnExactAreTracesSpec)

/-- 'laws.FnExactMapOf', WHERE WHAT IT READS IS OF BULK AT MOST 1048576: true; the input reads as it did. -/
def fnExactMapOfUptoRow : OpenClaim := { program := "ytbjjgcfmdlinaaa", sum := "5eab3e68969d33cdbe90c675c379cdfd0be59ff9e6fc0d59b2da0a3959d28648", func := "loop.example/g00958/laws.FnExactMapOf", spec := "fnExactMapOf", unfollowed := true, recurses := true, plainKeys := false, apart := false, narrowed := true }
def FnExactMapOfUptoSaid : Prop := fnExactMapOfUptoRow.holds Try.pinned (OpenSpec.upto fnExactMapOfSpec)

/-- 'laws.FnExactGapsIn', WHERE WHAT IT READS IS OF BULK AT MOST 1048576: true; the input reads as it did. -/
def fnExactGapsInUptoRow : OpenClaim := { program := "ytbjjgcfmdlinaaa", sum := "5eab3e68969d33cdbe90c675c379cdfd0be59ff9e6fc0d59b2da0a3959d28648", func := "loop.example/g00958/laws.FnExactGapsIn", spec := "fnExactGapsIn", plainKeys := false, apart := false, narrowed := true }
def FnExactGapsInUptoSaid : Prop := fnExactGapsInUptoRow.holds Try.pinned (OpenSpec.upto fnExactGapsInSpec)

/-- 'laws.FnExactFitsMap', WHERE WHAT IT READS IS OF BULK AT MOST 1048576: true; the input reads as it did. -/
def fnExactFitsMapUptoRow : OpenClaim := { program := "ytbjjgcfmdlinaaa", sum := "5eab3e68969d33cdbe90c675c379cdfd0be59ff9e6fc0d59b2da0a3959d28648", func := "loop.example/g00958/laws.FnExactFitsMap", spec := "fnExactFitsMap", unfollowed := true, recurses := true, plainKeys := false, apart := false, narrowed := true }
def FnExactFitsMapUptoSaid : Prop := fnExactFitsMapUptoRow.holds Try.pinned (OpenSpec.upto fnExactFitsMapSpec)

/-- 'laws.FnExactHasCircle', WHERE WHAT IT READS IS OF BULK AT MOST 1048576: true; the input reads as it did. -/
def fnExactHasCircleUptoRow : OpenClaim := { program := "ytbjjgcfmdlinaaa", sum := "5eab3e68969d33cdbe90c675c379cdfd0be59ff9e6fc0d59b2da0a3959d28648", func := "loop.example/g00958/laws.FnExactHasCircle", spec := "fnExactHasCircle", plainKeys := false, apart := false, narrowed := true }
def FnExactHasCircleUptoSaid : Prop := fnExactHasCircleUptoRow.holds Try.pinned (OpenSpec.upto fnExactHasCircleSpec)

end Rows
end Go.Proofs.Ytbjjgcfmdlinaaa
