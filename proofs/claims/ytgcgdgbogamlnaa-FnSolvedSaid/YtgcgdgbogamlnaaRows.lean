/-
  No cell of these rows narrows 'for every input' (looked for: loops, veiled, ifaces, maps, wideKeys, modest, calm, conditions, laid).
  DERIVED. THE GIVEN ROWS OF THIS SEAT. 7 by the template 'for every input the law returns true; each argument reads behind the call as it read before'; 0 by the template 'total and deterministic' (their statements: YtgcgdgbogamlnaaTotals.lean).
  GIVEN WITH THE SEED: the statements are not yours to turn. If you find one false, say at which input.
  Laid BY PROGRAM, IN A SANDBOX (cutbox-rows.mjs): the forced cells as the released guide's own fill.sh prints them over the translation 3c3c5cc9d763217c… (all of the seat's roots in one cut). By AI agents, Wed Nov 11 2026. No macro, syntax, notation, axiom, sorry.
-/
import Derived.Test.YtgcgdgbogamlnaaChecked
import GoSem.Claim
import GoSem.ClaimJoined
import GoSem.ClaimMapViews
import Derived.JoinedTies
import Derived.KernelRfl
namespace Go.Proofs.Ytgcgdgbogamlnaa
/- THE CELL 'sum', in the pinned program and in every row, IS THE sha256 OF THE DUMP (.gsa) THAT YtgcgdgbogamlnaaProg.lean LOADS. Nothing in Lean hashes anything: it is a label: what it is worth is what the hold of that sum in a sandbox is worth. -/
noncomputable def Try.pinned : Pinned := { name := "ytgcgdgbogamlnaa", sum := "3c3c5cc9d763217c19b36f7d1f0dd773813c2880657754bada81ebd63c60e9e1", checked := Try.checked }
namespace Rows
def none {H : Type} : Left H := { results := [], args := [] }

/-- 'laws.FnSolved': WHATEVER THE INPUT: true; the input reads as it did. -/
def fnSolvedSpec : ChangeSpec := { name := "fnSolved", fn := fun _ => fun
  | [d] => { results := [.lit (.bool true)], args := [d] }
  | _ => none }
def fnSolvedRow : OpenClaim := { program := "ytgcgdgbogamlnaa", sum := "3c3c5cc9d763217c19b36f7d1f0dd773813c2880657754bada81ebd63c60e9e1", func := "loop.example/g00958/laws.FnSolved", spec := "fnSolved", unfollowed := true, recurses := true, apart := false }
def FnSolvedSaid : Prop := fnSolvedRow.holds Try.pinned (OpenSpec.ofChange fnSolvedSpec)

/-- ITS FALSE NEIGHBOUR: 'it returns false'. Refute it at one input. -/
def fnSolvedWrong : ChangeSpec := { name := "fnSolved", fn := fun _ => fun
  | [d] => { results := [.lit (.bool false)], args := [d] }
  | _ => none }
def FnSolvedWrongFalsely : Prop := fnSolvedRow.holds Try.pinned (OpenSpec.ofChange fnSolvedWrong)

/-- 'laws.FnExactIsSystem': WHATEVER THE INPUT: true; the input reads as it did. -/
def fnExactIsSystemSpec : ChangeSpec := { name := "fnExactIsSystem", fn := fun _ => fun
  | [d1, d2, d3] => { results := [.lit (.bool true)], args := [d1, d2, d3] }
  | _ => none }
def fnExactIsSystemRow : OpenClaim := { program := "ytgcgdgbogamlnaa", sum := "3c3c5cc9d763217c19b36f7d1f0dd773813c2880657754bada81ebd63c60e9e1", func := "loop.example/g00958/laws.FnExactIsSystem", spec := "fnExactIsSystem", unfollowed := true, recurses := true, apart := false }
def FnExactIsSystemSaid : Prop := fnExactIsSystemRow.holds Try.pinned (OpenSpec.ofChange fnExactIsSystemSpec)

/-- ITS FALSE NEIGHBOUR: 'it returns false'. Refute it at one input. -/
def fnExactIsSystemWrong : ChangeSpec := { name := "fnExactIsSystem", fn := fun _ => fun
  | [d1, d2, d3] => { results := [.lit (.bool false)], args := [d1, d2, d3] }
  | _ => none }
def FnExactIsSystemWrongFalsely : Prop := fnExactIsSystemRow.holds Try.pinned (OpenSpec.ofChange fnExactIsSystemWrong)

/-- 'laws.FnExactIsSolvable': WHATEVER THE INPUT: true; the input reads as it did. -/
def fnExactIsSolvableSpec : ChangeSpec := { name := "fnExactIsSolvable", fn := fun _ => fun
  | [d1, d2, d3] => { results := [.lit (.bool true)], args := [d1, d2, d3] }
  | _ => none }
def fnExactIsSolvableRow : OpenClaim := { program := "ytgcgdgbogamlnaa", sum := "3c3c5cc9d763217c19b36f7d1f0dd773813c2880657754bada81ebd63c60e9e1", func := "loop.example/g00958/laws.FnExactIsSolvable", spec := "fnExactIsSolvable", unfollowed := true, recurses := true, apart := false }
def FnExactIsSolvableSaid : Prop := fnExactIsSolvableRow.holds Try.pinned (OpenSpec.ofChange fnExactIsSolvableSpec)

/-- ITS FALSE NEIGHBOUR: 'it returns false'. Refute it at one input. -/
def fnExactIsSolvableWrong : ChangeSpec := { name := "fnExactIsSolvable", fn := fun _ => fun
  | [d1, d2, d3] => { results := [.lit (.bool false)], args := [d1, d2, d3] }
  | _ => none }
def FnExactIsSolvableWrongFalsely : Prop := fnExactIsSolvableRow.holds Try.pinned (OpenSpec.ofChange fnExactIsSolvableWrong)

/-- 'laws.FnExactValueOf': WHATEVER THE INPUT: true; the input reads as it did. -/
def fnExactValueOfSpec : ChangeSpec := { name := "fnExactValueOf", fn := fun _ => fun
  | [d1, d2, d3] => { results := [.lit (.bool true)], args := [d1, d2, d3] }
  | _ => none }
def fnExactValueOfRow : OpenClaim := { program := "ytgcgdgbogamlnaa", sum := "3c3c5cc9d763217c19b36f7d1f0dd773813c2880657754bada81ebd63c60e9e1", func := "loop.example/g00958/laws.FnExactValueOf", spec := "fnExactValueOf", unfollowed := true, recurses := true, apart := false }
def FnExactValueOfSaid : Prop := fnExactValueOfRow.holds Try.pinned (OpenSpec.ofChange fnExactValueOfSpec)

/-- ITS FALSE NEIGHBOUR: 'it returns false'. Refute it at one input. -/
def fnExactValueOfWrong : ChangeSpec := { name := "fnExactValueOf", fn := fun _ => fun
  | [d1, d2, d3] => { results := [.lit (.bool false)], args := [d1, d2, d3] }
  | _ => none }
def FnExactValueOfWrongFalsely : Prop := fnExactValueOfRow.holds Try.pinned (OpenSpec.ofChange fnExactValueOfWrong)

/-- 'laws.FnExactSolutionOf': WHATEVER THE INPUT: true; the input reads as it did. -/
def fnExactSolutionOfSpec : ChangeSpec := { name := "fnExactSolutionOf", fn := fun _ => fun
  | [d1, d2, d3] => { results := [.lit (.bool true)], args := [d1, d2, d3] }
  | _ => none }
def fnExactSolutionOfRow : OpenClaim := { program := "ytgcgdgbogamlnaa", sum := "3c3c5cc9d763217c19b36f7d1f0dd773813c2880657754bada81ebd63c60e9e1", func := "loop.example/g00958/laws.FnExactSolutionOf", spec := "fnExactSolutionOf", unfollowed := true, recurses := true, apart := false }
def FnExactSolutionOfSaid : Prop := fnExactSolutionOfRow.holds Try.pinned (OpenSpec.ofChange fnExactSolutionOfSpec)

/-- ITS FALSE NEIGHBOUR: 'it returns false'. Refute it at one input. -/
def fnExactSolutionOfWrong : ChangeSpec := { name := "fnExactSolutionOf", fn := fun _ => fun
  | [d1, d2, d3] => { results := [.lit (.bool false)], args := [d1, d2, d3] }
  | _ => none }
def FnExactSolutionOfWrongFalsely : Prop := fnExactSolutionOfRow.holds Try.pinned (OpenSpec.ofChange fnExactSolutionOfWrong)

/-- 'laws.FnExactFitsSystem': WHATEVER THE INPUT: true; the input reads as it did. -/
def fnExactFitsSystemSpec : ChangeSpec := { name := "fnExactFitsSystem", fn := fun _ => fun
  | [d1, d2, d3] => { results := [.lit (.bool true)], args := [d1, d2, d3] }
  | _ => none }
def fnExactFitsSystemRow : OpenClaim := { program := "ytgcgdgbogamlnaa", sum := "3c3c5cc9d763217c19b36f7d1f0dd773813c2880657754bada81ebd63c60e9e1", func := "loop.example/g00958/laws.FnExactFitsSystem", spec := "fnExactFitsSystem", unfollowed := true, recurses := true, apart := false }
def FnExactFitsSystemSaid : Prop := fnExactFitsSystemRow.holds Try.pinned (OpenSpec.ofChange fnExactFitsSystemSpec)

/-- ITS FALSE NEIGHBOUR: 'it returns false'. Refute it at one input. -/
def fnExactFitsSystemWrong : ChangeSpec := { name := "fnExactFitsSystem", fn := fun _ => fun
  | [d1, d2, d3] => { results := [.lit (.bool false)], args := [d1, d2, d3] }
  | _ => none }
def FnExactFitsSystemWrongFalsely : Prop := fnExactFitsSystemRow.holds Try.pinned (OpenSpec.ofChange fnExactFitsSystemWrong)

/-- 'laws.FnExactTwoSolutions': WHATEVER THE INPUT: true; the input reads as it did. -/
def fnExactTwoSolutionsSpec : ChangeSpec := { name := "fnExactTwoSolutions", fn := fun _ => fun
  | [d1, d2, d3] => { results := [.lit (.bool true)], args := [d1, d2, d3] }
  | _ => none }
def fnExactTwoSolutionsRow : OpenClaim := { program := "ytgcgdgbogamlnaa", sum := "3c3c5cc9d763217c19b36f7d1f0dd773813c2880657754bada81ebd63c60e9e1", func := "loop.example/g00958/laws.FnExactTwoSolutions", spec := "fnExactTwoSolutions", unfollowed := true, recurses := true, apart := false }
def FnExactTwoSolutionsSaid : Prop := fnExactTwoSolutionsRow.holds Try.pinned (OpenSpec.ofChange fnExactTwoSolutionsSpec)

/-- ITS FALSE NEIGHBOUR: 'it returns false'. Refute it at one input. -/
def fnExactTwoSolutionsWrong : ChangeSpec := { name := "fnExactTwoSolutions", fn := fun _ => fun
  | [d1, d2, d3] => { results := [.lit (.bool false)], args := [d1, d2, d3] }
  | _ => none }
def FnExactTwoSolutionsWrongFalsely : Prop := fnExactTwoSolutionsRow.holds Try.pinned (OpenSpec.ofChange fnExactTwoSolutionsWrong)

/- THE SECOND FORM. 'bulk': how many values and letters a reading holds, each counted each time it is reached (what is shared counts as often as it is met; a slice's spare places count too). A statement '..UptoSaid' is the law's where the arguments, and the package variables that the reading takes, are together of bulk at most 1048576: NARROWER than '..Said'. Prove '..Said' where nothing that the law and all that it calls make is longer than what came in: it says more and counts as full. Else prove '..UptoSaid'. A law counts once. -/
mutual
def uptoBulk {H : Type} : DataW H → Nat
  | .lit (.string bytes) => bytes.length + 1
  | .lit _ => 1
  | .nil => 1
  | .ptr d => uptoBulk d + 1
  | .slice elems spare => uptoBulkAll elems + uptoBulkAll spare + 1
  | .agg parts => uptoBulkAll parts + 1
  | .iface _ d => uptoBulk d + 1
  | .map entries => uptoBulkEntries entries + 1
  | .held _ => 1
def uptoBulkAll {H : Type} : List (DataW H) → Nat
  | [] => 0
  | d :: r => uptoBulk d + uptoBulkAll r
def uptoBulkEntries {H : Type} : List (Lit × DataW H) → Nat
  | [] => 0
  | x :: r => uptoBulkEntry x + uptoBulkEntries r
def uptoBulkEntry {H : Type} : Lit × DataW H → Nat
  | (.string bytes, d) => bytes.length + uptoBulk d + 1
  | (_, d) => uptoBulk d + 1
 end
def uptoSmall : (H : Type) → List (DataW H) → Bool := fun _ ds => decide (uptoBulkAll ds ≤ 1048576)
def OpenSpec.upto (s : _root_.Go.ChangeSpec) : _root_.Go.OpenSpec := { _root_.Go.OpenSpec.ofChange s with cond := some uptoSmall }

/-- 'laws.FnSolved', WHERE WHAT IT READS IS OF BULK AT MOST 1048576: true; the input reads as it did. -/
def fnSolvedUptoRow : OpenClaim := { program := "ytgcgdgbogamlnaa", sum := "3c3c5cc9d763217c19b36f7d1f0dd773813c2880657754bada81ebd63c60e9e1", func := "loop.example/g00958/laws.FnSolved", spec := "fnSolved", unfollowed := true, recurses := true, apart := false, narrowed := true }
def FnSolvedUptoSaid : Prop := fnSolvedUptoRow.holds Try.pinned (OpenSpec.upto fnSolvedSpec)

/-- 'laws.FnExactIsSystem', WHERE WHAT IT READS IS OF BULK AT MOST 1048576: true; the input reads as it did. -/
def fnExactIsSystemUptoRow : OpenClaim := { program := "ytgcgdgbogamlnaa", sum := "3c3c5cc9d763217c19b36f7d1f0dd773813c2880657754bada81ebd63c60e9e1", func := "loop.example/g00958/laws.FnExactIsSystem", spec := "fnExactIsSystem", unfollowed := true, recurses := true, apart := false, narrowed := true }
def FnExactIsSystemUptoSaid : Prop := fnExactIsSystemUptoRow.holds Try.pinned (OpenSpec.upto fnExactIsSystemSpec)

/-- 'laws.FnExactIsSolvable', WHERE WHAT IT READS IS OF BULK AT MOST 1048576: true; the input reads as it did. -/
def fnExactIsSolvableUptoRow : OpenClaim := { program := "ytgcgdgbogamlnaa", sum := "3c3c5cc9d763217c19b36f7d1f0dd773813c2880657754bada81ebd63c60e9e1", func := "loop.example/g00958/laws.FnExactIsSolvable", spec := "fnExactIsSolvable", unfollowed := true, recurses := true, apart := false, narrowed := true }
def FnExactIsSolvableUptoSaid : Prop := fnExactIsSolvableUptoRow.holds Try.pinned (OpenSpec.upto fnExactIsSolvableSpec)

/-- 'laws.FnExactValueOf', WHERE WHAT IT READS IS OF BULK AT MOST 1048576: true; the input reads as it did. -/
def fnExactValueOfUptoRow : OpenClaim := { program := "ytgcgdgbogamlnaa", sum := "3c3c5cc9d763217c19b36f7d1f0dd773813c2880657754bada81ebd63c60e9e1", func := "loop.example/g00958/laws.FnExactValueOf", spec := "fnExactValueOf", unfollowed := true, recurses := true, apart := false, narrowed := true }
def FnExactValueOfUptoSaid : Prop := fnExactValueOfUptoRow.holds Try.pinned (OpenSpec.upto fnExactValueOfSpec)

/-- 'laws.FnExactSolutionOf', WHERE WHAT IT READS IS OF BULK AT MOST 1048576: true; the input reads as it did. -/
def fnExactSolutionOfUptoRow : OpenClaim := { program := "ytgcgdgbogamlnaa", sum := "3c3c5cc9d763217c19b36f7d1f0dd773813c2880657754bada81ebd63c60e9e1", func := "loop.example/g00958/laws.FnExactSolutionOf", spec := "fnExactSolutionOf", unfollowed := true, recurses := true, apart := false, narrowed := true }
def FnExactSolutionOfUptoSaid : Prop := fnExactSolutionOfUptoRow.holds Try.pinned (OpenSpec.upto fnExactSolutionOfSpec)

/-- 'laws.FnExactFitsSystem', WHERE WHAT IT READS IS OF BULK AT MOST 1048576: true; the input reads as it did. -/
def fnExactFitsSystemUptoRow : OpenClaim := { program := "ytgcgdgbogamlnaa", sum := "3c3c5cc9d763217c19b36f7d1f0dd773813c2880657754bada81ebd63c60e9e1", func := "loop.example/g00958/laws.FnExactFitsSystem", spec := "fnExactFitsSystem", unfollowed := true, recurses := true, apart := false, narrowed := true }
def FnExactFitsSystemUptoSaid : Prop := fnExactFitsSystemUptoRow.holds Try.pinned (OpenSpec.upto fnExactFitsSystemSpec)

/-- 'laws.FnExactTwoSolutions', WHERE WHAT IT READS IS OF BULK AT MOST 1048576: true; the input reads as it did. -/
def fnExactTwoSolutionsUptoRow : OpenClaim := { program := "ytgcgdgbogamlnaa", sum := "3c3c5cc9d763217c19b36f7d1f0dd773813c2880657754bada81ebd63c60e9e1", func := "loop.example/g00958/laws.FnExactTwoSolutions", spec := "fnExactTwoSolutions", unfollowed := true, recurses := true, apart := false, narrowed := true }
def FnExactTwoSolutionsUptoSaid : Prop := fnExactTwoSolutionsUptoRow.holds Try.pinned (OpenSpec.upto fnExactTwoSolutionsSpec)

end Rows
end Go.Proofs.Ytgcgdgbogamlnaa
