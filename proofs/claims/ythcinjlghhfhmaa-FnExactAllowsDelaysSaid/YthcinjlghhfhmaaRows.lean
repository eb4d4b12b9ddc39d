/-
  No cell of these rows narrows 'for every input' (looked for: loops, veiled, ifaces, maps, wideKeys, modest, calm, conditions, laid).
  DERIVED. THE GIVEN ROWS OF THIS SEAT. 6 by the template 'for every input the law returns true; each argument reads behind the call as it read before'; 0 by the template 'total and deterministic' (their statements: YthcinjlghhfhmaaTotals.lean).
  GIVEN WITH THE SEED: the statements are not yours to turn. If you find one false, say at which input.
  Laid BY PROGRAM, IN A SANDBOX (cutbox-rows.mjs): the forced cells as the released guide's own fill.sh prints them over the translation 85f4135ecd34349b… (all of the seat's roots in one cut). By AI agents, Wed Nov 11 2026. No macro, syntax, notation, axiom, sorry.
-/
import Derived.Test.YthcinjlghhfhmaaChecked
import GoSem.Claim
import GoSem.ClaimJoined
import GoSem.ClaimMapViews
import Derived.JoinedTies
import Derived.KernelRfl
namespace Go.Proofs.Ythcinjlghhfhmaa
/- THE CELL 'sum', in the pinned program and in every row, IS THE sha256 OF THE DUMP (.gsa) THAT YthcinjlghhfhmaaProg.lean LOADS. Nothing in Lean hashes anything: it is a label: what it is worth is what the hold of that sum in a sandbox is worth. -/
noncomputable def Try.pinned : Pinned := { name := "ythcinjlghhfhmaa", sum := "85f4135ecd34349bec1b668821ac8e4bc41c16b54bd5d5bb84c3d5661413a155", checked := Try.checked }
namespace Rows
def none {H : Type} : Left H := { results := [], args := [] }

/-- 'laws.FnBounds': WHATEVER THE INPUT: true; the input reads as it did. -/
def fnBoundsSpec : ChangeSpec := { name := "fnBounds", fn := fun _ => fun
  | [d] => { results := [.lit (.bool true)], args := [d] }
  | _ => none }
def fnBoundsRow : OpenClaim := { program := "ythcinjlghhfhmaa", sum := "85f4135ecd34349bec1b668821ac8e4bc41c16b54bd5d5bb84c3d5661413a155", func := "loop.example/g00958/laws.FnBounds", spec := "fnBounds", unfollowed := true, recurses := true, apart := false }
def FnBoundsSaid : Prop := fnBoundsRow.holds Try.pinned (OpenSpec.ofChange fnBoundsSpec)

/-- ITS FALSE NEIGHBOUR: 'it returns false'. Refute it at one input. -/
def fnBoundsWrong : ChangeSpec := { name := "fnBounds", fn := fun _ => fun
  | [d] => { results := [.lit (.bool false)], args := [d] }
  | _ => none }
def FnBoundsWrongFalsely : Prop := fnBoundsRow.holds Try.pinned (OpenSpec.ofChange fnBoundsWrong)

/-- 'laws.FnExactAreBounds': WHATEVER THE INPUT: true; the input reads as it did. -/
def fnExactAreBoundsSpec : ChangeSpec := { name := "fnExactAreBounds", fn := fun _ => fun
  | [d1, d2, d3] => { results := [.lit (.bool true)], args := [d1, d2, d3] }
  | _ => none }
def fnExactAreBoundsRow : OpenClaim := { program := "ythcinjlghhfhmaa", sum := "85f4135ecd34349bec1b668821ac8e4bc41c16b54bd5d5bb84c3d5661413a155", func := "loop.example/g00958/laws.FnExactAreBounds", spec := "fnExactAreBounds", unfollowed := true, recurses := true, apart := false }
def FnExactAreBoundsSaid : Prop := fnExactAreBoundsRow.holds Try.pinned (OpenSpec.ofChange fnExactAreBoundsSpec)

/-- ITS FALSE NEIGHBOUR: 'it returns false'. Refute it at one input. -/
def fnExactAreBoundsWrong : ChangeSpec := { name := "fnExactAreBounds", fn := fun _ => fun
  | [d1, d2, d3] => { results := [.lit (.bool false)], args := [d1, d2, d3] }
  | _ => none }
def FnExactAreBoundsWrongFalsely : Prop := fnExactAreBoundsRow.holds Try.pinned (OpenSpec.ofChange fnExactAreBoundsWrong)

/-- 'laws.FnExactStartBounds': WHATEVER THE INPUT: true; the input reads as it did. -/
def fnExactStartBoundsSpec : ChangeSpec := { name := "fnExactStartBounds", fn := fun _ => fun
  | [d] => { results := [.lit (.bool true)], args := [d] }
  | _ => none }
def fnExactStartBoundsRow : OpenClaim := { program := "ythcinjlghhfhmaa", sum := "85f4135ecd34349bec1b668821ac8e4bc41c16b54bd5d5bb84c3d5661413a155", func := "loop.example/g00958/laws.FnExactStartBounds", spec := "fnExactStartBounds", apart := false }
def FnExactStartBoundsSaid : Prop := fnExactStartBoundsRow.holds Try.pinned (OpenSpec.ofChange fnExactStartBoundsSpec)

/-- ITS FALSE NEIGHBOUR: 'it returns false'. Refute it at one input. -/
def fnExactStartBoundsWrong : ChangeSpec := { name := "fnExactStartBounds", fn := fun _ => fun
  | [d] => { results := [.lit (.bool false)], args := [d] }
  | _ => none }
def FnExactStartBoundsWrongFalsely : Prop := fnExactStartBoundsRow.holds Try.pinned (OpenSpec.ofChange fnExactStartBoundsWrong)

/-- 'laws.FnExactNarrowOnce': WHATEVER THE INPUT: true; the input reads as it did. -/
def fnExactNarrowOnceSpec : ChangeSpec := { name := "fnExactNarrowOnce", fn := fun _ => fun
  | [d1, d2, d3] => { results := [.lit (.bool true)], args := [d1, d2, d3] }
  | _ => none }
def fnExactNarrowOnceRow : OpenClaim := { program := "ythcinjlghhfhmaa", sum := "85f4135ecd34349bec1b668821ac8e4bc41c16b54bd5d5bb84c3d5661413a155", func := "loop.example/g00958/laws.FnExactNarrowOnce", spec := "fnExactNarrowOnce", unfollowed := true, recurses := true, apart := false }
def FnExactNarrowOnceSaid : Prop := fnExactNarrowOnceRow.holds Try.pinned (OpenSpec.ofChange fnExactNarrowOnceSpec)

/-- ITS FALSE NEIGHBOUR: 'it returns false'. Refute it at one input. -/
def fnExactNarrowOnceWrong : ChangeSpec := { name := "fnExactNarrowOnce", fn := fun _ => fun
  | [d1, d2, d3] => { results := [.lit (.bool false)], args := [d1, d2, d3] }
  | _ => none }
def FnExactNarrowOnceWrongFalsely : Prop := fnExactNarrowOnceRow.holds Try.pinned (OpenSpec.ofChange fnExactNarrowOnceWrong)

/-- 'laws.FnExactNarrowAll': WHATEVER THE INPUT: true; the input reads as it did. -/
def fnExactNarrowAllSpec : ChangeSpec := { name := "fnExactNarrowAll", fn := fun _ => fun
  | [d1, d2, d3] => { results := [.lit (.bool true)], args := [d1, d2, d3] }
  | _ => none }
def fnExactNarrowAllRow : OpenClaim := { program := "ythcinjlghhfhmaa", sum := "85f4135ecd34349bec1b668821ac8e4bc41c16b54bd5d5bb84c3d5661413a155", func := "loop.example/g00958/laws.FnExactNarrowAll", spec := "fnExactNarrowAll", unfollowed := true, recurses := true, apart := false }
def FnExactNarrowAllSaid : Prop := fnExactNarrowAllRow.holds Try.pinned (OpenSpec.ofChange fnExactNarrowAllSpec)

/-- ITS FALSE NEIGHBOUR: 'it returns false'. Refute it at one input. -/
def fnExactNarrowAllWrong : ChangeSpec := { name := "fnExactNarrowAll", fn := fun _ => fun
  | [d1, d2, d3] => { results := [.lit (.bool false)], args := [d1, d2, d3] }
  | _ => none }
def FnExactNarrowAllWrongFalsely : Prop := fnExactNarrowAllRow.holds Try.pinned (OpenSpec.ofChange fnExactNarrowAllWrong)

/-- 'laws.FnExactAllowsDelays': WHATEVER THE INPUT: true; the input reads as it did. -/
def fnExactAllowsDelaysSpec : ChangeSpec := { name := "fnExactAllowsDelays", fn := fun _ => fun
  | [d1, d2, d3] => { results := [.lit (.bool true)], args := [d1, d2, d3] }
  | _ => none }
def fnExactAllowsDelaysRow : OpenClaim := { program := "ythcinjlghhfhmaa", sum := "85f4135ecd34349bec1b668821ac8e4bc41c16b54bd5d5bb84c3d5661413a155", func := "loop.example/g00958/laws.FnExactAllowsDelays", spec := "fnExactAllowsDelays", unfollowed := true, recurses := true, apart := false }
def FnExactAllowsDelaysSaid : Prop := fnExactAllowsDelaysRow.holds Try.pinned (OpenSpec.ofChange fnExactAllowsDelaysSpec)

/-- ITS FALSE NEIGHBOUR: 'it returns false'. Refute it at one input. -/
def fnExactAllowsDelaysWrong : ChangeSpec := { name := "fnExactAllowsDelays", fn := fun _ => fun
  | [d1, d2, d3] => { results := [.lit (.bool false)], args := [d1, d2, d3] }
  | _ => none }
def FnExactAllowsDelaysWrongFalsely : Prop := fnExactAllowsDelaysRow.holds Try.pinned (OpenSpec.ofChange fnExactAllowsDelaysWrong)

/- THE SECOND FORM. 'bulk': how many values and letters a reading holds, each counted each time it is reached (what is shared counts as often as it is met; a slice's spare places count too). A statement '..UptoSaid' is the law's where the arguments, and the package variables that the reading takes, are together of bulk at most 1048576: NARROWER than '..Said'. Prove '..Said' where nothing that the law and all that it calls make is longer than what came in: it says more and counts as full. Else prove '..UptoSaid'. A law counts once. -/
mutual
def uptoBulk {H : Type} : DataW H → Nat
  | .lit (.string bytes) => bytes.length + 1
  | .lit _ => 1
  | .nil => 1
  | .ptr d => uptoBulk d + 1
  | .slice elems spare => uptoBulkAll elems + uptoBulkAll spare + 1
  | .agg parts => uptoBulkAll parts + 1
  | .iface _ d => uptoBulk d + 1
  | .map entries => uptoBulkEntries entries + 1
  | .held _ => 1
def uptoBulkAll {H : Type} : List (DataW H) → Nat
  | [] => 0
  | d :: r => uptoBulk d + uptoBulkAll r
def uptoBulkEntries {H : Type} : List (Lit × DataW H) → Nat
  | [] => 0
  | x :: r => uptoBulkEntry x + uptoBulkEntries r
def uptoBulkEntry {H : Type} : Lit × DataW H → Nat
  | (.string bytes, d) => bytes.length + uptoBulk d + 1
  | (_, d) => uptoBulk d + 1
 end
def uptoSmall : (H : Type) → List (DataW H) → Bool := fun _ ds => decide (uptoBulkAll ds ≤ 1048576)
def OpenSpec.upto (s : _root_.Go.ChangeSpec) : _root_.Go.OpenSpec := { _root_.Go.OpenSpec.ofChange s with cond := some uptoSmall }

/-- 'laws.FnBounds', WHERE WHAT IT READS IS OF BULK AT MOST 1048576: true; the input reads as it did. -/
def fnBoundsUptoRow : OpenClaim := { program := "ythcinjlghhfhmaa", sum := "85f4135ecd34349bec1b668821ac8e4bc41c16b54bd5d5bb84c3d5661413a155", func := "loop.example/g00958/laws.FnBounds", spec := "fnBounds", unfollowed := true, recurses := true, apart := false, narrowed := true }
def FnBoundsUptoSaid : Prop := fnBoundsUptoRow.holds Try.pinned (OpenSpec.upto fnBoundsSpec)

/-- 'laws.FnExactAreBounds', WHERE WHAT IT READS IS OF BULK AT MOST 1048576: true; the input reads as it did. -/
def fnExactAreBoundsUptoRow : OpenClaim := { program := "ythcinjlghhfhmaa", sum := "85f4135ecd34349bec1b668821ac8e4bc41c16b54bd5d5bb84c3d5661413a155", func := "loop.example/g00958/laws.FnExactAreBounds", spec := "fnExactAreBounds", unfollowed := true, recurses := true, apart := false, narrowed := true }
def FnExactAreBoundsUptoSaid : Prop := fnExactAreBoundsUptoRow.holds Try.pinned (OpenSpec.upto fnExactAreBoundsSpec)

/-- 'laws.FnExactStartBounds', WHERE WHAT IT READS IS OF BULK AT MOST 1048576: true; the input reads as it did. -/
def fnExactStartBoundsUptoRow : OpenClaim := { program := "ythcinjlghhfhmaa", sum := "85f4135ecd34349bec1b668821ac8e4bc41c16b54bd5d5bb84c3d5661413a155", func := "loop.example/g00958/laws.FnExactStartBounds", spec := "fnExactStartBounds", apart := false, narrowed := true }
def FnExactStartBoundsUptoSaid : Prop := fnExactStartBoundsUptoRow.holds Try.pinned (OpenSpec.upto fnExactStartBoundsSpec)

/-- 'laws.FnExactNarrowOnce', WHERE WHAT IT READS IS OF BULK AT MOST 1048576: true; the input reads as it did. -/
def fnExactNarrowOnceUptoRow : OpenClaim := { program := "ythcinjlghhfhmaa", sum := "85f4135ecd34349bec1b668821ac8e4bc41c16b54bd5d5bb84c3d5661413a155", func := "loop.example/g00958/laws.FnExactNarrowOnce", spec := "fnExactNarrowOnce", unfollowed := true, recurses := true, apart := false, narrowed := true }
def FnExactNarrowOnceUptoSaid : Prop := fnExactNarrowOnceUptoRow.holds Try.pinned (OpenSpec.upto fnExactNarrowOnceSpec)

/-- 'laws.FnExactNarrowAll', WHERE WHAT IT READS IS OF BULK AT MOST 1048576: true; the input reads as it did. -/
def fnExactNarrowAllUptoRow : OpenClaim := { program := "ythcinjlghhfhmaa", sum := "85f4135ecd34349bec1b668821ac8e4bc41c16b54bd5d5bb84c3d5661413a155", func := "loop.example/g00958/laws.FnExactNarrowAll", spec := "fnExactNarrowAll", unfollowed := true, recurses := true, apart := false, narrowed := true }
def FnExactNarrowAllUptoSaid : Prop := fnExactNarrowAllUptoRow.holds Try.pinned (OpenSpec.upto fnExactNarrowAllSpec)

/-- 'laws.FnExactAllowsDelays', WHERE WHAT IT READS IS OF BULK AT MOST 1048576: true; the input reads as it did. -/
def fnExactAllowsDelaysUptoRow : OpenClaim := { program := "ythcinjlghhfhmaa", sum := "85f4135ecd34349bec1b668821ac8e4bc41c16b54bd5d5bb84c3d5661413a155", func := "loop.example/g00958/laws.FnExactAllowsDelays", spec := "fnExactAllowsDelays", unfollowed := true, recurses := true, apart := false, narrowed := true }
def FnExactAllowsDelaysUptoSaid : Prop := fnExactAllowsDelaysUptoRow.holds Try.pinned (OpenSpec.upto fnExactAllowsDelaysSpec)

end Rows
end Go.Proofs.Ythcinjlghhfhmaa
