/-
  No cell of these rows narrows 'for every input' (looked for: loops, veiled, ifaces, maps, wideKeys, modest, calm, conditions, laid).
  DERIVED. THE GIVEN ROWS OF THIS SEAT. 7 by the template 'for every input the law returns true; each argument reads behind the call as it read before'; 0 by the template 'total and deterministic' (their statements: YtedkeobhcpbigaaTotals.lean).
  GIVEN WITH THE SEED: the statements are not yours to turn. If you find one false, say at which input.
  Laid BY PROGRAM, IN A SANDBOX (cutbox-rows.mjs): the forced cells as the released guide's own fill.sh prints them over the translation 4b69868cbab4f3ce… (all of the seat's roots in one cut). By AI agents, Wed Nov 11 2026. No macro, syntax, notation, axiom, sorry.
-/
import Derived.Test.YtedkeobhcpbigaaChecked
import GoSem.Claim
import GoSem.ClaimJoined
import GoSem.ClaimMapViews
import Derived.JoinedTies
import Derived.KernelRfl
namespace Go.Proofs.Ytedkeobhcpbigaa
/- THE CELL 'sum', in the pinned program and in every row, IS THE sha256 OF THE DUMP (.gsa) THAT YtedkeobhcpbigaaProg.lean LOADS. Nothing in Lean hashes anything: it is a label: what it is worth is what the hold of that sum in a sandbox is worth. -/
noncomputable def Try.pinned : Pinned := { name := "ytedkeobhcpbigaa", sum := "4b69868cbab4f3ceb077f458dfd6f696e0a6d361151490373de73a454a487b86", checked := Try.checked }
namespace Rows
def none {H : Type} : Left H := { results := [], args := [] }

/-- 'laws.FnTold': WHATEVER THE INPUT: true; the input reads as it did. -/
def fnToldSpec : ChangeSpec := { name := "fnTold", fn := fun _ => fun
  | [d] => { results := [.lit (.bool true)], args := [d] }
  | _ => none }
def fnToldRow : OpenClaim := { program := "ytedkeobhcpbigaa", sum := "4b69868cbab4f3ceb077f458dfd6f696e0a6d361151490373de73a454a487b86", func := "loop.example/g00958/laws.FnTold", spec := "fnTold", unfollowed := true, recurses := true, apart := false }
def FnToldSaid : Prop := fnToldRow.holds Try.pinned (OpenSpec.ofChange fnToldSpec)

/-- ITS FALSE NEIGHBOUR: 'it returns false'. Refute it at one input. -/
def fnToldWrong : ChangeSpec := { name := "fnTold", fn := fun _ => fun
  | [d] => { results := [.lit (.bool false)], args := [d] }
  | _ => none }
def FnToldWrongFalsely : Prop := fnToldRow.holds Try.pinned (OpenSpec.ofChange fnToldWrong)

/-- 'laws.FnExactUnitRow': WHATEVER THE INPUT: true; the input reads as it did. -/
def fnExactUnitRowSpec : ChangeSpec := { name := "fnExactUnitRow", fn := fun _ => fun
  | [d1, d2] => { results := [.lit (.bool true)], args := [d1, d2] }
  | _ => none }
def fnExactUnitRowRow : OpenClaim := { program := "ytedkeobhcpbigaa", sum := "4b69868cbab4f3ceb077f458dfd6f696e0a6d361151490373de73a454a487b86", func := "loop.example/g00958/laws.FnExactUnitRow", spec := "fnExactUnitRow", apart := false }
def FnExactUnitRowSaid : Prop := fnExactUnitRowRow.holds Try.pinned (OpenSpec.ofChange fnExactUnitRowSpec)

/-- ITS FALSE NEIGHBOUR: 'it returns false'. Refute it at one input. -/
def fnExactUnitRowWrong : ChangeSpec := { name := "fnExactUnitRow", fn := fun _ => fun
  | [d1, d2] => { results := [.lit (.bool false)], args := [d1, d2] }
  | _ => none }
def FnExactUnitRowWrongFalsely : Prop := fnExactUnitRowRow.holds Try.pinned (OpenSpec.ofChange fnExactUnitRowWrong)

/-- 'laws.FnExactToldLinks': WHATEVER THE INPUT: true; the input reads as it did. -/
def fnExactToldLinksSpec : ChangeSpec := { name := "fnExactToldLinks", fn := fun _ => fun
  | [d1, d2] => { results := [.lit (.bool true)], args := [d1, d2] }
  | _ => none }
def fnExactToldLinksRow : OpenClaim := { program := "ytedkeobhcpbigaa", sum := "4b69868cbab4f3ceb077f458dfd6f696e0a6d361151490373de73a454a487b86", func := "loop.example/g00958/laws.FnExactToldLinks", spec := "fnExactToldLinks", unfollowed := true, recurses := true, apart := false }
def FnExactToldLinksSaid : Prop := fnExactToldLinksRow.holds Try.pinned (OpenSpec.ofChange fnExactToldLinksSpec)

/-- ITS FALSE NEIGHBOUR: 'it returns false'. Refute it at one input. -/
def fnExactToldLinksWrong : ChangeSpec := { name := "fnExactToldLinks", fn := fun _ => fun
  | [d1, d2] => { results := [.lit (.bool false)], args := [d1, d2] }
  | _ => none }
def FnExactToldLinksWrongFalsely : Prop := fnExactToldLinksRow.holds Try.pinned (OpenSpec.ofChange fnExactToldLinksWrong)

/-- 'laws.FnExactDelayOf': WHATEVER THE INPUT: true; the input reads as it did. -/
def fnExactDelayOfSpec : ChangeSpec := { name := "fnExactDelayOf", fn := fun _ => fun
  | [d1, d2, d3, d4] => { results := [.lit (.bool true)], args := [d1, d2, d3, d4] }
  | _ => none }
def fnExactDelayOfRow : OpenClaim := { program := "ytedkeobhcpbigaa", sum := "4b69868cbab4f3ceb077f458dfd6f696e0a6d361151490373de73a454a487b86", func := "loop.example/g00958/laws.FnExactDelayOf", spec := "fnExactDelayOf", unfollowed := true, recurses := true, apart := false }
def FnExactDelayOfSaid : Prop := fnExactDelayOfRow.holds Try.pinned (OpenSpec.ofChange fnExactDelayOfSpec)

/-- ITS FALSE NEIGHBOUR: 'it returns false'. Refute it at one input. -/
def fnExactDelayOfWrong : ChangeSpec := { name := "fnExactDelayOf", fn := fun _ => fun
  | [d1, d2, d3, d4] => { results := [.lit (.bool false)], args := [d1, d2, d3, d4] }
  | _ => none }
def FnExactDelayOfWrongFalsely : Prop := fnExactDelayOfRow.holds Try.pinned (OpenSpec.ofChange fnExactDelayOfWrong)

/-- 'laws.FnExactTwinsOf': WHATEVER THE INPUT: true; the input reads as it did. -/
def fnExactTwinsOfSpec : ChangeSpec := { name := "fnExactTwinsOf", fn := fun _ => fun
  | [d1, d2] => { results := [.lit (.bool true)], args := [d1, d2] }
  | _ => none }
def fnExactTwinsOfRow : OpenClaim := { program := "ytedkeobhcpbigaa", sum := "4b69868cbab4f3ceb077f458dfd6f696e0a6d361151490373de73a454a487b86", func := "loop.example/g00958/laws.FnExactTwinsOf", spec := "fnExactTwinsOf", apart := false }
def FnExactTwinsOfSaid : Prop := fnExactTwinsOfRow.holds Try.pinned (OpenSpec.ofChange fnExactTwinsOfSpec)

/-- ITS FALSE NEIGHBOUR: 'it returns false'. Refute it at one input. -/
def fnExactTwinsOfWrong : ChangeSpec := { name := "fnExactTwinsOf", fn := fun _ => fun
  | [d1, d2] => { results := [.lit (.bool false)], args := [d1, d2] }
  | _ => none }
def FnExactTwinsOfWrongFalsely : Prop := fnExactTwinsOfRow.holds Try.pinned (OpenSpec.ofChange fnExactTwinsOfWrong)

/-- 'laws.FnExactUsefulRows': WHATEVER THE INPUT: true; the input reads as it did. -/
def fnExactUsefulRowsSpec : ChangeSpec := { name := "fnExactUsefulRows", fn := fun _ => fun
  | [d1, d2] => { results := [.lit (.bool true)], args := [d1, d2] }
  | _ => none }
def fnExactUsefulRowsRow : OpenClaim := { program := "ytedkeobhcpbigaa", sum := "4b69868cbab4f3ceb077f458dfd6f696e0a6d361151490373de73a454a487b86", func := "loop.example/g00958/laws.FnExactUsefulRows", spec := "fnExactUsefulRows", unfollowed := true, recurses := true, apart := false }
def FnExactUsefulRowsSaid : Prop := fnExactUsefulRowsRow.holds Try.pinned (OpenSpec.ofChange fnExactUsefulRowsSpec)

/-- ITS FALSE NEIGHBOUR: 'it returns false'. Refute it at one input. -/
def fnExactUsefulRowsWrong : ChangeSpec := { name := "fnExactUsefulRows", fn := fun _ => fun
  | [d1, d2] => { results := [.lit (.bool false)], args := [d1, d2] }
  | _ => none }
def FnExactUsefulRowsWrongFalsely : Prop := fnExactUsefulRowsRow.holds Try.pinned (OpenSpec.ofChange fnExactUsefulRowsWrong)

/-- 'laws.FnExactMissingFor': WHATEVER THE INPUT: true; the input reads as it did. -/
def fnExactMissingForSpec : ChangeSpec := { name := "fnExactMissingFor", fn := fun _ => fun
  | [d1, d2] => { results := [.lit (.bool true)], args := [d1, d2] }
  | _ => none }
def fnExactMissingForRow : OpenClaim := { program := "ytedkeobhcpbigaa", sum := "4b69868cbab4f3ceb077f458dfd6f696e0a6d361151490373de73a454a487b86", func := "loop.example/g00958/laws.FnExactMissingFor", spec := "fnExactMissingFor", unfollowed := true, recurses := true, apart := false }
def FnExactMissingForSaid : Prop := fnExactMissingForRow.holds Try.pinned (OpenSpec.ofChange fnExactMissingForSpec)

/-- ITS FALSE NEIGHBOUR: 'it returns false'. Refute it at one input. -/
def fnExactMissingForWrong : ChangeSpec := { name := "fnExactMissingFor", fn := fun _ => fun
  | [d1, d2] => { results := [.lit (.bool false)], args := [d1, d2] }
  | _ => none }
def FnExactMissingForWrongFalsely : Prop := fnExactMissingForRow.holds Try.pinned (OpenSpec.ofChange fnExactMissingForWrong)

/- THE SECOND FORM. 'bulk': how many values and letters a reading holds, each counted each time it is reached (what is shared counts as often as it is met; a slice's spare places count too). A statement '..UptoSaid' is the law's where the arguments, and the package variables that the reading takes, are together of bulk at most 1048576: NARROWER than '..Said'. Prove '..Said' where nothing that the law and all that it calls make is longer than what came in: it says more and counts as full. Else prove '..UptoSaid'. A law counts once. -/
mutual
def uptoBulk {H : Type} : DataW H → Nat
  | .lit (.string bytes) => bytes.length + 1
  | .lit _ => 1
  | .nil => 1
  | .ptr d => uptoBulk d + 1
  | .slice elems spare => uptoBulkAll elems + uptoBulkAll spare + 1
  | .agg parts => uptoBulkAll parts + 1
  | .iface _ d => uptoBulk d + 1
  | .map entries => uptoBulkEntries entries + 1
  | .held _ => 1
def uptoBulkAll {H : Type} : List (DataW H) → Nat
  | [] => 0
  | d :: r => uptoBulk d + uptoBulkAll r
def uptoBulkEntries {H : Type} : List (Lit × DataW H) → Nat
  | [] => 0
  | x :: r => uptoBulkEntry x + uptoBulkEntries r
def uptoBulkEntry {H : Type} : Lit × DataW H → Nat
  | (.string bytes, d) => bytes.length + uptoBulk d + 1
  | (_, d) => uptoBulk d + 1
 end
def uptoSmall : (H : Type) → List (DataW H) → Bool := fun _ ds => decide (uptoBulkAll ds ≤ 1048576)
def OpenSpec.upto (s : _root_.Go.ChangeSpec) : _root_.Go.OpenSpec := { _root_.Go.OpenSpec.ofChange s with cond := some uptoSmall }

/-- 'laws.FnTold', WHERE WHAT IT READS IS OF BULK AT MOST 1048576: true; the input reads as it did. -/
def fnToldUptoRow : OpenClaim := { program := "ytedkeobhcpbigaa", sum := "4b69868cbab4f3ceb077f458dfd6f696e0a6d361151490373de73a454a487b86", func := "loop.example/g00958/laws.FnTold", spec := "fnTold", unfollowed := true, recurses := true, apart := false, narrowed := true }
def FnToldUptoSaid : Prop := fnToldUptoRow.holds Try.pinned (OpenSpec.upto fnToldSpec)

/-- 'laws.FnExactUnitRow', WHERE WHAT IT READS IS OF BULK AT MOST 1048576: true; the input reads as it did. -/
def fnExactUnitRowUptoRow : OpenClaim := { program := "ytedkeobhcpbigaa", sum := "4b69868cbab4f3ceb077f458dfd6f696e0a6d361151490373de73a454a487b86", func := "loop.example/g00958/laws.FnExactUnitRow", spec := "fnExactUnitRow", apart := false, narrowed := true }
def FnExactUnitRowUptoSaid : Prop := fnExactUnitRowUptoRow.holds Try.pinned (OpenSpec.upto fnExactUnitRowSpec)

/-- 'laws.FnExactToldLinks', WHERE WHAT IT READS IS OF BULK AT MOST 1048576: true; the input reads as it did. -/
def fnExactToldLinksUptoRow : OpenClaim := { program := "ytedkeobhcpbigaa", sum := "4b69868cbab4f3ceb077f458dfd6f696e0a6d361151490373de73a454a487b86", func := "loop.example/g00958/laws.FnExactToldLinks", spec := "fnExactToldLinks", unfollowed := true, recurses := true, apart := false, narrowed := true }
def FnExactToldLinksUptoSaid : Prop := fnExactToldLinksUptoRow.holds Try.pinned (OpenSpec.upto fnExactToldLinksSpec)

/-- 'laws.FnExactDelayOf', WHERE WHAT IT READS IS OF BULK AT MOST 1048576: true; the input reads as it did. -/
def fnExactDelayOfUptoRow : OpenClaim := { program := "ytedkeobhcpbigaa", sum := "4b69868cbab4f3ceb077f458dfd6f696e0a6d361151490373de73a454a487b86", func := "loop.example/g00958/laws.FnExactDelayOf", spec := "fnExactDelayOf", unfollowed := true, recurses := true, apart := false, narrowed := true }
def FnExactDelayOfUptoSaid : Prop := fnExactDelayOfUptoRow.holds Try.pinned (OpenSpec.upto fnExactDelayOfSpec)

/-- 'laws.FnExactTwinsOf', WHERE WHAT IT READS IS OF BULK AT MOST 1048576: true; the input reads as it did. -/
def fnExactTwinsOfUptoRow : OpenClaim := { program := "ytedkeobhcpbigaa", sum := "4b69868cbab4f3ceb077f458dfd6f696e0a6d361151490373de73a454a487b86", func := "loop.example/g00958/laws.FnExactTwinsOf", spec := "fnExactTwinsOf", apart := false, narrowed := true }
def FnExactTwinsOfUptoSaid : Prop := fnExactTwinsOfUptoRow.holds Try.pinned (OpenSpec.upto fnExactTwinsOfSpec)

/-- 'laws.FnExactUsefulRows', WHERE WHAT IT READS IS OF BULK AT MOST 1048576: true; the input reads as it did. -/
def fnExactUsefulRowsUptoRow : OpenClaim := { program := "ytedkeobhcpbigaa", sum := "4b69868cbab4f3ceb077f458dfd6f696e0a6d361151490373de73a454a487b86", func := "loop.example/g00958/laws.FnExactUsefulRows", spec := "fnExactUsefulRows", unfollowed := true, recurses := true, apart := false, narrowed := true }
def FnExactUsefulRowsUptoSaid : Prop := fnExactUsefulRowsUptoRow.holds Try.pinned (OpenSpec.upto fnExactUsefulRowsSpec)

/-- 'laws.FnExactMissingFor', WHERE WHAT IT READS IS OF BULK AT MOST 1048576: true; the input reads as it did. -/
def fnExactMissingForUptoRow : OpenClaim := { program := "ytedkeobhcpbigaa", sum := "4b69868cbab4f3ceb077f458dfd6f696e0a6d361151490373de73a454a487b86", func := "loop.example/g00958/laws.FnExactMissingFor", spec := "fnExactMissingFor", unfollowed := true, recurses := true, apart := false, narrowed := true }
def FnExactMissingForUptoSaid : Prop := fnExactMissingForUptoRow.holds Try.pinned (OpenSpec.upto fnExactMissingForSpec)

end Rows
end Go.Proofs.Ytedkeobhcpbigaa
