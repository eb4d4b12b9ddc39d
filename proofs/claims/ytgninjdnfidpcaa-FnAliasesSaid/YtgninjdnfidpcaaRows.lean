/-
  No cell of these rows narrows 'for every input' (looked for: loops, veiled, ifaces, maps, wideKeys, modest, calm, conditions, laid).
  DERIVED. THE GIVEN ROWS OF THIS SEAT. 9 by the template 'for every input the law returns true; each argument reads behind the call as it read before'; 0 by the template 'total and deterministic' (their statements: YtgninjdnfidpcaaTotals.lean).
  GIVEN WITH THE SEED: the statements are not yours to turn. If you find one false, say at which input.
  Laid BY PROGRAM, IN A SANDBOX (cutbox-rows.mjs): the forced cells as the released guide's own fill.sh prints them over the translation d2bb9d1cdfc7b189… (all of the seat's roots in one cut). By AI agents, Wed Nov 11 2026. No macro, syntax, notation, axiom, sorry.
-/
import Derived.Test.YtgninjdnfidpcaaChecked
import GoSem.Claim
import GoSem.ClaimJoined
import GoSem.ClaimMapViews
import Derived.JoinedTies
import Derived.KernelRfl
namespace Go.Proofs.Ytgninjdnfidpcaa
/- THE CELL 'sum', in the pinned program and in every row, IS THE sha256 OF THE DUMP (.gsa) THAT YtgninjdnfidpcaaProg.lean LOADS. Nothing in Lean hashes anything: it is a label: what it is worth is what the hold of that sum in a sandbox is worth. -/
noncomputable def Try.pinned : Pinned := { name := "ytgninjdnfidpcaa", sum := "d2bb9d1cdfc7b189b39c1890a901c146fdcd2f232213ff22ed6790dadea98a0f", checked := Try.checked }
namespace Rows
def none {H : Type} : Left H := { results := [], args := [] }

/-- 'laws.FnBranches': WHATEVER THE INPUT: true; the input reads as it did. -/
def fnBranchesSpec : ChangeSpec := { name := "fnBranches", fn := fun _ => fun
  | [d] => { results := [.lit (.bool true)], args := [d] }
  | _ => none }
def fnBranchesRow : OpenClaim := { program := "ytgninjdnfidpcaa", sum := "d2bb9d1cdfc7b189b39c1890a901c146fdcd2f232213ff22ed6790dadea98a0f", func := "loop.example/g00958/laws.FnBranches", spec := "fnBranches", unfollowed := true, recurses := true, apart := false }
def FnBranchesSaid : Prop := fnBranchesRow.holds Try.pinned (OpenSpec.ofChange fnBranchesSpec)

/-- ITS FALSE NEIGHBOUR: 'it returns false'. Refute it at one input. -/
def fnBranchesWrong : ChangeSpec := { name := "fnBranches", fn := fun _ => fun
  | [d] => { results := [.lit (.bool false)], args := [d] }
  | _ => none }
def FnBranchesWrongFalsely : Prop := fnBranchesRow.holds Try.pinned (OpenSpec.ofChange fnBranchesWrong)

/-- 'laws.FnExactIsBranch': WHATEVER THE INPUT: true; the input reads as it did. -/
def fnExactIsBranchSpec : ChangeSpec := { name := "fnExactIsBranch", fn := fun _ => fun
  | [d] => { results := [.lit (.bool true)], args := [d] }
  | _ => none }
def fnExactIsBranchRow : OpenClaim := { program := "ytgninjdnfidpcaa", sum := "d2bb9d1cdfc7b189b39c1890a901c146fdcd2f232213ff22ed6790dadea98a0f", func := "loop.example/g00958/laws.FnExactIsBranch", spec := "fnExactIsBranch", unfollowed := true, recurses := true, apart := false }
def FnExactIsBranchSaid : Prop := fnExactIsBranchRow.holds Try.pinned (OpenSpec.ofChange fnExactIsBranchSpec)

/-- ITS FALSE NEIGHBOUR: 'it returns false'. Refute it at one input. -/
def fnExactIsBranchWrong : ChangeSpec := { name := "fnExactIsBranch", fn := fun _ => fun
  | [d] => { results := [.lit (.bool false)], args := [d] }
  | _ => none }
def FnExactIsBranchWrongFalsely : Prop := fnExactIsBranchRow.holds Try.pinned (OpenSpec.ofChange fnExactIsBranchWrong)

/-- 'laws.FnExactNextFor': WHATEVER THE INPUT: true; the input reads as it did. -/
def fnExactNextForSpec : ChangeSpec := { name := "fnExactNextFor", fn := fun _ => fun
  | [d1, d2] => { results := [.lit (.bool true)], args := [d1, d2] }
  | _ => none }
def fnExactNextForRow : OpenClaim := { program := "ytgninjdnfidpcaa", sum := "d2bb9d1cdfc7b189b39c1890a901c146fdcd2f232213ff22ed6790dadea98a0f", func := "loop.example/g00958/laws.FnExactNextFor", spec := "fnExactNextFor", unfollowed := true, recurses := true, apart := false }
def FnExactNextForSaid : Prop := fnExactNextForRow.holds Try.pinned (OpenSpec.ofChange fnExactNextForSpec)

/-- ITS FALSE NEIGHBOUR: 'it returns false'. Refute it at one input. -/
def fnExactNextForWrong : ChangeSpec := { name := "fnExactNextFor", fn := fun _ => fun
  | [d1, d2] => { results := [.lit (.bool false)], args := [d1, d2] }
  | _ => none }
def FnExactNextForWrongFalsely : Prop := fnExactNextForRow.holds Try.pinned (OpenSpec.ofChange fnExactNextForWrong)

/-- 'laws.FnExactSeenNexts': WHATEVER THE INPUT: true; the input reads as it did. -/
def fnExactSeenNextsSpec : ChangeSpec := { name := "fnExactSeenNexts", fn := fun _ => fun
  | [d1, d2] => { results := [.lit (.bool true)], args := [d1, d2] }
  | _ => none }
def fnExactSeenNextsRow : OpenClaim := { program := "ytgninjdnfidpcaa", sum := "d2bb9d1cdfc7b189b39c1890a901c146fdcd2f232213ff22ed6790dadea98a0f", func := "loop.example/g00958/laws.FnExactSeenNexts", spec := "fnExactSeenNexts", unfollowed := true, recurses := true, apart := false }
def FnExactSeenNextsSaid : Prop := fnExactSeenNextsRow.holds Try.pinned (OpenSpec.ofChange fnExactSeenNextsSpec)

/-- ITS FALSE NEIGHBOUR: 'it returns false'. Refute it at one input. -/
def fnExactSeenNextsWrong : ChangeSpec := { name := "fnExactSeenNexts", fn := fun _ => fun
  | [d1, d2] => { results := [.lit (.bool false)], args := [d1, d2] }
  | _ => none }
def FnExactSeenNextsWrongFalsely : Prop := fnExactSeenNextsRow.holds Try.pinned (OpenSpec.ofChange fnExactSeenNextsWrong)

/-- 'laws.FnExactMissBound': WHATEVER THE INPUT: true; the input reads as it did. -/
def fnExactMissBoundSpec : ChangeSpec := { name := "fnExactMissBound", fn := fun _ => fun
  | [d1, d2] => { results := [.lit (.bool true)], args := [d1, d2] }
  | _ => none }
def fnExactMissBoundRow : OpenClaim := { program := "ytgninjdnfidpcaa", sum := "d2bb9d1cdfc7b189b39c1890a901c146fdcd2f232213ff22ed6790dadea98a0f", func := "loop.example/g00958/laws.FnExactMissBound", spec := "fnExactMissBound", apart := false }
def FnExactMissBoundSaid : Prop := fnExactMissBoundRow.holds Try.pinned (OpenSpec.ofChange fnExactMissBoundSpec)

/-- ITS FALSE NEIGHBOUR: 'it returns false'. Refute it at one input. -/
def fnExactMissBoundWrong : ChangeSpec := { name := "fnExactMissBound", fn := fun _ => fun
  | [d1, d2] => { results := [.lit (.bool false)], args := [d1, d2] }
  | _ => none }
def FnExactMissBoundWrongFalsely : Prop := fnExactMissBoundRow.holds Try.pinned (OpenSpec.ofChange fnExactMissBoundWrong)

/-- 'laws.FnExactTriesFor': WHATEVER THE INPUT: true; the input reads as it did. -/
def fnExactTriesForSpec : ChangeSpec := { name := "fnExactTriesFor", fn := fun _ => fun
  | [d1, d2] => { results := [.lit (.bool true)], args := [d1, d2] }
  | _ => none }
def fnExactTriesForRow : OpenClaim := { program := "ytgninjdnfidpcaa", sum := "d2bb9d1cdfc7b189b39c1890a901c146fdcd2f232213ff22ed6790dadea98a0f", func := "loop.example/g00958/laws.FnExactTriesFor", spec := "fnExactTriesFor", apart := false }
def FnExactTriesForSaid : Prop := fnExactTriesForRow.holds Try.pinned (OpenSpec.ofChange fnExactTriesForSpec)

/-- ITS FALSE NEIGHBOUR: 'it returns false'. Refute it at one input. -/
def fnExactTriesForWrong : ChangeSpec := { name := "fnExactTriesFor", fn := fun _ => fun
  | [d1, d2] => { results := [.lit (.bool false)], args := [d1, d2] }
  | _ => none }
def FnExactTriesForWrongFalsely : Prop := fnExactTriesForRow.holds Try.pinned (OpenSpec.ofChange fnExactTriesForWrong)

/-- 'laws.FnAliases': WHATEVER THE INPUT: true; the input reads as it did. -/
def fnAliasesSpec : ChangeSpec := { name := "fnAliases", fn := fun _ => fun
  | [d] => { results := [.lit (.bool true)], args := [d] }
  | _ => none }
def fnAliasesRow : OpenClaim := { program := "ytgninjdnfidpcaa", sum := "d2bb9d1cdfc7b189b39c1890a901c146fdcd2f232213ff22ed6790dadea98a0f", func := "loop.example/g00958/laws.FnAliases", spec := "fnAliases", unfollowed := true, recurses := true, apart := false }
def FnAliasesSaid : Prop := fnAliasesRow.holds Try.pinned (OpenSpec.ofChange fnAliasesSpec)

/-- ITS FALSE NEIGHBOUR: 'it returns false'. Refute it at one input. -/
def fnAliasesWrong : ChangeSpec := { name := "fnAliases", fn := fun _ => fun
  | [d] => { results := [.lit (.bool false)], args := [d] }
  | _ => none }
def FnAliasesWrongFalsely : Prop := fnAliasesRow.holds Try.pinned (OpenSpec.ofChange fnAliasesWrong)

/-- 'laws.FnExactAddressesOf': WHATEVER THE INPUT: true; the input reads as it did. -/
def fnExactAddressesOfSpec : ChangeSpec := { name := "fnExactAddressesOf", fn := fun _ => fun
  | [d] => { results := [.lit (.bool true)], args := [d] }
  | _ => none }
def fnExactAddressesOfRow : OpenClaim := { program := "ytgninjdnfidpcaa", sum := "d2bb9d1cdfc7b189b39c1890a901c146fdcd2f232213ff22ed6790dadea98a0f", func := "loop.example/g00958/laws.FnExactAddressesOf", spec := "fnExactAddressesOf", unfollowed := true, recurses := true, apart := false }
def FnExactAddressesOfSaid : Prop := fnExactAddressesOfRow.holds Try.pinned (OpenSpec.ofChange fnExactAddressesOfSpec)

/-- ITS FALSE NEIGHBOUR: 'it returns false'. Refute it at one input. -/
def fnExactAddressesOfWrong : ChangeSpec := { name := "fnExactAddressesOf", fn := fun _ => fun
  | [d] => { results := [.lit (.bool false)], args := [d] }
  | _ => none }
def FnExactAddressesOfWrongFalsely : Prop := fnExactAddressesOfRow.holds Try.pinned (OpenSpec.ofChange fnExactAddressesOfWrong)

/-- 'laws.FnExactGroupsOf': WHATEVER THE INPUT: true; the input reads as it did. -/
def fnExactGroupsOfSpec : ChangeSpec := { name := "fnExactGroupsOf", fn := fun _ => fun
  | [d] => { results := [.lit (.bool true)], args := [d] }
  | _ => none }
def fnExactGroupsOfRow : OpenClaim := { program := "ytgninjdnfidpcaa", sum := "d2bb9d1cdfc7b189b39c1890a901c146fdcd2f232213ff22ed6790dadea98a0f", func := "loop.example/g00958/laws.FnExactGroupsOf", spec := "fnExactGroupsOf", unfollowed := true, recurses := true, apart := false }
def FnExactGroupsOfSaid : Prop := fnExactGroupsOfRow.holds Try.pinned (OpenSpec.ofChange fnExactGroupsOfSpec)

/-- ITS FALSE NEIGHBOUR: 'it returns false'. Refute it at one input. -/
def fnExactGroupsOfWrong : ChangeSpec := { name := "fnExactGroupsOf", fn := fun _ => fun
  | [d] => { results := [.lit (.bool false)], args := [d] }
  | _ => none }
def FnExactGroupsOfWrongFalsely : Prop := fnExactGroupsOfRow.holds Try.pinned (OpenSpec.ofChange fnExactGroupsOfWrong)

/- THE SECOND FORM. 'bulk': how many values and letters a reading holds, each counted each time it is reached (what is shared counts as often as it is met; a slice's spare places count too). A statement '..UptoSaid' is the law's where the arguments, and the package variables that the reading takes, are together of bulk at most 1048576: NARROWER than '..Said'. Prove '..Said' where nothing that the law and all that it calls make is longer than what came in: it says more and counts as full. Else prove '..UptoSaid'. A law counts once. -/
mutual
def uptoBulk {H : Type} : DataW H → Nat
  | .lit (.string bytes) => bytes.length + 1
  | .lit _ => 1
  | .nil => 1
  | .ptr d => uptoBulk d + 1
  | .slice elems spare => uptoBulkAll elems + uptoBulkAll spare + 1
  | .agg parts => uptoBulkAll parts + 1
  | .iface _ d => uptoBulk d + 1
  | .map entries => uptoBulkEntries entries + 1
  | .held _ => 1
def uptoBulkAll {H : Type} : List (DataW H) → Nat
  | [] => 0
  | d :: r => uptoBulk d + uptoBulkAll r
def uptoBulkEntries {H : Type} : List (Lit × DataW H) → Nat
  | [] => 0
  | x :: r => uptoBulkEntry x + uptoBulkEntries r
def uptoBulkEntry {H : Type} : Lit × DataW H → Nat
  | (.string bytes, d) => bytes.length + uptoBulk d + 1
  | (_, d) => uptoBulk d + 1
 end
def uptoSmall : (H : Type) → List (DataW H) → Bool := fun _ ds => decide (uptoBulkAll ds ≤ 1048576)
def OpenSpec.upto (s : _root_.Go.ChangeSpec) : _root_.Go.OpenSpec := { _root_.Go.OpenSpec.ofChange s with cond := some uptoSmall }

/-- 'laws.FnBranches', WHERE WHAT IT READS IS OF BULK AT MOST 1048576: true; the input reads as it did. -/
def fnBranchesUptoRow : OpenClaim := { program := "ytgninjdnfidpcaa", sum := "d2bb9d1cdfc7b189b39c1890a901c146fdcd2f232213ff22ed6790dadea98a0f", func := "loop.example/g00958/laws.FnBranches", spec := "fnBranches", unfollowed := true, recurses := true, apart := false, narrowed := true }
def FnBranchesUptoSaid : Prop := fnBranchesUptoRow.holds Try.pinned (OpenSpec.upto fnBranchesSpec)

/-- 'laws.FnExactIsBranch', WHERE WHAT IT READS IS OF BULK AT MOST 1048576: true; the input reads as it did. -/
def fnExactIsBranchUptoRow : OpenClaim := { program := "ytgninjdnfidpcaa", sum := "d2bb9d1cdfc7b189b39c1890a901c146fdcd2f232213ff22ed6790dadea98a0f", func := "loop.example/g00958/laws.FnExactIsBranch", spec := "fnExactIsBranch", unfollowed := true, recurses := true, apart := false, narrowed := true }
def FnExactIsBranchUptoSaid : Prop := fnExactIsBranchUptoRow.holds Try.pinned (OpenSpec.upto fnExactIsBranchSpec)

/-- 'laws.FnExactNextFor', WHERE WHAT IT READS IS OF BULK AT MOST 1048576: true; the input reads as it did. -/
def fnExactNextForUptoRow : OpenClaim := { program := "ytgninjdnfidpcaa", sum := "d2bb9d1cdfc7b189b39c1890a901c146fdcd2f232213ff22ed6790dadea98a0f", func := "loop.example/g00958/laws.FnExactNextFor", spec := "fnExactNextFor", unfollowed := true, recurses := true, apart := false, narrowed := true }
def FnExactNextForUptoSaid : Prop := fnExactNextForUptoRow.holds Try.pinned (OpenSpec.upto fnExactNextForSpec)

/-- 'laws.FnExactSeenNexts', WHERE WHAT IT READS IS OF BULK AT MOST 1048576: true; the input reads as it did. -/
def fnExactSeenNextsUptoRow : OpenClaim := { program := "ytgninjdnfidpcaa", sum := "d2bb9d1cdfc7b189b39c1890a901c146fdcd2f232213ff22ed6790dadea98a0f", func := "loop.example/g00958/laws.FnExactSeenNexts", spec := "fnExactSeenNexts", unfollowed := true, recurses := true, apart := false, narrowed := true }
def FnExactSeenNextsUptoSaid : Prop := fnExactSeenNextsUptoRow.holds Try.pinned (OpenSpec.upto fnExactSeenNextsSpec)

/-- 'laws.FnExactMissBound', WHERE WHAT IT READS IS OF BULK AT MOST 1048576: true; the input reads as it did. -/
def fnExactMissBoundUptoRow : OpenClaim := { program := "ytgninjdnfidpcaa", sum := "d2bb9d1cdfc7b189b39c1890a901c146fdcd2f232213ff22ed6790dadea98a0f", func := "loop.example/g00958/laws.FnExactMissBound", spec := "fnExactMissBound", apart := false, narrowed := true }
def FnExactMissBoundUptoSaid : Prop := fnExactMissBoundUptoRow.holds Try.pinned (OpenSpec.upto fnExactMissBoundSpec)

/-- 'laws.FnExactTriesFor', WHERE WHAT IT READS IS OF BULK AT MOST 1048576: true; the input reads as it did. -/
def fnExactTriesForUptoRow : OpenClaim := { program := "ytgninjdnfidpcaa", sum := "d2bb9d1cdfc7b189b39c1890a901c146fdcd2f232213ff22ed6790dadea98a0f", func := "loop.example/g00958/laws.FnExactTriesFor", spec := "fnExactTriesFor", apart := false, narrowed := true }
def FnExactTriesForUptoSaid : Prop := fnExactTriesForUptoRow.holds Try.pinned (OpenSpec.upto fnExactTriesForSpec)

/-- 'laws.FnAliases', WHERE WHAT IT READS IS OF BULK AT MOST 1048576: true; the input reads as it did. -/
def fnAliasesUptoRow : OpenClaim := { program := "ytgninjdnfidpcaa", sum := "d2bb9d1cdfc7b189b39c1890a901c146fdcd2f232213ff22ed6790dadea98a0f", func := "loop.example/g00958/laws.FnAliases", spec := "fnAliases", unfollowed := true, recurses := true, apart := false, narrowed := true }
def FnAliasesUptoSaid : Prop := fnAliasesUptoRow.holds Try.pinned (OpenSpec.upto fnAliasesSpec)

/-- 'laws.FnExactAddressesOf', WHERE WHAT IT READS IS OF BULK AT MOST 1048576: true; the input reads as it did. -/
def fnExactAddressesOfUptoRow : OpenClaim := { program := "ytgninjdnfidpcaa", sum := "d2bb9d1cdfc7b189b39c1890a901c146fdcd2f232213ff22ed6790dadea98a0f", func := "loop.example/g00958/laws.FnExactAddressesOf", spec := "fnExactAddressesOf", unfollowed := true, recurses := true, apart := false, narrowed := true }
def FnExactAddressesOfUptoSaid : Prop := fnExactAddressesOfUptoRow.holds Try.pinned (OpenSpec.upto fnExactAddressesOfSpec)

/-- 'laws.FnExactGroupsOf', WHERE WHAT IT READS IS OF BULK AT MOST 1048576: true; the input reads as it did. -/
def fnExactGroupsOfUptoRow : OpenClaim := { program := "ytgninjdnfidpcaa", sum := "d2bb9d1cdfc7b189b39c1890a901c146fdcd2f232213ff22ed6790dadea98a0f", func := "loop.example/g00958/laws.FnExactGroupsOf", spec := "fnExactGroupsOf", unfollowed := true, recurses := true, apart := false, narrowed := true }
def FnExactGroupsOfUptoSaid : Prop := fnExactGroupsOfUptoRow.holds Try.pinned (OpenSpec.upto fnExactGroupsOfSpec)

end Rows
end Go.Proofs.Ytgninjdnfidpcaa
