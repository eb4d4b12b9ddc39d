/-
  No cell of these rows narrows 'for every input' (looked for: loops, veiled, ifaces, maps, wideKeys, modest, calm, conditions, laid).
  DERIVED. THE GIVEN ROWS OF THIS SEAT. 6 by the template 'for every input the law returns true; each argument reads behind the call as it read before'; 0 by the template 'total and deterministic' (their statements: YtgomfmigcolloaaTotals.lean).
  GIVEN WITH THE SEED: the statements are not yours to turn. If you find one false, say at which input.
  Laid BY PROGRAM, IN A SANDBOX (cutbox-rows.mjs): the forced cells as the released guide's own fill.sh prints them over the translation bd07f23e196aefff… (all of the seat's roots in one cut). By AI agents, Wed Nov 11 2026. No macro, syntax, notation, axiom, sorry.
-/
import Derived.Test.YtgomfmigcolloaaChecked
import GoSem.Claim
import GoSem.ClaimJoined
import GoSem.ClaimMapViews
import Derived.JoinedTies
import Derived.KernelRfl
namespace Go.Proofs.Ytgomfmigcolloaa
/- THE CELL 'sum', in the pinned program and in every row, IS THE sha256 OF THE DUMP (.gsa) THAT YtgomfmigcolloaaProg.lean LOADS. Nothing in Lean hashes anything: it is a label: what it is worth is what the hold of that sum in a sandbox is worth. -/
noncomputable def Try.pinned : Pinned := { name := "ytgomfmigcolloaa", sum := "bd07f23e196aefff089363062f7cf72d08c3e404da910b88c465abb1aa7217c3", checked := Try.checked }
namespace Rows
def none {H : Type} : Left H := { results := [], args := [] }

/-- 'laws.FnAliases': WHATEVER THE INPUT: true; the input reads as it did. -/
def fnAliasesSpec : ChangeSpec := { name := "fnAliases", fn := fun _ => fun
  | [d] => { results := [.lit (.bool true)], args := [d] }
  | _ => none }
def fnAliasesRow : OpenClaim := { program := "ytgomfmigcolloaa", sum := "bd07f23e196aefff089363062f7cf72d08c3e404da910b88c465abb1aa7217c3", func := "loop.example/g00958/laws.FnAliases", spec := "fnAliases", unfollowed := true, recurses := true, apart := false }
def FnAliasesSaid : Prop := fnAliasesRow.holds Try.pinned (OpenSpec.ofChange fnAliasesSpec)

/-- ITS FALSE NEIGHBOUR: 'it returns false'. Refute it at one input. -/
def fnAliasesWrong : ChangeSpec := { name := "fnAliases", fn := fun _ => fun
  | [d] => { results := [.lit (.bool false)], args := [d] }
  | _ => none }
def FnAliasesWrongFalsely : Prop := fnAliasesRow.holds Try.pinned (OpenSpec.ofChange fnAliasesWrong)

/-- 'laws.FnExactAreReplies': WHATEVER THE INPUT: true; the input reads as it did. -/
def fnExactAreRepliesSpec : ChangeSpec := { name := "fnExactAreReplies", fn := fun _ => fun
  | [d] => { results := [.lit (.bool true)], args := [d] }
  | _ => none }
def fnExactAreRepliesRow : OpenClaim := { program := "ytgomfmigcolloaa", sum := "bd07f23e196aefff089363062f7cf72d08c3e404da910b88c465abb1aa7217c3", func := "loop.example/g00958/laws.FnExactAreReplies", spec := "fnExactAreReplies", unfollowed := true, recurses := true, apart := false }
def FnExactAreRepliesSaid : Prop := fnExactAreRepliesRow.holds Try.pinned (OpenSpec.ofChange fnExactAreRepliesSpec)

/-- ITS FALSE NEIGHBOUR: 'it returns false'. Refute it at one input. -/
def fnExactAreRepliesWrong : ChangeSpec := { name := "fnExactAreReplies", fn := fun _ => fun
  | [d] => { results := [.lit (.bool false)], args := [d] }
  | _ => none }
def FnExactAreRepliesWrongFalsely : Prop := fnExactAreRepliesRow.holds Try.pinned (OpenSpec.ofChange fnExactAreRepliesWrong)

/-- 'laws.FnExactMayBeOne': WHATEVER THE INPUT: true; the input reads as it did. -/
def fnExactMayBeOneSpec : ChangeSpec := { name := "fnExactMayBeOne", fn := fun _ => fun
  | [d1, d2] => { results := [.lit (.bool true)], args := [d1, d2] }
  | _ => none }
def fnExactMayBeOneRow : OpenClaim := { program := "ytgomfmigcolloaa", sum := "bd07f23e196aefff089363062f7cf72d08c3e404da910b88c465abb1aa7217c3", func := "loop.example/g00958/laws.FnExactMayBeOne", spec := "fnExactMayBeOne", unfollowed := true, recurses := true, apart := false }
def FnExactMayBeOneSaid : Prop := fnExactMayBeOneRow.holds Try.pinned (OpenSpec.ofChange fnExactMayBeOneSpec)

/-- ITS FALSE NEIGHBOUR: 'it returns false'. Refute it at one input. -/
def fnExactMayBeOneWrong : ChangeSpec := { name := "fnExactMayBeOne", fn := fun _ => fun
  | [d1, d2] => { results := [.lit (.bool false)], args := [d1, d2] }
  | _ => none }
def FnExactMayBeOneWrongFalsely : Prop := fnExactMayBeOneRow.holds Try.pinned (OpenSpec.ofChange fnExactMayBeOneWrong)

/-- 'laws.FnExactAddressesOf': WHATEVER THE INPUT: true; the input reads as it did. -/
def fnExactAddressesOfSpec : ChangeSpec := { name := "fnExactAddressesOf", fn := fun _ => fun
  | [d] => { results := [.lit (.bool true)], args := [d] }
  | _ => none }
def fnExactAddressesOfRow : OpenClaim := { program := "ytgomfmigcolloaa", sum := "bd07f23e196aefff089363062f7cf72d08c3e404da910b88c465abb1aa7217c3", func := "loop.example/g00958/laws.FnExactAddressesOf", spec := "fnExactAddressesOf", recurses := true, apart := false }
def FnExactAddressesOfSaid : Prop := fnExactAddressesOfRow.holds Try.pinned (OpenSpec.ofChange fnExactAddressesOfSpec)

/-- ITS FALSE NEIGHBOUR: 'it returns false'. Refute it at one input. -/
def fnExactAddressesOfWrong : ChangeSpec := { name := "fnExactAddressesOf", fn := fun _ => fun
  | [d] => { results := [.lit (.bool false)], args := [d] }
  | _ => none }
def FnExactAddressesOfWrongFalsely : Prop := fnExactAddressesOfRow.holds Try.pinned (OpenSpec.ofChange fnExactAddressesOfWrong)

/-- 'laws.FnExactGroupsOf': WHATEVER THE INPUT: true; the input reads as it did. -/
def fnExactGroupsOfSpec : ChangeSpec := { name := "fnExactGroupsOf", fn := fun _ => fun
  | [d] => { results := [.lit (.bool true)], args := [d] }
  | _ => none }
def fnExactGroupsOfRow : OpenClaim := { program := "ytgomfmigcolloaa", sum := "bd07f23e196aefff089363062f7cf72d08c3e404da910b88c465abb1aa7217c3", func := "loop.example/g00958/laws.FnExactGroupsOf", spec := "fnExactGroupsOf", unfollowed := true, recurses := true, apart := false }
def FnExactGroupsOfSaid : Prop := fnExactGroupsOfRow.holds Try.pinned (OpenSpec.ofChange fnExactGroupsOfSpec)

/-- ITS FALSE NEIGHBOUR: 'it returns false'. Refute it at one input. -/
def fnExactGroupsOfWrong : ChangeSpec := { name := "fnExactGroupsOf", fn := fun _ => fun
  | [d] => { results := [.lit (.bool false)], args := [d] }
  | _ => none }
def FnExactGroupsOfWrongFalsely : Prop := fnExactGroupsOfRow.holds Try.pinned (OpenSpec.ofChange fnExactGroupsOfWrong)

/-- 'laws.FnExactSurelyApart': WHATEVER THE INPUT: true; the input reads as it did. -/
def fnExactSurelyApartSpec : ChangeSpec := { name := "fnExactSurelyApart", fn := fun _ => fun
  | [d1, d2, d3] => { results := [.lit (.bool true)], args := [d1, d2, d3] }
  | _ => none }
def fnExactSurelyApartRow : OpenClaim := { program := "ytgomfmigcolloaa", sum := "bd07f23e196aefff089363062f7cf72d08c3e404da910b88c465abb1aa7217c3", func := "loop.example/g00958/laws.FnExactSurelyApart", spec := "fnExactSurelyApart", unfollowed := true, recurses := true, apart := false }
def FnExactSurelyApartSaid : Prop := fnExactSurelyApartRow.holds Try.pinned (OpenSpec.ofChange fnExactSurelyApartSpec)

/-- ITS FALSE NEIGHBOUR: 'it returns false'. Refute it at one input. -/
def fnExactSurelyApartWrong : ChangeSpec := { name := "fnExactSurelyApart", fn := fun _ => fun
  | [d1, d2, d3] => { results := [.lit (.bool false)], args := [d1, d2, d3] }
  | _ => none }
def FnExactSurelyApartWrongFalsely : Prop := fnExactSurelyApartRow.holds Try.pinned (OpenSpec.ofChange fnExactSurelyApartWrong)

/- THE SECOND FORM. 'bulk': how many values and letters a reading holds, each counted each time it is reached (what is shared counts as often as it is met; a slice's spare places count too). A statement '..UptoSaid' is the law's where the arguments, and the package variables that the reading takes, are together of bulk at most 1048576: NARROWER than '..Said'. Prove '..Said' where nothing that the law and all that it calls make is longer than what came in: it says more and counts as full. Else prove '..UptoSaid'. A law counts once. -/
mutual
def uptoBulk {H : Type} : DataW H → Nat
  | .lit (.string bytes) => bytes.length + 1
  | .lit _ => 1
  | .nil => 1
  | .ptr d => uptoBulk d + 1
  | .slice elems spare => uptoBulkAll elems + uptoBulkAll spare + 1
  | .agg parts => uptoBulkAll parts + 1
  | .iface _ d => uptoBulk d + 1
  | .map entries => uptoBulkEntries entries + 1
  | .held _ => 1
def uptoBulkAll {H : Type} : List (DataW H) → Nat
  | [] => 0
  | d :: r => uptoBulk d + uptoBulkAll r
def uptoBulkEntries {H : Type} : List (Lit × DataW H) → Nat
  | [] => 0
  | x :: r => uptoBulkEntry x + uptoBulkEntries r
def uptoBulkEntry {H : Type} : Lit × DataW H → Nat
  | (.string bytes, d) => bytes.length + uptoBulk d + 1
  | (_, d) => uptoBulk d + 1
 end
def uptoSmall : (H : Type) → List (DataW H) → Bool := fun _ ds => decide (uptoBulkAll ds ≤ 1048576)
def OpenSpec.upto (s : _root_.Go.ChangeSpec) : _root_.Go.OpenSpec := { _root_.Go.OpenSpec.ofChange s with cond := some uptoSmall }

/-- 'laws.FnAliases', WHERE WHAT IT READS IS OF BULK AT MOST 1048576: true; the input reads as it did. -/
def fnAliasesUptoRow : OpenClaim := { program := "ytgomfmigcolloaa", sum := "bd07f23e196aefff089363062f7cf72d08c3e404da910b88c465abb1aa7217c3", func := "loop.example/g00958/laws.FnAliases", spec := "fnAliases", unfollowed := true, recurses := true, apart := false, narrowed := true }
def FnAliasesUptoSaid : Prop := fnAliasesUptoRow.holds Try.pinned (OpenSpec.upto fnAliasesSpec)

/-- 'laws.FnExactAreReplies', WHERE WHAT IT READS IS OF BULK AT MOST 1048576: true; the input reads as it did. -/
def fnExactAreRepliesUptoRow : OpenClaim := { program := "ytgomfmigcolloaa", sum := "bd07f23e196aefff089363062f7cf72d08c3e404da910b88c465abb1aa7217c3", func := "loop.example/g00958/laws.FnExactAreReplies", spec := "fnExactAreReplies", unfollowed := true, recurses := true, apart := false, narrowed := true }
def FnExactAreRepliesUptoSaid : Prop := fnExactAreRepliesUptoRow.holds Try.pinned (OpenSpec.upto fnExactAreRepliesSpec)

/-- 'laws.FnExactMayBeOne', WHERE WHAT IT READS IS OF BULK AT MOST 1048576: true; the input reads as it did. -/
def fnExactMayBeOneUptoRow : OpenClaim := { program := "ytgomfmigcolloaa", sum := "bd07f23e196aefff089363062f7cf72d08c3e404da910b88c465abb1aa7217c3", func := "loop.example/g00958/laws.FnExactMayBeOne", spec := "fnExactMayBeOne", unfollowed := true, recurses := true, apart := false, narrowed := true }
def FnExactMayBeOneUptoSaid : Prop := fnExactMayBeOneUptoRow.holds Try.pinned (OpenSpec.upto fnExactMayBeOneSpec)

/-- 'laws.FnExactAddressesOf', WHERE WHAT IT READS IS OF BULK AT MOST 1048576: true; the input reads as it did. -/
def fnExactAddressesOfUptoRow : OpenClaim := { program := "ytgomfmigcolloaa", sum := "bd07f23e196aefff089363062f7cf72d08c3e404da910b88c465abb1aa7217c3", func := "loop.example/g00958/laws.FnExactAddressesOf", spec := "fnExactAddressesOf", recurses := true, apart := false, narrowed := true }
def FnExactAddressesOfUptoSaid : Prop := fnExactAddressesOfUptoRow.holds Try.pinned (OpenSpec.upto fnExactAddressesOfSpec)

/-- 'laws.FnExactGroupsOf', WHERE WHAT IT READS IS OF BULK AT MOST 1048576: true; the input reads as it did. -/
def fnExactGroupsOfUptoRow : OpenClaim := { program := "ytgomfmigcolloaa", sum := "bd07f23e196aefff089363062f7cf72d08c3e404da910b88c465abb1aa7217c3", func := "loop.example/g00958/laws.FnExactGroupsOf", spec := "fnExactGroupsOf", unfollowed := true, recurses := true, apart := false, narrowed := true }
def FnExactGroupsOfUptoSaid : Prop := fnExactGroupsOfUptoRow.holds Try.pinned (OpenSpec.upto fnExactGroupsOfSpec)

/-- 'laws.FnExactSurelyApart', WHERE WHAT IT READS IS OF BULK AT MOST 1048576: true; the input reads as it did. -/
def fnExactSurelyApartUptoRow : OpenClaim := { program := "ytgomfmigcolloaa", sum := "bd07f23e196aefff089363062f7cf72d08c3e404da910b88c465abb1aa7217c3", func := "loop.example/g00958/laws.FnExactSurelyApart", spec := "fnExactSurelyApart", unfollowed := true, recurses := true, apart := false, narrowed := true }
def FnExactSurelyApartUptoSaid : Prop := fnExactSurelyApartUptoRow.holds Try.pinned (OpenSpec.upto fnExactSurelyApartSpec)

end Rows
end Go.Proofs.Ytgomfmigcolloaa
