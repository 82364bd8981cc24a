/-
  No cell of these rows narrows 'for every input' (looked for: loops, veiled, ifaces, maps, wideKeys, modest, calm, conditions, laid).
  DERIVED. THE GIVEN ROWS OF THIS SEAT. 10 by the template 'for every input the law returns true; each argument reads behind the call as it read before'; 0 by the template 'total and deterministic' (their statements: YtooafmifbplbhaaTotals.lean).
  GIVEN WITH THE SEED: the statements are not yours to turn. If you find one false, say at which input.
  Laid BY PROGRAM, IN A SANDBOX (cutbox-rows.mjs): the forced cells as the released guide's own fill.sh prints them over the translation a3d93787b113e489… (all of the seat's roots in one cut). By AI agents, Wed Nov 11 2026. No macro, syntax, notation, axiom, sorry.
-/
import Derived.Test.YtooafmifbplbhaaChecked
import GoSem.Claim
import GoSem.ClaimJoined
import GoSem.ClaimMapViews
import Derived.JoinedTies
import Derived.KernelRfl
namespace Go.Proofs.Ytooafmifbplbhaa
/- THE CELL 'sum', in the pinned program and in every row, IS THE sha256 OF THE DUMP (.gsa) THAT YtooafmifbplbhaaProg.lean LOADS. Nothing in Lean hashes anything: it is a label: what it is worth is what the hold of that sum in a sandbox is worth. -/
noncomputable def Try.pinned : Pinned := { name := "ytooafmifbplbhaa", sum := "a3d93787b113e48913fa0f3bcc9b30312bd7fc0757d3490837ddf757cb994774", checked := Try.checked }
namespace Rows
def none {H : Type} : Left H := { results := [], args := [] }

/-- 'laws.FnMembership': WHATEVER THE INPUT: true; the input reads as it did. -/
def fnMembershipSpec : ChangeSpec := { name := "fnMembership", fn := fun _ => fun
  | [d] => { results := [.lit (.bool true)], args := [d] }
  | _ => none }
def fnMembershipRow : OpenClaim := { program := "ytooafmifbplbhaa", sum := "a3d93787b113e48913fa0f3bcc9b30312bd7fc0757d3490837ddf757cb994774", func := "loop.example/g00855/laws.FnMembership", spec := "fnMembership", recurses := true, apart := false }
def FnMembershipSaid : Prop := fnMembershipRow.holds Try.pinned (OpenSpec.ofChange fnMembershipSpec)

/-- ITS FALSE NEIGHBOUR: 'it returns false'. Refute it at one input. -/
def fnMembershipWrong : ChangeSpec := { name := "fnMembership", fn := fun _ => fun
  | [d] => { results := [.lit (.bool false)], args := [d] }
  | _ => none }
def FnMembershipWrongFalsely : Prop := fnMembershipRow.holds Try.pinned (OpenSpec.ofChange fnMembershipWrong)

/-- 'laws.FnStrongGenerators': WHATEVER THE INPUT: true; the input reads as it did. -/
def fnStrongGeneratorsSpec : ChangeSpec := { name := "fnStrongGenerators", fn := fun _ => fun
  | [d] => { results := [.lit (.bool true)], args := [d] }
  | _ => none }
def fnStrongGeneratorsRow : OpenClaim := { program := "ytooafmifbplbhaa", sum := "a3d93787b113e48913fa0f3bcc9b30312bd7fc0757d3490837ddf757cb994774", func := "loop.example/g00855/laws.FnStrongGenerators", spec := "fnStrongGenerators", unfollowed := true, recurses := true, apart := false }
def FnStrongGeneratorsSaid : Prop := fnStrongGeneratorsRow.holds Try.pinned (OpenSpec.ofChange fnStrongGeneratorsSpec)

/-- ITS FALSE NEIGHBOUR: 'it returns false'. Refute it at one input. -/
def fnStrongGeneratorsWrong : ChangeSpec := { name := "fnStrongGenerators", fn := fun _ => fun
  | [d] => { results := [.lit (.bool false)], args := [d] }
  | _ => none }
def FnStrongGeneratorsWrongFalsely : Prop := fnStrongGeneratorsRow.holds Try.pinned (OpenSpec.ofChange fnStrongGeneratorsWrong)

/-- 'laws.FnExactGroupOrder': WHATEVER THE INPUT: true; the input reads as it did. -/
def fnExactGroupOrderSpec : ChangeSpec := { name := "fnExactGroupOrder", fn := fun _ => fun
  | [d1, d2] => { results := [.lit (.bool true)], args := [d1, d2] }
  | _ => none }
def fnExactGroupOrderRow : OpenClaim := { program := "ytooafmifbplbhaa", sum := "a3d93787b113e48913fa0f3bcc9b30312bd7fc0757d3490837ddf757cb994774", func := "loop.example/g00855/laws.FnExactGroupOrder", spec := "fnExactGroupOrder", recurses := true, apart := false }
def FnExactGroupOrderSaid : Prop := fnExactGroupOrderRow.holds Try.pinned (OpenSpec.ofChange fnExactGroupOrderSpec)

/-- ITS FALSE NEIGHBOUR: 'it returns false'. Refute it at one input. -/
def fnExactGroupOrderWrong : ChangeSpec := { name := "fnExactGroupOrder", fn := fun _ => fun
  | [d1, d2] => { results := [.lit (.bool false)], args := [d1, d2] }
  | _ => none }
def FnExactGroupOrderWrongFalsely : Prop := fnExactGroupOrderRow.holds Try.pinned (OpenSpec.ofChange fnExactGroupOrderWrong)

/-- 'laws.FnExactIsMember': WHATEVER THE INPUT: true; the input reads as it did. -/
def fnExactIsMemberSpec : ChangeSpec := { name := "fnExactIsMember", fn := fun _ => fun
  | [d1, d2, d3] => { results := [.lit (.bool true)], args := [d1, d2, d3] }
  | _ => none }
def fnExactIsMemberRow : OpenClaim := { program := "ytooafmifbplbhaa", sum := "a3d93787b113e48913fa0f3bcc9b30312bd7fc0757d3490837ddf757cb994774", func := "loop.example/g00855/laws.FnExactIsMember", spec := "fnExactIsMember", recurses := true, apart := false }
def FnExactIsMemberSaid : Prop := fnExactIsMemberRow.holds Try.pinned (OpenSpec.ofChange fnExactIsMemberSpec)

/-- ITS FALSE NEIGHBOUR: 'it returns false'. Refute it at one input. -/
def fnExactIsMemberWrong : ChangeSpec := { name := "fnExactIsMember", fn := fun _ => fun
  | [d1, d2, d3] => { results := [.lit (.bool false)], args := [d1, d2, d3] }
  | _ => none }
def FnExactIsMemberWrongFalsely : Prop := fnExactIsMemberRow.holds Try.pinned (OpenSpec.ofChange fnExactIsMemberWrong)

/-- 'laws.FnExactOrbitSizes': WHATEVER THE INPUT: true; the input reads as it did. -/
def fnExactOrbitSizesSpec : ChangeSpec := { name := "fnExactOrbitSizes", fn := fun _ => fun
  | [d1, d2] => { results := [.lit (.bool true)], args := [d1, d2] }
  | _ => none }
def fnExactOrbitSizesRow : OpenClaim := { program := "ytooafmifbplbhaa", sum := "a3d93787b113e48913fa0f3bcc9b30312bd7fc0757d3490837ddf757cb994774", func := "loop.example/g00855/laws.FnExactOrbitSizes", spec := "fnExactOrbitSizes", recurses := true, apart := false }
def FnExactOrbitSizesSaid : Prop := fnExactOrbitSizesRow.holds Try.pinned (OpenSpec.ofChange fnExactOrbitSizesSpec)

/-- ITS FALSE NEIGHBOUR: 'it returns false'. Refute it at one input. -/
def fnExactOrbitSizesWrong : ChangeSpec := { name := "fnExactOrbitSizes", fn := fun _ => fun
  | [d1, d2] => { results := [.lit (.bool false)], args := [d1, d2] }
  | _ => none }
def FnExactOrbitSizesWrongFalsely : Prop := fnExactOrbitSizesRow.holds Try.pinned (OpenSpec.ofChange fnExactOrbitSizesWrong)

/-- 'laws.FnExactMemberWithPrefix': WHATEVER THE INPUT: true; the input reads as it did. -/
def fnExactMemberWithPrefixSpec : ChangeSpec := { name := "fnExactMemberWithPrefix", fn := fun _ => fun
  | [d1, d2, d3] => { results := [.lit (.bool true)], args := [d1, d2, d3] }
  | _ => none }
def fnExactMemberWithPrefixRow : OpenClaim := { program := "ytooafmifbplbhaa", sum := "a3d93787b113e48913fa0f3bcc9b30312bd7fc0757d3490837ddf757cb994774", func := "loop.example/g00855/laws.FnExactMemberWithPrefix", spec := "fnExactMemberWithPrefix", recurses := true, apart := false }
def FnExactMemberWithPrefixSaid : Prop := fnExactMemberWithPrefixRow.holds Try.pinned (OpenSpec.ofChange fnExactMemberWithPrefixSpec)

/-- ITS FALSE NEIGHBOUR: 'it returns false'. Refute it at one input. -/
def fnExactMemberWithPrefixWrong : ChangeSpec := { name := "fnExactMemberWithPrefix", fn := fun _ => fun
  | [d1, d2, d3] => { results := [.lit (.bool false)], args := [d1, d2, d3] }
  | _ => none }
def FnExactMemberWithPrefixWrongFalsely : Prop := fnExactMemberWithPrefixRow.holds Try.pinned (OpenSpec.ofChange fnExactMemberWithPrefixWrong)

/-- 'laws.FnExactLongestMemberPrefix': WHATEVER THE INPUT: true; the input reads as it did. -/
def fnExactLongestMemberPrefixSpec : ChangeSpec := { name := "fnExactLongestMemberPrefix", fn := fun _ => fun
  | [d1, d2, d3] => { results := [.lit (.bool true)], args := [d1, d2, d3] }
  | _ => none }
def fnExactLongestMemberPrefixRow : OpenClaim := { program := "ytooafmifbplbhaa", sum := "a3d93787b113e48913fa0f3bcc9b30312bd7fc0757d3490837ddf757cb994774", func := "loop.example/g00855/laws.FnExactLongestMemberPrefix", spec := "fnExactLongestMemberPrefix", recurses := true, apart := false }
def FnExactLongestMemberPrefixSaid : Prop := fnExactLongestMemberPrefixRow.holds Try.pinned (OpenSpec.ofChange fnExactLongestMemberPrefixSpec)

/-- ITS FALSE NEIGHBOUR: 'it returns false'. Refute it at one input. -/
def fnExactLongestMemberPrefixWrong : ChangeSpec := { name := "fnExactLongestMemberPrefix", fn := fun _ => fun
  | [d1, d2, d3] => { results := [.lit (.bool false)], args := [d1, d2, d3] }
  | _ => none }
def FnExactLongestMemberPrefixWrongFalsely : Prop := fnExactLongestMemberPrefixRow.holds Try.pinned (OpenSpec.ofChange fnExactLongestMemberPrefixWrong)

/-- 'laws.FnExactStrongGeneratingSet': WHATEVER THE INPUT: true; the input reads as it did. -/
def fnExactStrongGeneratingSetSpec : ChangeSpec := { name := "fnExactStrongGeneratingSet", fn := fun _ => fun
  | [d1, d2] => { results := [.lit (.bool true)], args := [d1, d2] }
  | _ => none }
def fnExactStrongGeneratingSetRow : OpenClaim := { program := "ytooafmifbplbhaa", sum := "a3d93787b113e48913fa0f3bcc9b30312bd7fc0757d3490837ddf757cb994774", func := "loop.example/g00855/laws.FnExactStrongGeneratingSet", spec := "fnExactStrongGeneratingSet", recurses := true, apart := false }
def FnExactStrongGeneratingSetSaid : Prop := fnExactStrongGeneratingSetRow.holds Try.pinned (OpenSpec.ofChange fnExactStrongGeneratingSetSpec)

/-- ITS FALSE NEIGHBOUR: 'it returns false'. Refute it at one input. -/
def fnExactStrongGeneratingSetWrong : ChangeSpec := { name := "fnExactStrongGeneratingSet", fn := fun _ => fun
  | [d1, d2] => { results := [.lit (.bool false)], args := [d1, d2] }
  | _ => none }
def FnExactStrongGeneratingSetWrongFalsely : Prop := fnExactStrongGeneratingSetRow.holds Try.pinned (OpenSpec.ofChange fnExactStrongGeneratingSetWrong)

/-- 'laws.FnExactStabilizerOrder': WHATEVER THE INPUT: true; the input reads as it did. -/
def fnExactStabilizerOrderSpec : ChangeSpec := { name := "fnExactStabilizerOrder", fn := fun _ => fun
  | [d1, d2, d3] => { results := [.lit (.bool true)], args := [d1, d2, d3] }
  | _ => none }
def fnExactStabilizerOrderRow : OpenClaim := { program := "ytooafmifbplbhaa", sum := "a3d93787b113e48913fa0f3bcc9b30312bd7fc0757d3490837ddf757cb994774", func := "loop.example/g00855/laws.FnExactStabilizerOrder", spec := "fnExactStabilizerOrder", unfollowed := true, recurses := true, apart := false }
def FnExactStabilizerOrderSaid : Prop := fnExactStabilizerOrderRow.holds Try.pinned (OpenSpec.ofChange fnExactStabilizerOrderSpec)

/-- ITS FALSE NEIGHBOUR: 'it returns false'. Refute it at one input. -/
def fnExactStabilizerOrderWrong : ChangeSpec := { name := "fnExactStabilizerOrder", fn := fun _ => fun
  | [d1, d2, d3] => { results := [.lit (.bool false)], args := [d1, d2, d3] }
  | _ => none }
def FnExactStabilizerOrderWrongFalsely : Prop := fnExactStabilizerOrderRow.holds Try.pinned (OpenSpec.ofChange fnExactStabilizerOrderWrong)

/-- 'laws.FnExactSameGroup': WHATEVER THE INPUT: true; the input reads as it did. -/
def fnExactSameGroupSpec : ChangeSpec := { name := "fnExactSameGroup", fn := fun _ => fun
  | [d1, d2, d3] => { results := [.lit (.bool true)], args := [d1, d2, d3] }
  | _ => none }
def fnExactSameGroupRow : OpenClaim := { program := "ytooafmifbplbhaa", sum := "a3d93787b113e48913fa0f3bcc9b30312bd7fc0757d3490837ddf757cb994774", func := "loop.example/g00855/laws.FnExactSameGroup", spec := "fnExactSameGroup", recurses := true, apart := false }
def FnExactSameGroupSaid : Prop := fnExactSameGroupRow.holds Try.pinned (OpenSpec.ofChange fnExactSameGroupSpec)

/-- ITS FALSE NEIGHBOUR: 'it returns false'. Refute it at one input. -/
def fnExactSameGroupWrong : ChangeSpec := { name := "fnExactSameGroup", fn := fun _ => fun
  | [d1, d2, d3] => { results := [.lit (.bool false)], args := [d1, d2, d3] }
  | _ => none }
def FnExactSameGroupWrongFalsely : Prop := fnExactSameGroupRow.holds Try.pinned (OpenSpec.ofChange fnExactSameGroupWrong)

/- THE SECOND FORM. 'bulk': how many values and letters a reading holds, each counted each time it is reached (what is shared counts as often as it is met; a slice's spare places count too). A statement '..UptoSaid' is the law's where the arguments, and the package variables that the reading takes, are together of bulk at most 1048576: NARROWER than '..Said'. Prove '..Said' where nothing that the law and all that it calls make is longer than what came in: it says more and counts as full. Else prove '..UptoSaid'. A law counts once. -/
mutual
def uptoBulk {H : Type} : DataW H → Nat
  | .lit (.string bytes) => bytes.length + 1
  | .lit _ => 1
  | .nil => 1
  | .ptr d => uptoBulk d + 1
  | .slice elems spare => uptoBulkAll elems + uptoBulkAll spare + 1
  | .agg parts => uptoBulkAll parts + 1
  | .iface _ d => uptoBulk d + 1
  | .map entries => uptoBulkEntries entries + 1
  | .held _ => 1
def uptoBulkAll {H : Type} : List (DataW H) → Nat
  | [] => 0
  | d :: r => uptoBulk d + uptoBulkAll r
def uptoBulkEntries {H : Type} : List (Lit × DataW H) → Nat
  | [] => 0
  | x :: r => uptoBulkEntry x + uptoBulkEntries r
def uptoBulkEntry {H : Type} : Lit × DataW H → Nat
  | (.string bytes, d) => bytes.length + uptoBulk d + 1
  | (_, d) => uptoBulk d + 1
 end
def uptoSmall : (H : Type) → List (DataW H) → Bool := fun _ ds => decide (uptoBulkAll ds ≤ 1048576)
def OpenSpec.upto (s : _root_.Go.ChangeSpec) : _root_.Go.OpenSpec := { _root_.Go.OpenSpec.ofChange s with cond := some uptoSmall }

/-- 'laws.FnMembership', WHERE WHAT IT READS IS OF BULK AT MOST 1048576: true; the input reads as it did. -/
def fnMembershipUptoRow : OpenClaim := { program := "ytooafmifbplbhaa", sum := "a3d93787b113e48913fa0f3bcc9b30312bd7fc0757d3490837ddf757cb994774", func := "loop.example/g00855/laws.FnMembership", spec := "fnMembership", recurses := true, apart := false, narrowed := true }
def FnMembershipUptoSaid : Prop := fnMembershipUptoRow.holds Try.pinned (OpenSpec.upto fnMembershipSpec)

/-- 'laws.FnStrongGenerators', WHERE WHAT IT READS IS OF BULK AT MOST 1048576: true; the input reads as it did. -/
def fnStrongGeneratorsUptoRow : OpenClaim := { program := "ytooafmifbplbhaa", sum := "a3d93787b113e48913fa0f3bcc9b30312bd7fc0757d3490837ddf757cb994774", func := "loop.example/g00855/laws.FnStrongGenerators", spec := "fnStrongGenerators", unfollowed := true, recurses := true, apart := false, narrowed := true }
def FnStrongGeneratorsUptoSaid : Prop := fnStrongGeneratorsUptoRow.holds Try.pinned (OpenSpec.upto fnStrongGeneratorsSpec)

/-- 'laws.FnExactGroupOrder', WHERE WHAT IT READS IS OF BULK AT MOST 1048576: true; the input reads as it did. -/
def fnExactGroupOrderUptoRow : OpenClaim := { program := "ytooafmifbplbhaa", sum := "a3d93787b113e48913fa0f3bcc9b30312bd7fc0757d3490837ddf757cb994774", func := "loop.example/g00855/laws.FnExactGroupOrder", spec := "fnExactGroupOrder", recurses := true, apart := false, narrowed := true }
def FnExactGroupOrderUptoSaid : Prop := fnExactGroupOrderUptoRow.holds Try.pinned (OpenSpec.upto fnExactGroupOrderSpec)

/-- 'laws.FnExactIsMember', WHERE WHAT IT READS IS OF BULK AT MOST 1048576: true; the input reads as it did. -/
def fnExactIsMemberUptoRow : OpenClaim := { program := "ytooafmifbplbhaa", sum := "a3d93787b113e48913fa0f3bcc9b30312bd7fc0757d3490837ddf757cb994774", func := "loop.example/g00855/laws.FnExactIsMember", spec := "fnExactIsMember", recurses := true, apart := false, narrowed := true }
def FnExactIsMemberUptoSaid : Prop := fnExactIsMemberUptoRow.holds Try.pinned (OpenSpec.upto fnExactIsMemberSpec)

/-- 'laws.FnExactOrbitSizes', WHERE WHAT IT READS IS OF BULK AT MOST 1048576: true; the input reads as it did. -/
def fnExactOrbitSizesUptoRow : OpenClaim := { program := "ytooafmifbplbhaa", sum := "a3d93787b113e48913fa0f3bcc9b30312bd7fc0757d3490837ddf757cb994774", func := "loop.example/g00855/laws.FnExactOrbitSizes", spec := "fnExactOrbitSizes", recurses := true, apart := false, narrowed := true }
def FnExactOrbitSizesUptoSaid : Prop := fnExactOrbitSizesUptoRow.holds Try.pinned (OpenSpec.upto fnExactOrbitSizesSpec)

/-- 'laws.FnExactMemberWithPrefix', WHERE WHAT IT READS IS OF BULK AT MOST 1048576: true; the input reads as it did. -/
def fnExactMemberWithPrefixUptoRow : OpenClaim := { program := "ytooafmifbplbhaa", sum := "a3d93787b113e48913fa0f3bcc9b30312bd7fc0757d3490837ddf757cb994774", func := "loop.example/g00855/laws.FnExactMemberWithPrefix", spec := "fnExactMemberWithPrefix", recurses := true, apart := false, narrowed := true }
def FnExactMemberWithPrefixUptoSaid : Prop := fnExactMemberWithPrefixUptoRow.holds Try.pinned (OpenSpec.upto fnExactMemberWithPrefixSpec)

/-- 'laws.FnExactLongestMemberPrefix', WHERE WHAT IT READS IS OF BULK AT MOST 1048576: true; the input reads as it did. -/
def fnExactLongestMemberPrefixUptoRow : OpenClaim := { program := "ytooafmifbplbhaa", sum := "a3d93787b113e48913fa0f3bcc9b30312bd7fc0757d3490837ddf757cb994774", func := "loop.example/g00855/laws.FnExactLongestMemberPrefix", spec := "fnExactLongestMemberPrefix", recurses := true, apart := false, narrowed := true }
def FnExactLongestMemberPrefixUptoSaid : Prop := fnExactLongestMemberPrefixUptoRow.holds Try.pinned (OpenSpec.upto fnExactLongestMemberPrefixSpec)

/-- 'laws.FnExactStrongGeneratingSet', WHERE WHAT IT READS IS OF BULK AT MOST 1048576: true; the input reads as it did. -/
def fnExactStrongGeneratingSetUptoRow : OpenClaim := { program := "ytooafmifbplbhaa", sum := "a3d93787b113e48913fa0f3bcc9b30312bd7fc0757d3490837ddf757cb994774", func := "loop.example/g00855/laws.FnExactStrongGeneratingSet", spec := "fnExactStrongGeneratingSet", recurses := true, apart := false, narrowed := true }
def FnExactStrongGeneratingSetUptoSaid : Prop := fnExactStrongGeneratingSetUptoRow.holds Try.pinned (OpenSpec.upto fnExactStrongGeneratingSetSpec)

/-- 'laws.FnExactStabilizerOrder', WHERE WHAT IT READS IS OF BULK AT MOST 1048576: true; the input reads as it did. -/
def fnExactStabilizerOrderUptoRow : OpenClaim := { program := "ytooafmifbplbhaa", sum := "a3d93787b113e48913fa0f3bcc9b30312bd7fc0757d3490837ddf757cb994774", func := "loop.example/g00855/laws.FnExactStabilizerOrder", spec := "fnExactStabilizerOrder", unfollowed := true, recurses := true, apart := false, narrowed := true }
def FnExactStabilizerOrderUptoSaid : Prop := fnExactStabilizerOrderUptoRow.holds Try.pinned (OpenSpec.upto fnExactStabilizerOrderSpec)

/-- 'laws.FnExactSameGroup', WHERE WHAT IT READS IS OF BULK AT MOST 1048576: true; the input reads as it did. -/
def fnExactSameGroupUptoRow : OpenClaim := { program := "ytooafmifbplbhaa", sum := "a3d93787b113e48913fa0f3bcc9b30312bd7fc0757d3490837ddf757cb994774", func := "loop.example/g00855/laws.FnExactSameGroup", spec := "fnExactSameGroup", recurses := true, apart := false, narrowed := true }
def FnExactSameGroupUptoSaid : Prop := fnExactSameGroupUptoRow.holds Try.pinned (OpenSpec.upto fnExactSameGroupSpec)

end Rows
end Go.Proofs.Ytooafmifbplbhaa
