/-
  No cell of these rows narrows 'for every input' (looked for: loops, veiled, ifaces, maps, wideKeys, modest, calm, conditions, laid).
  DERIVED. THE GIVEN ROWS OF THIS SEAT. 12 by the template 'for every input the law returns true; each argument reads behind the call as it read before'; 0 by the template 'total and deterministic' (their statements: YtonanelghnjhpaaTotals.lean).
  GIVEN WITH THE SEED: the statements are not yours to turn. If you find one false, say at which input.
  Laid BY PROGRAM, IN A SANDBOX (cutbox-rows.mjs): the forced cells as the released guide's own fill.sh prints them over the translation b29ca563bd27692e… (all of the seat's roots in one cut). By AI agents, Wed Nov 11 2026. No macro, syntax, notation, axiom, sorry.
-/
import Derived.Test.YtonanelghnjhpaaChecked
import GoSem.Claim
import GoSem.ClaimJoined
import GoSem.ClaimMapViews
import Derived.JoinedTies
import Derived.KernelRfl
namespace Go.Proofs.Ytonanelghnjhpaa
/- THE CELL 'sum', in the pinned program and in every row, IS THE sha256 OF THE DUMP (.gsa) THAT YtonanelghnjhpaaProg.lean LOADS. Nothing in Lean hashes anything: it is a label: what it is worth is what the hold of that sum in a sandbox is worth. -/
noncomputable def Try.pinned : Pinned := { name := "ytonanelghnjhpaa", sum := "b29ca563bd27692e8bc3053a0a904adc8086a903aa5cb67b058b76039e83e0bd", checked := Try.checked }
namespace Rows
def none {H : Type} : Left H := { results := [], args := [] }

/-- 'laws.FnChainOrder': WHATEVER THE INPUT: true; the input reads as it did. -/
def fnChainOrderSpec : ChangeSpec := { name := "fnChainOrder", fn := fun _ => fun
  | [d] => { results := [.lit (.bool true)], args := [d] }
  | _ => none }
def fnChainOrderRow : OpenClaim := { program := "ytonanelghnjhpaa", sum := "b29ca563bd27692e8bc3053a0a904adc8086a903aa5cb67b058b76039e83e0bd", func := "loop.example/g00855/laws.FnChainOrder", spec := "fnChainOrder", unfollowed := true, recurses := true, apart := false }
def FnChainOrderSaid : Prop := fnChainOrderRow.holds Try.pinned (OpenSpec.ofChange fnChainOrderSpec)

/-- ITS FALSE NEIGHBOUR: 'it returns false'. Refute it at one input. -/
def fnChainOrderWrong : ChangeSpec := { name := "fnChainOrder", fn := fun _ => fun
  | [d] => { results := [.lit (.bool false)], args := [d] }
  | _ => none }
def FnChainOrderWrongFalsely : Prop := fnChainOrderRow.holds Try.pinned (OpenSpec.ofChange fnChainOrderWrong)

/-- 'laws.FnRanks': WHATEVER THE INPUT: true; the input reads as it did. -/
def fnRanksSpec : ChangeSpec := { name := "fnRanks", fn := fun _ => fun
  | [d] => { results := [.lit (.bool true)], args := [d] }
  | _ => none }
def fnRanksRow : OpenClaim := { program := "ytonanelghnjhpaa", sum := "b29ca563bd27692e8bc3053a0a904adc8086a903aa5cb67b058b76039e83e0bd", func := "loop.example/g00855/laws.FnRanks", spec := "fnRanks", unfollowed := true, recurses := true, apart := false }
def FnRanksSaid : Prop := fnRanksRow.holds Try.pinned (OpenSpec.ofChange fnRanksSpec)

/-- ITS FALSE NEIGHBOUR: 'it returns false'. Refute it at one input. -/
def fnRanksWrong : ChangeSpec := { name := "fnRanks", fn := fun _ => fun
  | [d] => { results := [.lit (.bool false)], args := [d] }
  | _ => none }
def FnRanksWrongFalsely : Prop := fnRanksRow.holds Try.pinned (OpenSpec.ofChange fnRanksWrong)

/-- 'laws.FnRandomMembers': WHATEVER THE INPUT: true; the input reads as it did. -/
def fnRandomMembersSpec : ChangeSpec := { name := "fnRandomMembers", fn := fun _ => fun
  | [d] => { results := [.lit (.bool true)], args := [d] }
  | _ => none }
def fnRandomMembersRow : OpenClaim := { program := "ytonanelghnjhpaa", sum := "b29ca563bd27692e8bc3053a0a904adc8086a903aa5cb67b058b76039e83e0bd", func := "loop.example/g00855/laws.FnRandomMembers", spec := "fnRandomMembers", unfollowed := true, recurses := true, apart := false }
def FnRandomMembersSaid : Prop := fnRandomMembersRow.holds Try.pinned (OpenSpec.ofChange fnRandomMembersSpec)

/-- ITS FALSE NEIGHBOUR: 'it returns false'. Refute it at one input. -/
def fnRandomMembersWrong : ChangeSpec := { name := "fnRandomMembers", fn := fun _ => fun
  | [d] => { results := [.lit (.bool false)], args := [d] }
  | _ => none }
def FnRandomMembersWrongFalsely : Prop := fnRandomMembersRow.holds Try.pinned (OpenSpec.ofChange fnRandomMembersWrong)

/-- 'laws.FnTypeCounts': WHATEVER THE INPUT: true; the input reads as it did. -/
def fnTypeCountsSpec : ChangeSpec := { name := "fnTypeCounts", fn := fun _ => fun
  | [d] => { results := [.lit (.bool true)], args := [d] }
  | _ => none }
def fnTypeCountsRow : OpenClaim := { program := "ytonanelghnjhpaa", sum := "b29ca563bd27692e8bc3053a0a904adc8086a903aa5cb67b058b76039e83e0bd", func := "loop.example/g00855/laws.FnTypeCounts", spec := "fnTypeCounts", unfollowed := true, recurses := true, apart := false }
def FnTypeCountsSaid : Prop := fnTypeCountsRow.holds Try.pinned (OpenSpec.ofChange fnTypeCountsSpec)

/-- ITS FALSE NEIGHBOUR: 'it returns false'. Refute it at one input. -/
def fnTypeCountsWrong : ChangeSpec := { name := "fnTypeCounts", fn := fun _ => fun
  | [d] => { results := [.lit (.bool false)], args := [d] }
  | _ => none }
def FnTypeCountsWrongFalsely : Prop := fnTypeCountsRow.holds Try.pinned (OpenSpec.ofChange fnTypeCountsWrong)

/-- 'laws.FnExactMemberAt': WHATEVER THE INPUT: true; the input reads as it did. -/
def fnExactMemberAtSpec : ChangeSpec := { name := "fnExactMemberAt", fn := fun _ => fun
  | [d1, d2, d3] => { results := [.lit (.bool true)], args := [d1, d2, d3] }
  | _ => none }
def fnExactMemberAtRow : OpenClaim := { program := "ytonanelghnjhpaa", sum := "b29ca563bd27692e8bc3053a0a904adc8086a903aa5cb67b058b76039e83e0bd", func := "loop.example/g00855/laws.FnExactMemberAt", spec := "fnExactMemberAt", unfollowed := true, recurses := true, apart := false }
def FnExactMemberAtSaid : Prop := fnExactMemberAtRow.holds Try.pinned (OpenSpec.ofChange fnExactMemberAtSpec)

/-- ITS FALSE NEIGHBOUR: 'it returns false'. Refute it at one input. -/
def fnExactMemberAtWrong : ChangeSpec := { name := "fnExactMemberAt", fn := fun _ => fun
  | [d1, d2, d3] => { results := [.lit (.bool false)], args := [d1, d2, d3] }
  | _ => none }
def FnExactMemberAtWrongFalsely : Prop := fnExactMemberAtRow.holds Try.pinned (OpenSpec.ofChange fnExactMemberAtWrong)

/-- 'laws.FnExactRank': WHATEVER THE INPUT: true; the input reads as it did. -/
def fnExactRankSpec : ChangeSpec := { name := "fnExactRank", fn := fun _ => fun
  | [d1, d2, d3] => { results := [.lit (.bool true)], args := [d1, d2, d3] }
  | _ => none }
def fnExactRankRow : OpenClaim := { program := "ytonanelghnjhpaa", sum := "b29ca563bd27692e8bc3053a0a904adc8086a903aa5cb67b058b76039e83e0bd", func := "loop.example/g00855/laws.FnExactRank", spec := "fnExactRank", recurses := true, apart := false }
def FnExactRankSaid : Prop := fnExactRankRow.holds Try.pinned (OpenSpec.ofChange fnExactRankSpec)

/-- ITS FALSE NEIGHBOUR: 'it returns false'. Refute it at one input. -/
def fnExactRankWrong : ChangeSpec := { name := "fnExactRank", fn := fun _ => fun
  | [d1, d2, d3] => { results := [.lit (.bool false)], args := [d1, d2, d3] }
  | _ => none }
def FnExactRankWrongFalsely : Prop := fnExactRankRow.holds Try.pinned (OpenSpec.ofChange fnExactRankWrong)

/-- 'laws.FnExactNextMember': WHATEVER THE INPUT: true; the input reads as it did. -/
def fnExactNextMemberSpec : ChangeSpec := { name := "fnExactNextMember", fn := fun _ => fun
  | [d1, d2, d3] => { results := [.lit (.bool true)], args := [d1, d2, d3] }
  | _ => none }
def fnExactNextMemberRow : OpenClaim := { program := "ytonanelghnjhpaa", sum := "b29ca563bd27692e8bc3053a0a904adc8086a903aa5cb67b058b76039e83e0bd", func := "loop.example/g00855/laws.FnExactNextMember", spec := "fnExactNextMember", unfollowed := true, recurses := true, apart := false }
def FnExactNextMemberSaid : Prop := fnExactNextMemberRow.holds Try.pinned (OpenSpec.ofChange fnExactNextMemberSpec)

/-- ITS FALSE NEIGHBOUR: 'it returns false'. Refute it at one input. -/
def fnExactNextMemberWrong : ChangeSpec := { name := "fnExactNextMember", fn := fun _ => fun
  | [d1, d2, d3] => { results := [.lit (.bool false)], args := [d1, d2, d3] }
  | _ => none }
def FnExactNextMemberWrongFalsely : Prop := fnExactNextMemberRow.holds Try.pinned (OpenSpec.ofChange fnExactNextMemberWrong)

/-- 'laws.FnExactMembers': WHATEVER THE INPUT: true; the input reads as it did. -/
def fnExactMembersSpec : ChangeSpec := { name := "fnExactMembers", fn := fun _ => fun
  | [d1, d2] => { results := [.lit (.bool true)], args := [d1, d2] }
  | _ => none }
def fnExactMembersRow : OpenClaim := { program := "ytonanelghnjhpaa", sum := "b29ca563bd27692e8bc3053a0a904adc8086a903aa5cb67b058b76039e83e0bd", func := "loop.example/g00855/laws.FnExactMembers", spec := "fnExactMembers", unfollowed := true, recurses := true, apart := false }
def FnExactMembersSaid : Prop := fnExactMembersRow.holds Try.pinned (OpenSpec.ofChange fnExactMembersSpec)

/-- ITS FALSE NEIGHBOUR: 'it returns false'. Refute it at one input. -/
def fnExactMembersWrong : ChangeSpec := { name := "fnExactMembers", fn := fun _ => fun
  | [d1, d2] => { results := [.lit (.bool false)], args := [d1, d2] }
  | _ => none }
def FnExactMembersWrongFalsely : Prop := fnExactMembersRow.holds Try.pinned (OpenSpec.ofChange fnExactMembersWrong)

/-- 'laws.FnExactRandomMember': WHATEVER THE INPUT: true; the input reads as it did. -/
def fnExactRandomMemberSpec : ChangeSpec := { name := "fnExactRandomMember", fn := fun _ => fun
  | [d1, d2, d3] => { results := [.lit (.bool true)], args := [d1, d2, d3] }
  | _ => none }
def fnExactRandomMemberRow : OpenClaim := { program := "ytonanelghnjhpaa", sum := "b29ca563bd27692e8bc3053a0a904adc8086a903aa5cb67b058b76039e83e0bd", func := "loop.example/g00855/laws.FnExactRandomMember", spec := "fnExactRandomMember", unfollowed := true, recurses := true, apart := false }
def FnExactRandomMemberSaid : Prop := fnExactRandomMemberRow.holds Try.pinned (OpenSpec.ofChange fnExactRandomMemberSpec)

/-- ITS FALSE NEIGHBOUR: 'it returns false'. Refute it at one input. -/
def fnExactRandomMemberWrong : ChangeSpec := { name := "fnExactRandomMember", fn := fun _ => fun
  | [d1, d2, d3] => { results := [.lit (.bool false)], args := [d1, d2, d3] }
  | _ => none }
def FnExactRandomMemberWrongFalsely : Prop := fnExactRandomMemberRow.holds Try.pinned (OpenSpec.ofChange fnExactRandomMemberWrong)

/-- 'laws.FnExactCountMembersBelow': WHATEVER THE INPUT: true; the input reads as it did. -/
def fnExactCountMembersBelowSpec : ChangeSpec := { name := "fnExactCountMembersBelow", fn := fun _ => fun
  | [d1, d2, d3] => { results := [.lit (.bool true)], args := [d1, d2, d3] }
  | _ => none }
def fnExactCountMembersBelowRow : OpenClaim := { program := "ytonanelghnjhpaa", sum := "b29ca563bd27692e8bc3053a0a904adc8086a903aa5cb67b058b76039e83e0bd", func := "loop.example/g00855/laws.FnExactCountMembersBelow", spec := "fnExactCountMembersBelow", recurses := true, apart := false }
def FnExactCountMembersBelowSaid : Prop := fnExactCountMembersBelowRow.holds Try.pinned (OpenSpec.ofChange fnExactCountMembersBelowSpec)

/-- ITS FALSE NEIGHBOUR: 'it returns false'. Refute it at one input. -/
def fnExactCountMembersBelowWrong : ChangeSpec := { name := "fnExactCountMembersBelow", fn := fun _ => fun
  | [d1, d2, d3] => { results := [.lit (.bool false)], args := [d1, d2, d3] }
  | _ => none }
def FnExactCountMembersBelowWrongFalsely : Prop := fnExactCountMembersBelowRow.holds Try.pinned (OpenSpec.ofChange fnExactCountMembersBelowWrong)

/-- 'laws.FnExactFirstNonIdentity': WHATEVER THE INPUT: true; the input reads as it did. -/
def fnExactFirstNonIdentitySpec : ChangeSpec := { name := "fnExactFirstNonIdentity", fn := fun _ => fun
  | [d1, d2] => { results := [.lit (.bool true)], args := [d1, d2] }
  | _ => none }
def fnExactFirstNonIdentityRow : OpenClaim := { program := "ytonanelghnjhpaa", sum := "b29ca563bd27692e8bc3053a0a904adc8086a903aa5cb67b058b76039e83e0bd", func := "loop.example/g00855/laws.FnExactFirstNonIdentity", spec := "fnExactFirstNonIdentity", unfollowed := true, recurses := true, apart := false }
def FnExactFirstNonIdentitySaid : Prop := fnExactFirstNonIdentityRow.holds Try.pinned (OpenSpec.ofChange fnExactFirstNonIdentitySpec)

/-- ITS FALSE NEIGHBOUR: 'it returns false'. Refute it at one input. -/
def fnExactFirstNonIdentityWrong : ChangeSpec := { name := "fnExactFirstNonIdentity", fn := fun _ => fun
  | [d1, d2] => { results := [.lit (.bool false)], args := [d1, d2] }
  | _ => none }
def FnExactFirstNonIdentityWrongFalsely : Prop := fnExactFirstNonIdentityRow.holds Try.pinned (OpenSpec.ofChange fnExactFirstNonIdentityWrong)

/-- 'laws.FnExactCountMembersOfType': WHATEVER THE INPUT: true; the input reads as it did. -/
def fnExactCountMembersOfTypeSpec : ChangeSpec := { name := "fnExactCountMembersOfType", fn := fun _ => fun
  | [d1, d2, d3] => { results := [.lit (.bool true)], args := [d1, d2, d3] }
  | _ => none }
def fnExactCountMembersOfTypeRow : OpenClaim := { program := "ytonanelghnjhpaa", sum := "b29ca563bd27692e8bc3053a0a904adc8086a903aa5cb67b058b76039e83e0bd", func := "loop.example/g00855/laws.FnExactCountMembersOfType", spec := "fnExactCountMembersOfType", unfollowed := true, recurses := true, apart := false }
def FnExactCountMembersOfTypeSaid : Prop := fnExactCountMembersOfTypeRow.holds Try.pinned (OpenSpec.ofChange fnExactCountMembersOfTypeSpec)

/-- ITS FALSE NEIGHBOUR: 'it returns false'. Refute it at one input. -/
def fnExactCountMembersOfTypeWrong : ChangeSpec := { name := "fnExactCountMembersOfType", fn := fun _ => fun
  | [d1, d2, d3] => { results := [.lit (.bool false)], args := [d1, d2, d3] }
  | _ => none }
def FnExactCountMembersOfTypeWrongFalsely : Prop := fnExactCountMembersOfTypeRow.holds Try.pinned (OpenSpec.ofChange fnExactCountMembersOfTypeWrong)

/- THE SECOND FORM. 'bulk': how many values and letters a reading holds, each counted each time it is reached (what is shared counts as often as it is met; a slice's spare places count too). A statement '..UptoSaid' is the law's where the arguments, and the package variables that the reading takes, are together of bulk at most 1048576: NARROWER than '..Said'. Prove '..Said' where nothing that the law and all that it calls make is longer than what came in: it says more and counts as full. Else prove '..UptoSaid'. A law counts once. -/
mutual
def uptoBulk {H : Type} : DataW H → Nat
  | .lit (.string bytes) => bytes.length + 1
  | .lit _ => 1
  | .nil => 1
  | .ptr d => uptoBulk d + 1
  | .slice elems spare => uptoBulkAll elems + uptoBulkAll spare + 1
  | .agg parts => uptoBulkAll parts + 1
  | .iface _ d => uptoBulk d + 1
  | .map entries => uptoBulkEntries entries + 1
  | .held _ => 1
def uptoBulkAll {H : Type} : List (DataW H) → Nat
  | [] => 0
  | d :: r => uptoBulk d + uptoBulkAll r
def uptoBulkEntries {H : Type} : List (Lit × DataW H) → Nat
  | [] => 0
  | x :: r => uptoBulkEntry x + uptoBulkEntries r
def uptoBulkEntry {H : Type} : Lit × DataW H → Nat
  | (.string bytes, d) => bytes.length + uptoBulk d + 1
  | (_, d) => uptoBulk d + 1
 end
def uptoSmall : (H : Type) → List (DataW H) → Bool := fun _ ds => decide (uptoBulkAll ds ≤ 1048576)
def OpenSpec.upto (s : _root_.Go.ChangeSpec) : _root_.Go.OpenSpec := { _root_.Go.OpenSpec.ofChange s with cond := some uptoSmall }

/-- 'laws.FnChainOrder', WHERE WHAT IT READS IS OF BULK AT MOST 1048576: true; the input reads as it did. -/
def fnChainOrderUptoRow : OpenClaim := { program := "ytonanelghnjhpaa", sum := "b29ca563bd27692e8bc3053a0a904adc8086a903aa5cb67b058b76039e83e0bd", func := "loop.example/g00855/laws.FnChainOrder", spec := "fnChainOrder", unfollowed := true, recurses := true, apart := false, narrowed := true }
def FnChainOrderUptoSaid : Prop := fnChainOrderUptoRow.holds Try.pinned (OpenSpec.upto fnChainOrderSpec)

/-- 'laws.FnRanks', WHERE WHAT IT READS IS OF BULK AT MOST 1048576: true; the input reads as it did. -/
def fnRanksUptoRow : OpenClaim := { program := "ytonanelghnjhpaa", sum := "b29ca563bd27692e8bc3053a0a904adc8086a903aa5cb67b058b76039e83e0bd", func := "loop.example/g00855/laws.FnRanks", spec := "fnRanks", unfollowed := true, recurses := true, apart := false, narrowed := true }
def FnRanksUptoSaid : Prop := fnRanksUptoRow.holds Try.pinned (OpenSpec.upto fnRanksSpec)

/-- 'laws.FnRandomMembers', WHERE WHAT IT READS IS OF BULK AT MOST 1048576: true; the input reads as it did. -/
def fnRandomMembersUptoRow : OpenClaim := { program := "ytonanelghnjhpaa", sum := "b29ca563bd27692e8bc3053a0a904adc8086a903aa5cb67b058b76039e83e0bd", func := "loop.example/g00855/laws.FnRandomMembers", spec := "fnRandomMembers", unfollowed := true, recurses := true, apart := false, narrowed := true }
def FnRandomMembersUptoSaid : Prop := fnRandomMembersUptoRow.holds Try.pinned (OpenSpec.upto fnRandomMembersSpec)

/-- 'laws.FnTypeCounts', WHERE WHAT IT READS IS OF BULK AT MOST 1048576: true; the input reads as it did. -/
def fnTypeCountsUptoRow : OpenClaim := { program := "ytonanelghnjhpaa", sum := "b29ca563bd27692e8bc3053a0a904adc8086a903aa5cb67b058b76039e83e0bd", func := "loop.example/g00855/laws.FnTypeCounts", spec := "fnTypeCounts", unfollowed := true, recurses := true, apart := false, narrowed := true }
def FnTypeCountsUptoSaid : Prop := fnTypeCountsUptoRow.holds Try.pinned (OpenSpec.upto fnTypeCountsSpec)

/-- 'laws.FnExactMemberAt', WHERE WHAT IT READS IS OF BULK AT MOST 1048576: true; the input reads as it did. -/
def fnExactMemberAtUptoRow : OpenClaim := { program := "ytonanelghnjhpaa", sum := "b29ca563bd27692e8bc3053a0a904adc8086a903aa5cb67b058b76039e83e0bd", func := "loop.example/g00855/laws.FnExactMemberAt", spec := "fnExactMemberAt", unfollowed := true, recurses := true, apart := false, narrowed := true }
def FnExactMemberAtUptoSaid : Prop := fnExactMemberAtUptoRow.holds Try.pinned (OpenSpec.upto fnExactMemberAtSpec)

/-- 'laws.FnExactRank', WHERE WHAT IT READS IS OF BULK AT MOST 1048576: true; the input reads as it did. -/
def fnExactRankUptoRow : OpenClaim := { program := "ytonanelghnjhpaa", sum := "b29ca563bd27692e8bc3053a0a904adc8086a903aa5cb67b058b76039e83e0bd", func := "loop.example/g00855/laws.FnExactRank", spec := "fnExactRank", recurses := true, apart := false, narrowed := true }
def FnExactRankUptoSaid : Prop := fnExactRankUptoRow.holds Try.pinned (OpenSpec.upto fnExactRankSpec)

/-- 'laws.FnExactNextMember', WHERE WHAT IT READS IS OF BULK AT MOST 1048576: true; the input reads as it did. -/
def fnExactNextMemberUptoRow : OpenClaim := { program := "ytonanelghnjhpaa", sum := "b29ca563bd27692e8bc3053a0a904adc8086a903aa5cb67b058b76039e83e0bd", func := "loop.example/g00855/laws.FnExactNextMember", spec := "fnExactNextMember", unfollowed := true, recurses := true, apart := false, narrowed := true }
def FnExactNextMemberUptoSaid : Prop := fnExactNextMemberUptoRow.holds Try.pinned (OpenSpec.upto fnExactNextMemberSpec)

/-- 'laws.FnExactMembers', WHERE WHAT IT READS IS OF BULK AT MOST 1048576: true; the input reads as it did. -/
def fnExactMembersUptoRow : OpenClaim := { program := "ytonanelghnjhpaa", sum := "b29ca563bd27692e8bc3053a0a904adc8086a903aa5cb67b058b76039e83e0bd", func := "loop.example/g00855/laws.FnExactMembers", spec := "fnExactMembers", unfollowed := true, recurses := true, apart := false, narrowed := true }
def FnExactMembersUptoSaid : Prop := fnExactMembersUptoRow.holds Try.pinned (OpenSpec.upto fnExactMembersSpec)

/-- 'laws.FnExactRandomMember', WHERE WHAT IT READS IS OF BULK AT MOST 1048576: true; the input reads as it did. -/
def fnExactRandomMemberUptoRow : OpenClaim := { program := "ytonanelghnjhpaa", sum := "b29ca563bd27692e8bc3053a0a904adc8086a903aa5cb67b058b76039e83e0bd", func := "loop.example/g00855/laws.FnExactRandomMember", spec := "fnExactRandomMember", unfollowed := true, recurses := true, apart := false, narrowed := true }
def FnExactRandomMemberUptoSaid : Prop := fnExactRandomMemberUptoRow.holds Try.pinned (OpenSpec.upto fnExactRandomMemberSpec)

/-- 'laws.FnExactCountMembersBelow', WHERE WHAT IT READS IS OF BULK AT MOST 1048576: true; the input reads as it did. -/
def fnExactCountMembersBelowUptoRow : OpenClaim := { program := "ytonanelghnjhpaa", sum := "b29ca563bd27692e8bc3053a0a904adc8086a903aa5cb67b058b76039e83e0bd", func := "loop.example/g00855/laws.FnExactCountMembersBelow", spec := "fnExactCountMembersBelow", recurses := true, apart := false, narrowed := true }
def FnExactCountMembersBelowUptoSaid : Prop := fnExactCountMembersBelowUptoRow.holds Try.pinned (OpenSpec.upto fnExactCountMembersBelowSpec)

/-- 'laws.FnExactFirstNonIdentity', WHERE WHAT IT READS IS OF BULK AT MOST 1048576: true; the input reads as it did. -/
def fnExactFirstNonIdentityUptoRow : OpenClaim := { program := "ytonanelghnjhpaa", sum := "b29ca563bd27692e8bc3053a0a904adc8086a903aa5cb67b058b76039e83e0bd", func := "loop.example/g00855/laws.FnExactFirstNonIdentity", spec := "fnExactFirstNonIdentity", unfollowed := true, recurses := true, apart := false, narrowed := true }
def FnExactFirstNonIdentityUptoSaid : Prop := fnExactFirstNonIdentityUptoRow.holds Try.pinned (OpenSpec.upto fnExactFirstNonIdentitySpec)

/-- 'laws.FnExactCountMembersOfType', WHERE WHAT IT READS IS OF BULK AT MOST 1048576: true; the input reads as it did. -/
def fnExactCountMembersOfTypeUptoRow : OpenClaim := { program := "ytonanelghnjhpaa", sum := "b29ca563bd27692e8bc3053a0a904adc8086a903aa5cb67b058b76039e83e0bd", func := "loop.example/g00855/laws.FnExactCountMembersOfType", spec := "fnExactCountMembersOfType", unfollowed := true, recurses := true, apart := false, narrowed := true }
def FnExactCountMembersOfTypeUptoSaid : Prop := fnExactCountMembersOfTypeUptoRow.holds Try.pinned (OpenSpec.upto fnExactCountMembersOfTypeSpec)

end Rows
end Go.Proofs.Ytonanelghnjhpaa
