/-
  No cell of these rows narrows 'for every input' (looked for: loops, veiled, ifaces, maps, wideKeys, modest, calm, conditions, laid).
  DERIVED. THE GIVEN ROWS OF THIS SEAT. 12 by the template 'for every input the law returns true; each argument reads behind the call as it read before'; 0 by the template 'total and deterministic' (their statements: YtcjcmhoalomjfaaTotals.lean).
  GIVEN WITH THE SEED: the statements are not yours to turn. If you find one false, say at which input.
  Laid BY PROGRAM, IN A SANDBOX (cutbox-rows.mjs): the forced cells as the released guide's own fill.sh prints them over the translation c59b74bc2acf4351… (all of the seat's roots in one cut). By AI agents, Wed Nov 11 2026. No macro, syntax, notation, axiom, sorry.
-/
import Derived.Test.YtcjcmhoalomjfaaChecked
import GoSem.Claim
import GoSem.ClaimJoined
import GoSem.ClaimMapViews
import Derived.JoinedTies
import Derived.KernelRfl
namespace Go.Proofs.Ytcjcmhoalomjfaa
/- THE CELL 'sum', in the pinned program and in every row, IS THE sha256 OF THE DUMP (.gsa) THAT YtcjcmhoalomjfaaProg.lean LOADS. Nothing in Lean hashes anything: it is a label: what it is worth is what the hold of that sum in a sandbox is worth. -/
noncomputable def Try.pinned : Pinned := { name := "ytcjcmhoalomjfaa", sum := "c59b74bc2acf43516eb4a5dec196826bc1fda8f8d7a0d5b49cb0dbf5411d67ab", checked := Try.checked }
namespace Rows
def none {H : Type} : Left H := { results := [], args := [] }

/-- 'laws.FnLagrange': WHATEVER THE INPUT: true; the input reads as it did. -/
def fnLagrangeSpec : ChangeSpec := { name := "fnLagrange", fn := fun _ => fun
  | [d] => { results := [.lit (.bool true)], args := [d] }
  | _ => none }
def fnLagrangeRow : OpenClaim := { program := "ytcjcmhoalomjfaa", sum := "c59b74bc2acf43516eb4a5dec196826bc1fda8f8d7a0d5b49cb0dbf5411d67ab", func := "loop.example/g00855/laws.FnLagrange", spec := "fnLagrange", unfollowed := true, recurses := true, plainKeys := false, apart := false }
def FnLagrangeSaid : Prop := fnLagrangeRow.holds Try.pinned (OpenSpec.ofChange fnLagrangeSpec)

/-- ITS FALSE NEIGHBOUR: 'it returns false'. Refute it at one input. -/
def fnLagrangeWrong : ChangeSpec := { name := "fnLagrange", fn := fun _ => fun
  | [d] => { results := [.lit (.bool false)], args := [d] }
  | _ => none }
def FnLagrangeWrongFalsely : Prop := fnLagrangeRow.holds Try.pinned (OpenSpec.ofChange fnLagrangeWrong)

/-- 'laws.FnCosets': WHATEVER THE INPUT: true; the input reads as it did. -/
def fnCosetsSpec : ChangeSpec := { name := "fnCosets", fn := fun _ => fun
  | [d] => { results := [.lit (.bool true)], args := [d] }
  | _ => none }
def fnCosetsRow : OpenClaim := { program := "ytcjcmhoalomjfaa", sum := "c59b74bc2acf43516eb4a5dec196826bc1fda8f8d7a0d5b49cb0dbf5411d67ab", func := "loop.example/g00855/laws.FnCosets", spec := "fnCosets", recurses := true, plainKeys := false, apart := false }
def FnCosetsSaid : Prop := fnCosetsRow.holds Try.pinned (OpenSpec.ofChange fnCosetsSpec)

/-- ITS FALSE NEIGHBOUR: 'it returns false'. Refute it at one input. -/
def fnCosetsWrong : ChangeSpec := { name := "fnCosets", fn := fun _ => fun
  | [d] => { results := [.lit (.bool false)], args := [d] }
  | _ => none }
def FnCosetsWrongFalsely : Prop := fnCosetsRow.holds Try.pinned (OpenSpec.ofChange fnCosetsWrong)

/-- 'laws.FnNormality': WHATEVER THE INPUT: true; the input reads as it did. -/
def fnNormalitySpec : ChangeSpec := { name := "fnNormality", fn := fun _ => fun
  | [d] => { results := [.lit (.bool true)], args := [d] }
  | _ => none }
def fnNormalityRow : OpenClaim := { program := "ytcjcmhoalomjfaa", sum := "c59b74bc2acf43516eb4a5dec196826bc1fda8f8d7a0d5b49cb0dbf5411d67ab", func := "loop.example/g00855/laws.FnNormality", spec := "fnNormality", unfollowed := true, recurses := true, plainKeys := false, apart := false }
def FnNormalitySaid : Prop := fnNormalityRow.holds Try.pinned (OpenSpec.ofChange fnNormalitySpec)

/-- ITS FALSE NEIGHBOUR: 'it returns false'. Refute it at one input. -/
def fnNormalityWrong : ChangeSpec := { name := "fnNormality", fn := fun _ => fun
  | [d] => { results := [.lit (.bool false)], args := [d] }
  | _ => none }
def FnNormalityWrongFalsely : Prop := fnNormalityRow.holds Try.pinned (OpenSpec.ofChange fnNormalityWrong)

/-- 'laws.FnExactIsSubgroup': WHATEVER THE INPUT: true; the input reads as it did. -/
def fnExactIsSubgroupSpec : ChangeSpec := { name := "fnExactIsSubgroup", fn := fun _ => fun
  | [d1, d2, d3] => { results := [.lit (.bool true)], args := [d1, d2, d3] }
  | _ => none }
def fnExactIsSubgroupRow : OpenClaim := { program := "ytcjcmhoalomjfaa", sum := "c59b74bc2acf43516eb4a5dec196826bc1fda8f8d7a0d5b49cb0dbf5411d67ab", func := "loop.example/g00855/laws.FnExactIsSubgroup", spec := "fnExactIsSubgroup", recurses := true, plainKeys := false, apart := false }
def FnExactIsSubgroupSaid : Prop := fnExactIsSubgroupRow.holds Try.pinned (OpenSpec.ofChange fnExactIsSubgroupSpec)

/-- ITS FALSE NEIGHBOUR: 'it returns false'. Refute it at one input. -/
def fnExactIsSubgroupWrong : ChangeSpec := { name := "fnExactIsSubgroup", fn := fun _ => fun
  | [d1, d2, d3] => { results := [.lit (.bool false)], args := [d1, d2, d3] }
  | _ => none }
def FnExactIsSubgroupWrongFalsely : Prop := fnExactIsSubgroupRow.holds Try.pinned (OpenSpec.ofChange fnExactIsSubgroupWrong)

/-- 'laws.FnExactSubgroupIndex': WHATEVER THE INPUT: true; the input reads as it did. -/
def fnExactSubgroupIndexSpec : ChangeSpec := { name := "fnExactSubgroupIndex", fn := fun _ => fun
  | [d1, d2, d3] => { results := [.lit (.bool true)], args := [d1, d2, d3] }
  | _ => none }
def fnExactSubgroupIndexRow : OpenClaim := { program := "ytcjcmhoalomjfaa", sum := "c59b74bc2acf43516eb4a5dec196826bc1fda8f8d7a0d5b49cb0dbf5411d67ab", func := "loop.example/g00855/laws.FnExactSubgroupIndex", spec := "fnExactSubgroupIndex", recurses := true, plainKeys := false, apart := false }
def FnExactSubgroupIndexSaid : Prop := fnExactSubgroupIndexRow.holds Try.pinned (OpenSpec.ofChange fnExactSubgroupIndexSpec)

/-- ITS FALSE NEIGHBOUR: 'it returns false'. Refute it at one input. -/
def fnExactSubgroupIndexWrong : ChangeSpec := { name := "fnExactSubgroupIndex", fn := fun _ => fun
  | [d1, d2, d3] => { results := [.lit (.bool false)], args := [d1, d2, d3] }
  | _ => none }
def FnExactSubgroupIndexWrongFalsely : Prop := fnExactSubgroupIndexRow.holds Try.pinned (OpenSpec.ofChange fnExactSubgroupIndexWrong)

/-- 'laws.FnExactSameCoset': WHATEVER THE INPUT: true; the input reads as it did. -/
def fnExactSameCosetSpec : ChangeSpec := { name := "fnExactSameCoset", fn := fun _ => fun
  | [d1, d2, d3, d4] => { results := [.lit (.bool true)], args := [d1, d2, d3, d4] }
  | _ => none }
def fnExactSameCosetRow : OpenClaim := { program := "ytcjcmhoalomjfaa", sum := "c59b74bc2acf43516eb4a5dec196826bc1fda8f8d7a0d5b49cb0dbf5411d67ab", func := "loop.example/g00855/laws.FnExactSameCoset", spec := "fnExactSameCoset", recurses := true, plainKeys := false, apart := false }
def FnExactSameCosetSaid : Prop := fnExactSameCosetRow.holds Try.pinned (OpenSpec.ofChange fnExactSameCosetSpec)

/-- ITS FALSE NEIGHBOUR: 'it returns false'. Refute it at one input. -/
def fnExactSameCosetWrong : ChangeSpec := { name := "fnExactSameCoset", fn := fun _ => fun
  | [d1, d2, d3, d4] => { results := [.lit (.bool false)], args := [d1, d2, d3, d4] }
  | _ => none }
def FnExactSameCosetWrongFalsely : Prop := fnExactSameCosetRow.holds Try.pinned (OpenSpec.ofChange fnExactSameCosetWrong)

/-- 'laws.FnExactCosetMinimum': WHATEVER THE INPUT: true; the input reads as it did. -/
def fnExactCosetMinimumSpec : ChangeSpec := { name := "fnExactCosetMinimum", fn := fun _ => fun
  | [d1, d2, d3] => { results := [.lit (.bool true)], args := [d1, d2, d3] }
  | _ => none }
def fnExactCosetMinimumRow : OpenClaim := { program := "ytcjcmhoalomjfaa", sum := "c59b74bc2acf43516eb4a5dec196826bc1fda8f8d7a0d5b49cb0dbf5411d67ab", func := "loop.example/g00855/laws.FnExactCosetMinimum", spec := "fnExactCosetMinimum", recurses := true, plainKeys := false, apart := false }
def FnExactCosetMinimumSaid : Prop := fnExactCosetMinimumRow.holds Try.pinned (OpenSpec.ofChange fnExactCosetMinimumSpec)

/-- ITS FALSE NEIGHBOUR: 'it returns false'. Refute it at one input. -/
def fnExactCosetMinimumWrong : ChangeSpec := { name := "fnExactCosetMinimum", fn := fun _ => fun
  | [d1, d2, d3] => { results := [.lit (.bool false)], args := [d1, d2, d3] }
  | _ => none }
def FnExactCosetMinimumWrongFalsely : Prop := fnExactCosetMinimumRow.holds Try.pinned (OpenSpec.ofChange fnExactCosetMinimumWrong)

/-- 'laws.FnExactCosetRepresentatives': WHATEVER THE INPUT: true; the input reads as it did. -/
def fnExactCosetRepresentativesSpec : ChangeSpec := { name := "fnExactCosetRepresentatives", fn := fun _ => fun
  | [d1, d2, d3] => { results := [.lit (.bool true)], args := [d1, d2, d3] }
  | _ => none }
def fnExactCosetRepresentativesRow : OpenClaim := { program := "ytcjcmhoalomjfaa", sum := "c59b74bc2acf43516eb4a5dec196826bc1fda8f8d7a0d5b49cb0dbf5411d67ab", func := "loop.example/g00855/laws.FnExactCosetRepresentatives", spec := "fnExactCosetRepresentatives", unfollowed := true, recurses := true, plainKeys := false, apart := false }
def FnExactCosetRepresentativesSaid : Prop := fnExactCosetRepresentativesRow.holds Try.pinned (OpenSpec.ofChange fnExactCosetRepresentativesSpec)

/-- ITS FALSE NEIGHBOUR: 'it returns false'. Refute it at one input. -/
def fnExactCosetRepresentativesWrong : ChangeSpec := { name := "fnExactCosetRepresentatives", fn := fun _ => fun
  | [d1, d2, d3] => { results := [.lit (.bool false)], args := [d1, d2, d3] }
  | _ => none }
def FnExactCosetRepresentativesWrongFalsely : Prop := fnExactCosetRepresentativesRow.holds Try.pinned (OpenSpec.ofChange fnExactCosetRepresentativesWrong)

/-- 'laws.FnExactIsNormalSubgroup': WHATEVER THE INPUT: true; the input reads as it did. -/
def fnExactIsNormalSubgroupSpec : ChangeSpec := { name := "fnExactIsNormalSubgroup", fn := fun _ => fun
  | [d1, d2, d3] => { results := [.lit (.bool true)], args := [d1, d2, d3] }
  | _ => none }
def fnExactIsNormalSubgroupRow : OpenClaim := { program := "ytcjcmhoalomjfaa", sum := "c59b74bc2acf43516eb4a5dec196826bc1fda8f8d7a0d5b49cb0dbf5411d67ab", func := "loop.example/g00855/laws.FnExactIsNormalSubgroup", spec := "fnExactIsNormalSubgroup", recurses := true, plainKeys := false, apart := false }
def FnExactIsNormalSubgroupSaid : Prop := fnExactIsNormalSubgroupRow.holds Try.pinned (OpenSpec.ofChange fnExactIsNormalSubgroupSpec)

/-- ITS FALSE NEIGHBOUR: 'it returns false'. Refute it at one input. -/
def fnExactIsNormalSubgroupWrong : ChangeSpec := { name := "fnExactIsNormalSubgroup", fn := fun _ => fun
  | [d1, d2, d3] => { results := [.lit (.bool false)], args := [d1, d2, d3] }
  | _ => none }
def FnExactIsNormalSubgroupWrongFalsely : Prop := fnExactIsNormalSubgroupRow.holds Try.pinned (OpenSpec.ofChange fnExactIsNormalSubgroupWrong)

/-- 'laws.FnExactIsAbelian': WHATEVER THE INPUT: true; the input reads as it did. -/
def fnExactIsAbelianSpec : ChangeSpec := { name := "fnExactIsAbelian", fn := fun _ => fun
  | [d1, d2] => { results := [.lit (.bool true)], args := [d1, d2] }
  | _ => none }
def fnExactIsAbelianRow : OpenClaim := { program := "ytcjcmhoalomjfaa", sum := "c59b74bc2acf43516eb4a5dec196826bc1fda8f8d7a0d5b49cb0dbf5411d67ab", func := "loop.example/g00855/laws.FnExactIsAbelian", spec := "fnExactIsAbelian", plainKeys := false, apart := false }
def FnExactIsAbelianSaid : Prop := fnExactIsAbelianRow.holds Try.pinned (OpenSpec.ofChange fnExactIsAbelianSpec)

/-- ITS FALSE NEIGHBOUR: 'it returns false'. Refute it at one input. -/
def fnExactIsAbelianWrong : ChangeSpec := { name := "fnExactIsAbelian", fn := fun _ => fun
  | [d1, d2] => { results := [.lit (.bool false)], args := [d1, d2] }
  | _ => none }
def FnExactIsAbelianWrongFalsely : Prop := fnExactIsAbelianRow.holds Try.pinned (OpenSpec.ofChange fnExactIsAbelianWrong)

/-- 'laws.FnExactCenterOrder': WHATEVER THE INPUT: true; the input reads as it did. -/
def fnExactCenterOrderSpec : ChangeSpec := { name := "fnExactCenterOrder", fn := fun _ => fun
  | [d1, d2] => { results := [.lit (.bool true)], args := [d1, d2] }
  | _ => none }
def fnExactCenterOrderRow : OpenClaim := { program := "ytcjcmhoalomjfaa", sum := "c59b74bc2acf43516eb4a5dec196826bc1fda8f8d7a0d5b49cb0dbf5411d67ab", func := "loop.example/g00855/laws.FnExactCenterOrder", spec := "fnExactCenterOrder", unfollowed := true, recurses := true, plainKeys := false, apart := false }
def FnExactCenterOrderSaid : Prop := fnExactCenterOrderRow.holds Try.pinned (OpenSpec.ofChange fnExactCenterOrderSpec)

/-- ITS FALSE NEIGHBOUR: 'it returns false'. Refute it at one input. -/
def fnExactCenterOrderWrong : ChangeSpec := { name := "fnExactCenterOrder", fn := fun _ => fun
  | [d1, d2] => { results := [.lit (.bool false)], args := [d1, d2] }
  | _ => none }
def FnExactCenterOrderWrongFalsely : Prop := fnExactCenterOrderRow.holds Try.pinned (OpenSpec.ofChange fnExactCenterOrderWrong)

/-- 'laws.FnExactDerivedSubgroupOrder': WHATEVER THE INPUT: true; the input reads as it did. -/
def fnExactDerivedSubgroupOrderSpec : ChangeSpec := { name := "fnExactDerivedSubgroupOrder", fn := fun _ => fun
  | [d1, d2] => { results := [.lit (.bool true)], args := [d1, d2] }
  | _ => none }
def fnExactDerivedSubgroupOrderRow : OpenClaim := { program := "ytcjcmhoalomjfaa", sum := "c59b74bc2acf43516eb4a5dec196826bc1fda8f8d7a0d5b49cb0dbf5411d67ab", func := "loop.example/g00855/laws.FnExactDerivedSubgroupOrder", spec := "fnExactDerivedSubgroupOrder", recurses := true, plainKeys := false, apart := false }
def FnExactDerivedSubgroupOrderSaid : Prop := fnExactDerivedSubgroupOrderRow.holds Try.pinned (OpenSpec.ofChange fnExactDerivedSubgroupOrderSpec)

/-- ITS FALSE NEIGHBOUR: 'it returns false'. Refute it at one input. -/
def fnExactDerivedSubgroupOrderWrong : ChangeSpec := { name := "fnExactDerivedSubgroupOrder", fn := fun _ => fun
  | [d1, d2] => { results := [.lit (.bool false)], args := [d1, d2] }
  | _ => none }
def FnExactDerivedSubgroupOrderWrongFalsely : Prop := fnExactDerivedSubgroupOrderRow.holds Try.pinned (OpenSpec.ofChange fnExactDerivedSubgroupOrderWrong)

/- THE SECOND FORM. 'bulk': how many values and letters a reading holds, each counted each time it is reached (what is shared counts as often as it is met; a slice's spare places count too). A statement '..UptoSaid' is the law's where the arguments, and the package variables that the reading takes, are together of bulk at most 1048576: NARROWER than '..Said'. Prove '..Said' where nothing that the law and all that it calls make is longer than what came in: it says more and counts as full. Else prove '..UptoSaid'. A law counts once. -/
mutual
def uptoBulk {H : Type} : DataW H → Nat
  | .lit (.string bytes) => bytes.length + 1
  | .lit _ => 1
  | .nil => 1
  | .ptr d => uptoBulk d + 1
  | .slice elems spare => uptoBulkAll elems + uptoBulkAll spare + 1
  | .agg parts => uptoBulkAll parts + 1
  | .iface _ d => uptoBulk d + 1
  | .map entries => uptoBulkEntries entries + 1
  | .held _ => 1
def uptoBulkAll {H : Type} : List (DataW H) → Nat
  | [] => 0
  | d :: r => uptoBulk d + uptoBulkAll r
def uptoBulkEntries {H : Type} : List (Lit × DataW H) → Nat
  | [] => 0
  | x :: r => uptoBulkEntry x + uptoBulkEntries r
def uptoBulkEntry {H : Type} : Lit × DataW H → Nat
  | (.string bytes, d) => bytes.length + uptoBulk d + 1
  | (_, d) => uptoBulk d + 1
 end
def uptoSmall : (H : Type) → List (DataW H) → Bool := fun _ ds => decide (uptoBulkAll ds ≤ 1048576)
def OpenSpec.upto (s : _root_.Go.ChangeSpec) : _root_.Go.OpenSpec := { _root_.Go.OpenSpec.ofChange s with cond := some uptoSmall }

/-- 'laws.FnLagrange', WHERE WHAT IT READS IS OF BULK AT MOST 1048576: true; the input reads as it did. -/
def fnLagrangeUptoRow : OpenClaim := { program := "ytcjcmhoalomjfaa", sum := "c59b74bc2acf43516eb4a5dec196826bc1fda8f8d7a0d5b49cb0dbf5411d67ab", func := "loop.example/g00855/laws.FnLagrange", spec := "fnLagrange", unfollowed := true, recurses := true, plainKeys := false, apart := false, narrowed := true }
def FnLagrangeUptoSaid : Prop := fnLagrangeUptoRow.holds Try.pinned (OpenSpec.upto fnLagrangeSpec)

/-- 'laws.FnCosets', WHERE WHAT IT READS IS OF BULK AT MOST 1048576: true; the input reads as it did. -/
def fnCosetsUptoRow : OpenClaim := { program := "ytcjcmhoalomjfaa", sum := "c59b74bc2acf43516eb4a5dec196826bc1fda8f8d7a0d5b49cb0dbf5411d67ab", func := "loop.example/g00855/laws.FnCosets", spec := "fnCosets", recurses := true, plainKeys := false, apart := false, narrowed := true }
def FnCosetsUptoSaid : Prop := fnCosetsUptoRow.holds Try.pinned (OpenSpec.upto fnCosetsSpec)

/-- 'laws.FnNormality', WHERE WHAT IT READS IS OF BULK AT MOST 1048576: true; the input reads as it did. -/
def fnNormalityUptoRow : OpenClaim := { program := "ytcjcmhoalomjfaa", sum := "c59b74bc2acf43516eb4a5dec196826bc1fda8f8d7a0d5b49cb0dbf5411d67ab", func := "loop.example/g00855/laws.FnNormality", spec := "fnNormality", unfollowed := true, recurses := true, plainKeys := false, apart := false, narrowed := true }
def FnNormalityUptoSaid : Prop := fnNormalityUptoRow.holds Try.pinned (OpenSpec.upto fnNormalitySpec)

/-- 'laws.FnExactIsSubgroup', WHERE WHAT IT READS IS OF BULK AT MOST 1048576: true; the input reads as it did. -/
def fnExactIsSubgroupUptoRow : OpenClaim := { program := "ytcjcmhoalomjfaa", sum := "c59b74bc2acf43516eb4a5dec196826bc1fda8f8d7a0d5b49cb0dbf5411d67ab", func := "loop.example/g00855/laws.FnExactIsSubgroup", spec := "fnExactIsSubgroup", recurses := true, plainKeys := false, apart := false, narrowed := true }
def FnExactIsSubgroupUptoSaid : Prop := fnExactIsSubgroupUptoRow.holds Try.pinned (OpenSpec.upto fnExactIsSubgroupSpec)

/-- 'laws.FnExactSubgroupIndex', WHERE WHAT IT READS IS OF BULK AT MOST 1048576: true; the input reads as it did. -/
def fnExactSubgroupIndexUptoRow : OpenClaim := { program := "ytcjcmhoalomjfaa", sum := "c59b74bc2acf43516eb4a5dec196826bc1fda8f8d7a0d5b49cb0dbf5411d67ab", func := "loop.example/g00855/laws.FnExactSubgroupIndex", spec := "fnExactSubgroupIndex", recurses := true, plainKeys := false, apart := false, narrowed := true }
def FnExactSubgroupIndexUptoSaid : Prop := fnExactSubgroupIndexUptoRow.holds Try.pinned (OpenSpec.upto fnExactSubgroupIndexSpec)

/-- 'laws.FnExactSameCoset', WHERE WHAT IT READS IS OF BULK AT MOST 1048576: true; the input reads as it did. -/
def fnExactSameCosetUptoRow : OpenClaim := { program := "ytcjcmhoalomjfaa", sum := "c59b74bc2acf43516eb4a5dec196826bc1fda8f8d7a0d5b49cb0dbf5411d67ab", func := "loop.example/g00855/laws.FnExactSameCoset", spec := "fnExactSameCoset", recurses := true, plainKeys := false, apart := false, narrowed := true }
def FnExactSameCosetUptoSaid : Prop := fnExactSameCosetUptoRow.holds Try.pinned (OpenSpec.upto fnExactSameCosetSpec)

/-- 'laws.FnExactCosetMinimum', WHERE WHAT IT READS IS OF BULK AT MOST 1048576: true; the input reads as it did. -/
def fnExactCosetMinimumUptoRow : OpenClaim := { program := "ytcjcmhoalomjfaa", sum := "c59b74bc2acf43516eb4a5dec196826bc1fda8f8d7a0d5b49cb0dbf5411d67ab", func := "loop.example/g00855/laws.FnExactCosetMinimum", spec := "fnExactCosetMinimum", recurses := true, plainKeys := false, apart := false, narrowed := true }
def FnExactCosetMinimumUptoSaid : Prop := fnExactCosetMinimumUptoRow.holds Try.pinned (OpenSpec.upto fnExactCosetMinimumSpec)

/-- 'laws.FnExactCosetRepresentatives', WHERE WHAT IT READS IS OF BULK AT MOST 1048576: true; the input reads as it did. -/
def fnExactCosetRepresentativesUptoRow : OpenClaim := { program := "ytcjcmhoalomjfaa", sum := "c59b74bc2acf43516eb4a5dec196826bc1fda8f8d7a0d5b49cb0dbf5411d67ab", func := "loop.example/g00855/laws.FnExactCosetRepresentatives", spec := "fnExactCosetRepresentatives", unfollowed := true, recurses := true, plainKeys := false, apart := false, narrowed := true }
def FnExactCosetRepresentativesUptoSaid : Prop := fnExactCosetRepresentativesUptoRow.holds Try.pinned (OpenSpec.upto fnExactCosetRepresentativesSpec)

/-- 'laws.FnExactIsNormalSubgroup', WHERE WHAT IT READS IS OF BULK AT MOST 1048576: true; the input reads as it did. -/
def fnExactIsNormalSubgroupUptoRow : OpenClaim := { program := "ytcjcmhoalomjfaa", sum := "c59b74bc2acf43516eb4a5dec196826bc1fda8f8d7a0d5b49cb0dbf5411d67ab", func := "loop.example/g00855/laws.FnExactIsNormalSubgroup", spec := "fnExactIsNormalSubgroup", recurses := true, plainKeys := false, apart := false, narrowed := true }
def FnExactIsNormalSubgroupUptoSaid : Prop := fnExactIsNormalSubgroupUptoRow.holds Try.pinned (OpenSpec.upto fnExactIsNormalSubgroupSpec)

/-- 'laws.FnExactIsAbelian', WHERE WHAT IT READS IS OF BULK AT MOST 1048576: true; the input reads as it did. -/
def fnExactIsAbelianUptoRow : OpenClaim := { program := "ytcjcmhoalomjfaa", sum := "c59b74bc2acf43516eb4a5dec196826bc1fda8f8d7a0d5b49cb0dbf5411d67ab", func := "loop.example/g00855/laws.FnExactIsAbelian", spec := "fnExactIsAbelian", plainKeys := false, apart := false, narrowed := true }
def FnExactIsAbelianUptoSaid : Prop := fnExactIsAbelianUptoRow.holds Try.pinned (OpenSpec.upto fnExactIsAbelianSpec)

/-- 'laws.FnExactCenterOrder', WHERE WHAT IT READS IS OF BULK AT MOST 1048576: true; the input reads as it did. -/
def fnExactCenterOrderUptoRow : OpenClaim := { program := "ytcjcmhoalomjfaa", sum := "c59b74bc2acf43516eb4a5dec196826bc1fda8f8d7a0d5b49cb0dbf5411d67ab", func := "loop.example/g00855/laws.FnExactCenterOrder", spec := "fnExactCenterOrder", unfollowed := true, recurses := true, plainKeys := false, apart := false, narrowed := true }
def FnExactCenterOrderUptoSaid : Prop := fnExactCenterOrderUptoRow.holds Try.pinned (OpenSpec.upto fnExactCenterOrderSpec)

/-- 'laws.FnExactDerivedSubgroupOrder', WHERE WHAT IT READS IS OF BULK AT MOST 1048576: true; the input reads as it did. -/
def fnExactDerivedSubgroupOrderUptoRow : OpenClaim := { program := "ytcjcmhoalomjfaa", sum := "c59b74bc2acf43516eb4a5dec196826bc1fda8f8d7a0d5b49cb0dbf5411d67ab", func := "loop.example/g00855/laws.FnExactDerivedSubgroupOrder", spec := "fnExactDerivedSubgroupOrder", recurses := true, plainKeys := false, apart := false, narrowed := true }
def FnExactDerivedSubgroupOrderUptoSaid : Prop := fnExactDerivedSubgroupOrderUptoRow.holds Try.pinned (OpenSpec.upto fnExactDerivedSubgroupOrderSpec)

end Rows
end Go.Proofs.Ytcjcmhoalomjfaa
