/-
  No cell of these rows narrows 'for every input' (looked for: loops, veiled, ifaces, maps, wideKeys, modest, calm, conditions, laid).
  DERIVED. THE GIVEN ROWS OF THIS SEAT. 13 by the template 'for every input the law returns true; each argument reads behind the call as it read before'; 0 by the template 'total and deterministic' (their statements: YtopaeojcpidfgaaTotals.lean).
  GIVEN WITH THE SEED: the statements are not yours to turn. If you find one false, say at which input.
  Laid BY PROGRAM, IN A SANDBOX (cutbox-rows.mjs): the forced cells as the released guide's own fill.sh prints them over the translation 3520d3a5417998d3… (all of the seat's roots in one cut). By AI agents, Wed Nov 11 2026. No macro, syntax, notation, axiom, sorry.
-/
import Derived.Test.YtopaeojcpidfgaaChecked
import GoSem.Claim
import GoSem.ClaimJoined
import GoSem.ClaimMapViews
import Derived.JoinedTies
import Derived.KernelRfl
namespace Go.Proofs.Ytopaeojcpidfgaa
/- THE CELL 'sum', in the pinned program and in every row, IS THE sha256 OF THE DUMP (.gsa) THAT YtopaeojcpidfgaaProg.lean LOADS. Nothing in Lean hashes anything: it is a label: what it is worth is what the hold of that sum in a sandbox is worth. -/
noncomputable def Try.pinned : Pinned := { name := "ytopaeojcpidfgaa", sum := "3520d3a5417998d3eb157f8c8c4005fb8c3ccfcc8f2e4a0639c7f6cff3984e3d", checked := Try.checked }
namespace Rows
def none {H : Type} : Left H := { results := [], args := [] }

/-- 'laws.FnGroupAxioms': WHATEVER THE INPUT: true; the input reads as it did. -/
def fnGroupAxiomsSpec : ChangeSpec := { name := "fnGroupAxioms", fn := fun _ => fun
  | [d] => { results := [.lit (.bool true)], args := [d] }
  | _ => none }
def fnGroupAxiomsRow : OpenClaim := { program := "ytopaeojcpidfgaa", sum := "3520d3a5417998d3eb157f8c8c4005fb8c3ccfcc8f2e4a0639c7f6cff3984e3d", func := "loop.example/g00855/laws.FnGroupAxioms", spec := "fnGroupAxioms", apart := false }
def FnGroupAxiomsSaid : Prop := fnGroupAxiomsRow.holds Try.pinned (OpenSpec.ofChange fnGroupAxiomsSpec)

/-- ITS FALSE NEIGHBOUR: 'it returns false'. Refute it at one input. -/
def fnGroupAxiomsWrong : ChangeSpec := { name := "fnGroupAxioms", fn := fun _ => fun
  | [d] => { results := [.lit (.bool false)], args := [d] }
  | _ => none }
def FnGroupAxiomsWrongFalsely : Prop := fnGroupAxiomsRow.holds Try.pinned (OpenSpec.ofChange fnGroupAxiomsWrong)

/-- 'laws.FnPowers': WHATEVER THE INPUT: true; the input reads as it did. -/
def fnPowersSpec : ChangeSpec := { name := "fnPowers", fn := fun _ => fun
  | [d] => { results := [.lit (.bool true)], args := [d] }
  | _ => none }
def fnPowersRow : OpenClaim := { program := "ytopaeojcpidfgaa", sum := "3520d3a5417998d3eb157f8c8c4005fb8c3ccfcc8f2e4a0639c7f6cff3984e3d", func := "loop.example/g00855/laws.FnPowers", spec := "fnPowers", unfollowed := true, recurses := true, apart := false }
def FnPowersSaid : Prop := fnPowersRow.holds Try.pinned (OpenSpec.ofChange fnPowersSpec)

/-- ITS FALSE NEIGHBOUR: 'it returns false'. Refute it at one input. -/
def fnPowersWrong : ChangeSpec := { name := "fnPowers", fn := fun _ => fun
  | [d] => { results := [.lit (.bool false)], args := [d] }
  | _ => none }
def FnPowersWrongFalsely : Prop := fnPowersRow.holds Try.pinned (OpenSpec.ofChange fnPowersWrong)

/-- 'laws.FnCyclesAndSign': WHATEVER THE INPUT: true; the input reads as it did. -/
def fnCyclesAndSignSpec : ChangeSpec := { name := "fnCyclesAndSign", fn := fun _ => fun
  | [d] => { results := [.lit (.bool true)], args := [d] }
  | _ => none }
def fnCyclesAndSignRow : OpenClaim := { program := "ytopaeojcpidfgaa", sum := "3520d3a5417998d3eb157f8c8c4005fb8c3ccfcc8f2e4a0639c7f6cff3984e3d", func := "loop.example/g00855/laws.FnCyclesAndSign", spec := "fnCyclesAndSign", unfollowed := true, recurses := true, apart := false }
def FnCyclesAndSignSaid : Prop := fnCyclesAndSignRow.holds Try.pinned (OpenSpec.ofChange fnCyclesAndSignSpec)

/-- ITS FALSE NEIGHBOUR: 'it returns false'. Refute it at one input. -/
def fnCyclesAndSignWrong : ChangeSpec := { name := "fnCyclesAndSign", fn := fun _ => fun
  | [d] => { results := [.lit (.bool false)], args := [d] }
  | _ => none }
def FnCyclesAndSignWrongFalsely : Prop := fnCyclesAndSignRow.holds Try.pinned (OpenSpec.ofChange fnCyclesAndSignWrong)

/-- 'laws.FnExactIsPermutation': WHATEVER THE INPUT: true; the input reads as it did. -/
def fnExactIsPermutationSpec : ChangeSpec := { name := "fnExactIsPermutation", fn := fun _ => fun
  | [d] => { results := [.lit (.bool true)], args := [d] }
  | _ => none }
def fnExactIsPermutationRow : OpenClaim := { program := "ytopaeojcpidfgaa", sum := "3520d3a5417998d3eb157f8c8c4005fb8c3ccfcc8f2e4a0639c7f6cff3984e3d", func := "loop.example/g00855/laws.FnExactIsPermutation", spec := "fnExactIsPermutation", apart := false }
def FnExactIsPermutationSaid : Prop := fnExactIsPermutationRow.holds Try.pinned (OpenSpec.ofChange fnExactIsPermutationSpec)

/-- ITS FALSE NEIGHBOUR: 'it returns false'. Refute it at one input. -/
def fnExactIsPermutationWrong : ChangeSpec := { name := "fnExactIsPermutation", fn := fun _ => fun
  | [d] => { results := [.lit (.bool false)], args := [d] }
  | _ => none }
def FnExactIsPermutationWrongFalsely : Prop := fnExactIsPermutationRow.holds Try.pinned (OpenSpec.ofChange fnExactIsPermutationWrong)

/-- 'laws.FnExactIdentity': WHATEVER THE INPUT: true; the input reads as it did. -/
def fnExactIdentitySpec : ChangeSpec := { name := "fnExactIdentity", fn := fun _ => fun
  | [d] => { results := [.lit (.bool true)], args := [d] }
  | _ => none }
def fnExactIdentityRow : OpenClaim := { program := "ytopaeojcpidfgaa", sum := "3520d3a5417998d3eb157f8c8c4005fb8c3ccfcc8f2e4a0639c7f6cff3984e3d", func := "loop.example/g00855/laws.FnExactIdentity", spec := "fnExactIdentity", apart := false }
def FnExactIdentitySaid : Prop := fnExactIdentityRow.holds Try.pinned (OpenSpec.ofChange fnExactIdentitySpec)

/-- ITS FALSE NEIGHBOUR: 'it returns false'. Refute it at one input. -/
def fnExactIdentityWrong : ChangeSpec := { name := "fnExactIdentity", fn := fun _ => fun
  | [d] => { results := [.lit (.bool false)], args := [d] }
  | _ => none }
def FnExactIdentityWrongFalsely : Prop := fnExactIdentityRow.holds Try.pinned (OpenSpec.ofChange fnExactIdentityWrong)

/-- 'laws.FnExactCompose': WHATEVER THE INPUT: true; the input reads as it did. -/
def fnExactComposeSpec : ChangeSpec := { name := "fnExactCompose", fn := fun _ => fun
  | [d1, d2] => { results := [.lit (.bool true)], args := [d1, d2] }
  | _ => none }
def fnExactComposeRow : OpenClaim := { program := "ytopaeojcpidfgaa", sum := "3520d3a5417998d3eb157f8c8c4005fb8c3ccfcc8f2e4a0639c7f6cff3984e3d", func := "loop.example/g00855/laws.FnExactCompose", spec := "fnExactCompose", apart := false }
def FnExactComposeSaid : Prop := fnExactComposeRow.holds Try.pinned (OpenSpec.ofChange fnExactComposeSpec)

/-- ITS FALSE NEIGHBOUR: 'it returns false'. Refute it at one input. -/
def fnExactComposeWrong : ChangeSpec := { name := "fnExactCompose", fn := fun _ => fun
  | [d1, d2] => { results := [.lit (.bool false)], args := [d1, d2] }
  | _ => none }
def FnExactComposeWrongFalsely : Prop := fnExactComposeRow.holds Try.pinned (OpenSpec.ofChange fnExactComposeWrong)

/-- 'laws.FnExactInverse': WHATEVER THE INPUT: true; the input reads as it did. -/
def fnExactInverseSpec : ChangeSpec := { name := "fnExactInverse", fn := fun _ => fun
  | [d] => { results := [.lit (.bool true)], args := [d] }
  | _ => none }
def fnExactInverseRow : OpenClaim := { program := "ytopaeojcpidfgaa", sum := "3520d3a5417998d3eb157f8c8c4005fb8c3ccfcc8f2e4a0639c7f6cff3984e3d", func := "loop.example/g00855/laws.FnExactInverse", spec := "fnExactInverse", apart := false }
def FnExactInverseSaid : Prop := fnExactInverseRow.holds Try.pinned (OpenSpec.ofChange fnExactInverseSpec)

/-- ITS FALSE NEIGHBOUR: 'it returns false'. Refute it at one input. -/
def fnExactInverseWrong : ChangeSpec := { name := "fnExactInverse", fn := fun _ => fun
  | [d] => { results := [.lit (.bool false)], args := [d] }
  | _ => none }
def FnExactInverseWrongFalsely : Prop := fnExactInverseRow.holds Try.pinned (OpenSpec.ofChange fnExactInverseWrong)

/-- 'laws.FnExactPower': WHATEVER THE INPUT: true; the input reads as it did. -/
def fnExactPowerSpec : ChangeSpec := { name := "fnExactPower", fn := fun _ => fun
  | [d1, d2] => { results := [.lit (.bool true)], args := [d1, d2] }
  | _ => none }
def fnExactPowerRow : OpenClaim := { program := "ytopaeojcpidfgaa", sum := "3520d3a5417998d3eb157f8c8c4005fb8c3ccfcc8f2e4a0639c7f6cff3984e3d", func := "loop.example/g00855/laws.FnExactPower", spec := "fnExactPower", unfollowed := true, recurses := true, apart := false }
def FnExactPowerSaid : Prop := fnExactPowerRow.holds Try.pinned (OpenSpec.ofChange fnExactPowerSpec)

/-- ITS FALSE NEIGHBOUR: 'it returns false'. Refute it at one input. -/
def fnExactPowerWrong : ChangeSpec := { name := "fnExactPower", fn := fun _ => fun
  | [d1, d2] => { results := [.lit (.bool false)], args := [d1, d2] }
  | _ => none }
def FnExactPowerWrongFalsely : Prop := fnExactPowerRow.holds Try.pinned (OpenSpec.ofChange fnExactPowerWrong)

/-- 'laws.FnExactElementOrder': WHATEVER THE INPUT: true; the input reads as it did. -/
def fnExactElementOrderSpec : ChangeSpec := { name := "fnExactElementOrder", fn := fun _ => fun
  | [d] => { results := [.lit (.bool true)], args := [d] }
  | _ => none }
def fnExactElementOrderRow : OpenClaim := { program := "ytopaeojcpidfgaa", sum := "3520d3a5417998d3eb157f8c8c4005fb8c3ccfcc8f2e4a0639c7f6cff3984e3d", func := "loop.example/g00855/laws.FnExactElementOrder", spec := "fnExactElementOrder", unfollowed := true, recurses := true, apart := false }
def FnExactElementOrderSaid : Prop := fnExactElementOrderRow.holds Try.pinned (OpenSpec.ofChange fnExactElementOrderSpec)

/-- ITS FALSE NEIGHBOUR: 'it returns false'. Refute it at one input. -/
def fnExactElementOrderWrong : ChangeSpec := { name := "fnExactElementOrder", fn := fun _ => fun
  | [d] => { results := [.lit (.bool false)], args := [d] }
  | _ => none }
def FnExactElementOrderWrongFalsely : Prop := fnExactElementOrderRow.holds Try.pinned (OpenSpec.ofChange fnExactElementOrderWrong)

/-- 'laws.FnExactCycles': WHATEVER THE INPUT: true; the input reads as it did. -/
def fnExactCyclesSpec : ChangeSpec := { name := "fnExactCycles", fn := fun _ => fun
  | [d] => { results := [.lit (.bool true)], args := [d] }
  | _ => none }
def fnExactCyclesRow : OpenClaim := { program := "ytopaeojcpidfgaa", sum := "3520d3a5417998d3eb157f8c8c4005fb8c3ccfcc8f2e4a0639c7f6cff3984e3d", func := "loop.example/g00855/laws.FnExactCycles", spec := "fnExactCycles", unfollowed := true, recurses := true, apart := false }
def FnExactCyclesSaid : Prop := fnExactCyclesRow.holds Try.pinned (OpenSpec.ofChange fnExactCyclesSpec)

/-- ITS FALSE NEIGHBOUR: 'it returns false'. Refute it at one input. -/
def fnExactCyclesWrong : ChangeSpec := { name := "fnExactCycles", fn := fun _ => fun
  | [d] => { results := [.lit (.bool false)], args := [d] }
  | _ => none }
def FnExactCyclesWrongFalsely : Prop := fnExactCyclesRow.holds Try.pinned (OpenSpec.ofChange fnExactCyclesWrong)

/-- 'laws.FnExactSign': WHATEVER THE INPUT: true; the input reads as it did. -/
def fnExactSignSpec : ChangeSpec := { name := "fnExactSign", fn := fun _ => fun
  | [d] => { results := [.lit (.bool true)], args := [d] }
  | _ => none }
def fnExactSignRow : OpenClaim := { program := "ytopaeojcpidfgaa", sum := "3520d3a5417998d3eb157f8c8c4005fb8c3ccfcc8f2e4a0639c7f6cff3984e3d", func := "loop.example/g00855/laws.FnExactSign", spec := "fnExactSign", unfollowed := true, recurses := true, apart := false }
def FnExactSignSaid : Prop := fnExactSignRow.holds Try.pinned (OpenSpec.ofChange fnExactSignSpec)

/-- ITS FALSE NEIGHBOUR: 'it returns false'. Refute it at one input. -/
def fnExactSignWrong : ChangeSpec := { name := "fnExactSign", fn := fun _ => fun
  | [d] => { results := [.lit (.bool false)], args := [d] }
  | _ => none }
def FnExactSignWrongFalsely : Prop := fnExactSignRow.holds Try.pinned (OpenSpec.ofChange fnExactSignWrong)

/-- 'laws.FnExactPermutationLess': WHATEVER THE INPUT: true; the input reads as it did. -/
def fnExactPermutationLessSpec : ChangeSpec := { name := "fnExactPermutationLess", fn := fun _ => fun
  | [d1, d2] => { results := [.lit (.bool true)], args := [d1, d2] }
  | _ => none }
def fnExactPermutationLessRow : OpenClaim := { program := "ytopaeojcpidfgaa", sum := "3520d3a5417998d3eb157f8c8c4005fb8c3ccfcc8f2e4a0639c7f6cff3984e3d", func := "loop.example/g00855/laws.FnExactPermutationLess", spec := "fnExactPermutationLess", apart := false }
def FnExactPermutationLessSaid : Prop := fnExactPermutationLessRow.holds Try.pinned (OpenSpec.ofChange fnExactPermutationLessSpec)

/-- ITS FALSE NEIGHBOUR: 'it returns false'. Refute it at one input. -/
def fnExactPermutationLessWrong : ChangeSpec := { name := "fnExactPermutationLess", fn := fun _ => fun
  | [d1, d2] => { results := [.lit (.bool false)], args := [d1, d2] }
  | _ => none }
def FnExactPermutationLessWrongFalsely : Prop := fnExactPermutationLessRow.holds Try.pinned (OpenSpec.ofChange fnExactPermutationLessWrong)

/-- 'laws.FnExactSupport': WHATEVER THE INPUT: true; the input reads as it did. -/
def fnExactSupportSpec : ChangeSpec := { name := "fnExactSupport", fn := fun _ => fun
  | [d] => { results := [.lit (.bool true)], args := [d] }
  | _ => none }
def fnExactSupportRow : OpenClaim := { program := "ytopaeojcpidfgaa", sum := "3520d3a5417998d3eb157f8c8c4005fb8c3ccfcc8f2e4a0639c7f6cff3984e3d", func := "loop.example/g00855/laws.FnExactSupport", spec := "fnExactSupport", unfollowed := true, recurses := true, apart := false }
def FnExactSupportSaid : Prop := fnExactSupportRow.holds Try.pinned (OpenSpec.ofChange fnExactSupportSpec)

/-- ITS FALSE NEIGHBOUR: 'it returns false'. Refute it at one input. -/
def fnExactSupportWrong : ChangeSpec := { name := "fnExactSupport", fn := fun _ => fun
  | [d] => { results := [.lit (.bool false)], args := [d] }
  | _ => none }
def FnExactSupportWrongFalsely : Prop := fnExactSupportRow.holds Try.pinned (OpenSpec.ofChange fnExactSupportWrong)

/- THE SECOND FORM. 'bulk': how many values and letters a reading holds, each counted each time it is reached (what is shared counts as often as it is met; a slice's spare places count too). A statement '..UptoSaid' is the law's where the arguments, and the package variables that the reading takes, are together of bulk at most 1048576: NARROWER than '..Said'. Prove '..Said' where nothing that the law and all that it calls make is longer than what came in: it says more and counts as full. Else prove '..UptoSaid'. A law counts once. -/
mutual
def uptoBulk {H : Type} : DataW H → Nat
  | .lit (.string bytes) => bytes.length + 1
  | .lit _ => 1
  | .nil => 1
  | .ptr d => uptoBulk d + 1
  | .slice elems spare => uptoBulkAll elems + uptoBulkAll spare + 1
  | .agg parts => uptoBulkAll parts + 1
  | .iface _ d => uptoBulk d + 1
  | .map entries => uptoBulkEntries entries + 1
  | .held _ => 1
def uptoBulkAll {H : Type} : List (DataW H) → Nat
  | [] => 0
  | d :: r => uptoBulk d + uptoBulkAll r
def uptoBulkEntries {H : Type} : List (Lit × DataW H) → Nat
  | [] => 0
  | x :: r => uptoBulkEntry x + uptoBulkEntries r
def uptoBulkEntry {H : Type} : Lit × DataW H → Nat
  | (.string bytes, d) => bytes.length + uptoBulk d + 1
  | (_, d) => uptoBulk d + 1
 end
def uptoSmall : (H : Type) → List (DataW H) → Bool := fun _ ds => decide (uptoBulkAll ds ≤ 1048576)
def OpenSpec.upto (s : _root_.Go.ChangeSpec) : _root_.Go.OpenSpec := { _root_.Go.OpenSpec.ofChange s with cond := some uptoSmall }

/-- 'laws.FnGroupAxioms', WHERE WHAT IT READS IS OF BULK AT MOST 1048576: true; the input reads as it did. -/
def fnGroupAxiomsUptoRow : OpenClaim := { program := "ytopaeojcpidfgaa", sum := "3520d3a5417998d3eb157f8c8c4005fb8c3ccfcc8f2e4a0639c7f6cff3984e3d", func := "loop.example/g00855/laws.FnGroupAxioms", spec := "fnGroupAxioms", apart := false, narrowed := true }
def FnGroupAxiomsUptoSaid : Prop := fnGroupAxiomsUptoRow.holds Try.pinned (OpenSpec.upto fnGroupAxiomsSpec)

/-- 'laws.FnPowers', WHERE WHAT IT READS IS OF BULK AT MOST 1048576: true; the input reads as it did. -/
def fnPowersUptoRow : OpenClaim := { program := "ytopaeojcpidfgaa", sum := "3520d3a5417998d3eb157f8c8c4005fb8c3ccfcc8f2e4a0639c7f6cff3984e3d", func := "loop.example/g00855/laws.FnPowers", spec := "fnPowers", unfollowed := true, recurses := true, apart := false, narrowed := true }
def FnPowersUptoSaid : Prop := fnPowersUptoRow.holds Try.pinned (OpenSpec.upto fnPowersSpec)

/-- 'laws.FnCyclesAndSign', WHERE WHAT IT READS IS OF BULK AT MOST 1048576: true; the input reads as it did. -/
def fnCyclesAndSignUptoRow : OpenClaim := { program := "ytopaeojcpidfgaa", sum := "3520d3a5417998d3eb157f8c8c4005fb8c3ccfcc8f2e4a0639c7f6cff3984e3d", func := "loop.example/g00855/laws.FnCyclesAndSign", spec := "fnCyclesAndSign", unfollowed := true, recurses := true, apart := false, narrowed := true }
def FnCyclesAndSignUptoSaid : Prop := fnCyclesAndSignUptoRow.holds Try.pinned (OpenSpec.upto fnCyclesAndSignSpec)

/-- 'laws.FnExactIsPermutation', WHERE WHAT IT READS IS OF BULK AT MOST 1048576: true; the input reads as it did. -/
def fnExactIsPermutationUptoRow : OpenClaim := { program := "ytopaeojcpidfgaa", sum := "3520d3a5417998d3eb157f8c8c4005fb8c3ccfcc8f2e4a0639c7f6cff3984e3d", func := "loop.example/g00855/laws.FnExactIsPermutation", spec := "fnExactIsPermutation", apart := false, narrowed := true }
def FnExactIsPermutationUptoSaid : Prop := fnExactIsPermutationUptoRow.holds Try.pinned (OpenSpec.upto fnExactIsPermutationSpec)

/-- 'laws.FnExactIdentity', WHERE WHAT IT READS IS OF BULK AT MOST 1048576: true; the input reads as it did. -/
def fnExactIdentityUptoRow : OpenClaim := { program := "ytopaeojcpidfgaa", sum := "3520d3a5417998d3eb157f8c8c4005fb8c3ccfcc8f2e4a0639c7f6cff3984e3d", func := "loop.example/g00855/laws.FnExactIdentity", spec := "fnExactIdentity", apart := false, narrowed := true }
def FnExactIdentityUptoSaid : Prop := fnExactIdentityUptoRow.holds Try.pinned (OpenSpec.upto fnExactIdentitySpec)

/-- 'laws.FnExactCompose', WHERE WHAT IT READS IS OF BULK AT MOST 1048576: true; the input reads as it did. -/
def fnExactComposeUptoRow : OpenClaim := { program := "ytopaeojcpidfgaa", sum := "3520d3a5417998d3eb157f8c8c4005fb8c3ccfcc8f2e4a0639c7f6cff3984e3d", func := "loop.example/g00855/laws.FnExactCompose", spec := "fnExactCompose", apart := false, narrowed := true }
def FnExactComposeUptoSaid : Prop := fnExactComposeUptoRow.holds Try.pinned (OpenSpec.upto fnExactComposeSpec)

/-- 'laws.FnExactInverse', WHERE WHAT IT READS IS OF BULK AT MOST 1048576: true; the input reads as it did. -/
def fnExactInverseUptoRow : OpenClaim := { program := "ytopaeojcpidfgaa", sum := "3520d3a5417998d3eb157f8c8c4005fb8c3ccfcc8f2e4a0639c7f6cff3984e3d", func := "loop.example/g00855/laws.FnExactInverse", spec := "fnExactInverse", apart := false, narrowed := true }
def FnExactInverseUptoSaid : Prop := fnExactInverseUptoRow.holds Try.pinned (OpenSpec.upto fnExactInverseSpec)

/-- 'laws.FnExactPower', WHERE WHAT IT READS IS OF BULK AT MOST 1048576: true; the input reads as it did. -/
def fnExactPowerUptoRow : OpenClaim := { program := "ytopaeojcpidfgaa", sum := "3520d3a5417998d3eb157f8c8c4005fb8c3ccfcc8f2e4a0639c7f6cff3984e3d", func := "loop.example/g00855/laws.FnExactPower", spec := "fnExactPower", unfollowed := true, recurses := true, apart := false, narrowed := true }
def FnExactPowerUptoSaid : Prop := fnExactPowerUptoRow.holds Try.pinned (OpenSpec.upto fnExactPowerSpec)

/-- 'laws.FnExactElementOrder', WHERE WHAT IT READS IS OF BULK AT MOST 1048576: true; the input reads as it did. -/
def fnExactElementOrderUptoRow : OpenClaim := { program := "ytopaeojcpidfgaa", sum := "3520d3a5417998d3eb157f8c8c4005fb8c3ccfcc8f2e4a0639c7f6cff3984e3d", func := "loop.example/g00855/laws.FnExactElementOrder", spec := "fnExactElementOrder", unfollowed := true, recurses := true, apart := false, narrowed := true }
def FnExactElementOrderUptoSaid : Prop := fnExactElementOrderUptoRow.holds Try.pinned (OpenSpec.upto fnExactElementOrderSpec)

/-- 'laws.FnExactCycles', WHERE WHAT IT READS IS OF BULK AT MOST 1048576: true; the input reads as it did. -/
def fnExactCyclesUptoRow : OpenClaim := { program := "ytopaeojcpidfgaa", sum := "3520d3a5417998d3eb157f8c8c4005fb8c3ccfcc8f2e4a0639c7f6cff3984e3d", func := "loop.example/g00855/laws.FnExactCycles", spec := "fnExactCycles", unfollowed := true, recurses := true, apart := false, narrowed := true }
def FnExactCyclesUptoSaid : Prop := fnExactCyclesUptoRow.holds Try.pinned (OpenSpec.upto fnExactCyclesSpec)

/-- 'laws.FnExactSign', WHERE WHAT IT READS IS OF BULK AT MOST 1048576: true; the input reads as it did. -/
def fnExactSignUptoRow : OpenClaim := { program := "ytopaeojcpidfgaa", sum := "3520d3a5417998d3eb157f8c8c4005fb8c3ccfcc8f2e4a0639c7f6cff3984e3d", func := "loop.example/g00855/laws.FnExactSign", spec := "fnExactSign", unfollowed := true, recurses := true, apart := false, narrowed := true }
def FnExactSignUptoSaid : Prop := fnExactSignUptoRow.holds Try.pinned (OpenSpec.upto fnExactSignSpec)

/-- 'laws.FnExactPermutationLess', WHERE WHAT IT READS IS OF BULK AT MOST 1048576: true; the input reads as it did. -/
def fnExactPermutationLessUptoRow : OpenClaim := { program := "ytopaeojcpidfgaa", sum := "3520d3a5417998d3eb157f8c8c4005fb8c3ccfcc8f2e4a0639c7f6cff3984e3d", func := "loop.example/g00855/laws.FnExactPermutationLess", spec := "fnExactPermutationLess", apart := false, narrowed := true }
def FnExactPermutationLessUptoSaid : Prop := fnExactPermutationLessUptoRow.holds Try.pinned (OpenSpec.upto fnExactPermutationLessSpec)

/-- 'laws.FnExactSupport', WHERE WHAT IT READS IS OF BULK AT MOST 1048576: true; the input reads as it did. -/
def fnExactSupportUptoRow : OpenClaim := { program := "ytopaeojcpidfgaa", sum := "3520d3a5417998d3eb157f8c8c4005fb8c3ccfcc8f2e4a0639c7f6cff3984e3d", func := "loop.example/g00855/laws.FnExactSupport", spec := "fnExactSupport", unfollowed := true, recurses := true, apart := false, narrowed := true }
def FnExactSupportUptoSaid : Prop := fnExactSupportUptoRow.holds Try.pinned (OpenSpec.upto fnExactSupportSpec)

end Rows
end Go.Proofs.Ytopaeojcpidfgaa
