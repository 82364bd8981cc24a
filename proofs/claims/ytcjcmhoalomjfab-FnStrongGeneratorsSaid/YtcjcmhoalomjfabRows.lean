/-
  No cell of these rows narrows 'for every input' (looked for: loops, veiled, ifaces, maps, wideKeys, modest, calm, conditions, laid).
  DERIVED. THE GIVEN ROWS OF THIS SEAT. 4 by the template 'for every input the law returns true; each argument reads behind the call as it read before'; 0 by the template 'total and deterministic' (their statements: YtcjcmhoalomjfabTotals.lean).
  GIVEN WITH THE SEED: the statements are not yours to turn. If you find one false, say at which input.
  Laid BY PROGRAM, IN A SANDBOX (cutbox-rows.mjs): the forced cells as the released guide's own fill.sh prints them over the translation f9c5ccf377c36b8a… (all of the seat's roots in one cut). By AI agents, Wed Nov 11 2026. No macro, syntax, notation, axiom, sorry.
-/
import Derived.Test.YtcjcmhoalomjfabChecked
import GoSem.Claim
import GoSem.ClaimJoined
import GoSem.ClaimMapViews
import Derived.JoinedTies
import Derived.KernelRfl
namespace Go.Proofs.Ytcjcmhoalomjfab
/- THE CELL 'sum', in the pinned program and in every row, IS THE sha256 OF THE DUMP (.gsa) THAT YtcjcmhoalomjfabProg.lean LOADS. Nothing in Lean hashes anything: it is a label: what it is worth is what the hold of that sum in a sandbox is worth. -/
noncomputable def Try.pinned : Pinned := { name := "ytcjcmhoalomjfab", sum := "f9c5ccf377c36b8a3e0a3fa4b8715b8da1d47bc8ce4ac99ccca9619d6c314dad", checked := Try.checked }
namespace Rows
def none {H : Type} : Left H := { results := [], args := [] }

/-- 'laws.FnExactConjugate': WHATEVER THE INPUT: true; the input reads as it did. -/
def fnExactConjugateSpec : ChangeSpec := { name := "fnExactConjugate", fn := fun _ => fun
  | [d1, d2] => { results := [.lit (.bool true)], args := [d1, d2] }
  | _ => none }
def fnExactConjugateRow : OpenClaim := { program := "ytcjcmhoalomjfab", sum := "f9c5ccf377c36b8a3e0a3fa4b8715b8da1d47bc8ce4ac99ccca9619d6c314dad", func := "loop.example/g00855/laws.FnExactConjugate", spec := "fnExactConjugate", apart := false }
def FnExactConjugateSaid : Prop := fnExactConjugateRow.holds Try.pinned (OpenSpec.ofChange fnExactConjugateSpec)

/-- ITS FALSE NEIGHBOUR: 'it returns false'. Refute it at one input. -/
def fnExactConjugateWrong : ChangeSpec := { name := "fnExactConjugate", fn := fun _ => fun
  | [d1, d2] => { results := [.lit (.bool false)], args := [d1, d2] }
  | _ => none }
def FnExactConjugateWrongFalsely : Prop := fnExactConjugateRow.holds Try.pinned (OpenSpec.ofChange fnExactConjugateWrong)

/-- 'laws.FnExactSameGroup': WHATEVER THE INPUT: true; the input reads as it did. -/
def fnExactSameGroupSpec : ChangeSpec := { name := "fnExactSameGroup", fn := fun _ => fun
  | [d1, d2, d3] => { results := [.lit (.bool true)], args := [d1, d2, d3] }
  | _ => none }
def fnExactSameGroupRow : OpenClaim := { program := "ytcjcmhoalomjfab", sum := "f9c5ccf377c36b8a3e0a3fa4b8715b8da1d47bc8ce4ac99ccca9619d6c314dad", func := "loop.example/g00855/laws.FnExactSameGroup", spec := "fnExactSameGroup", recurses := true, apart := false }
def FnExactSameGroupSaid : Prop := fnExactSameGroupRow.holds Try.pinned (OpenSpec.ofChange fnExactSameGroupSpec)

/-- ITS FALSE NEIGHBOUR: 'it returns false'. Refute it at one input. -/
def fnExactSameGroupWrong : ChangeSpec := { name := "fnExactSameGroup", fn := fun _ => fun
  | [d1, d2, d3] => { results := [.lit (.bool false)], args := [d1, d2, d3] }
  | _ => none }
def FnExactSameGroupWrongFalsely : Prop := fnExactSameGroupRow.holds Try.pinned (OpenSpec.ofChange fnExactSameGroupWrong)

/-- 'laws.FnConjugacy': WHATEVER THE INPUT: true; the input reads as it did. -/
def fnConjugacySpec : ChangeSpec := { name := "fnConjugacy", fn := fun _ => fun
  | [d] => { results := [.lit (.bool true)], args := [d] }
  | _ => none }
def fnConjugacyRow : OpenClaim := { program := "ytcjcmhoalomjfab", sum := "f9c5ccf377c36b8a3e0a3fa4b8715b8da1d47bc8ce4ac99ccca9619d6c314dad", func := "loop.example/g00855/laws.FnConjugacy", spec := "fnConjugacy", unfollowed := true, recurses := true, apart := false }
def FnConjugacySaid : Prop := fnConjugacyRow.holds Try.pinned (OpenSpec.ofChange fnConjugacySpec)

/-- ITS FALSE NEIGHBOUR: 'it returns false'. Refute it at one input. -/
def fnConjugacyWrong : ChangeSpec := { name := "fnConjugacy", fn := fun _ => fun
  | [d] => { results := [.lit (.bool false)], args := [d] }
  | _ => none }
def FnConjugacyWrongFalsely : Prop := fnConjugacyRow.holds Try.pinned (OpenSpec.ofChange fnConjugacyWrong)

/-- 'laws.FnStrongGenerators': WHATEVER THE INPUT: true; the input reads as it did. -/
def fnStrongGeneratorsSpec : ChangeSpec := { name := "fnStrongGenerators", fn := fun _ => fun
  | [d] => { results := [.lit (.bool true)], args := [d] }
  | _ => none }
def fnStrongGeneratorsRow : OpenClaim := { program := "ytcjcmhoalomjfab", sum := "f9c5ccf377c36b8a3e0a3fa4b8715b8da1d47bc8ce4ac99ccca9619d6c314dad", func := "loop.example/g00855/laws.FnStrongGenerators", spec := "fnStrongGenerators", unfollowed := true, recurses := true, apart := false }
def FnStrongGeneratorsSaid : Prop := fnStrongGeneratorsRow.holds Try.pinned (OpenSpec.ofChange fnStrongGeneratorsSpec)

/-- ITS FALSE NEIGHBOUR: 'it returns false'. Refute it at one input. -/
def fnStrongGeneratorsWrong : ChangeSpec := { name := "fnStrongGenerators", fn := fun _ => fun
  | [d] => { results := [.lit (.bool false)], args := [d] }
  | _ => none }
def FnStrongGeneratorsWrongFalsely : Prop := fnStrongGeneratorsRow.holds Try.pinned (OpenSpec.ofChange fnStrongGeneratorsWrong)

/- THE SECOND FORM. 'bulk': how many values and letters a reading holds, each counted each time it is reached (what is shared counts as often as it is met; a slice's spare places count too). A statement '..UptoSaid' is the law's where the arguments, and the package variables that the reading takes, are together of bulk at most 1048576: NARROWER than '..Said'. Prove '..Said' where nothing that the law and all that it calls make is longer than what came in: it says more and counts as full. Else prove '..UptoSaid'. A law counts once. -/
mutual
def uptoBulk {H : Type} : DataW H → Nat
  | .lit (.string bytes) => bytes.length + 1
  | .lit _ => 1
  | .nil => 1
  | .ptr d => uptoBulk d + 1
  | .slice elems spare => uptoBulkAll elems + uptoBulkAll spare + 1
  | .agg parts => uptoBulkAll parts + 1
  | .iface _ d => uptoBulk d + 1
  | .map entries => uptoBulkEntries entries + 1
  | .held _ => 1
def uptoBulkAll {H : Type} : List (DataW H) → Nat
  | [] => 0
  | d :: r => uptoBulk d + uptoBulkAll r
def uptoBulkEntries {H : Type} : List (Lit × DataW H) → Nat
  | [] => 0
  | x :: r => uptoBulkEntry x + uptoBulkEntries r
def uptoBulkEntry {H : Type} : Lit × DataW H → Nat
  | (.string bytes, d) => bytes.length + uptoBulk d + 1
  | (_, d) => uptoBulk d + 1
 end
def uptoSmall : (H : Type) → List (DataW H) → Bool := fun _ ds => decide (uptoBulkAll ds ≤ 1048576)
def OpenSpec.upto (s : _root_.Go.ChangeSpec) : _root_.Go.OpenSpec := { _root_.Go.OpenSpec.ofChange s with cond := some uptoSmall }

/-- 'laws.FnExactConjugate', WHERE WHAT IT READS IS OF BULK AT MOST 1048576: true; the input reads as it did. -/
def fnExactConjugateUptoRow : OpenClaim := { program := "ytcjcmhoalomjfab", sum := "f9c5ccf377c36b8a3e0a3fa4b8715b8da1d47bc8ce4ac99ccca9619d6c314dad", func := "loop.example/g00855/laws.FnExactConjugate", spec := "fnExactConjugate", apart := false, narrowed := true }
def FnExactConjugateUptoSaid : Prop := fnExactConjugateUptoRow.holds Try.pinned (OpenSpec.upto fnExactConjugateSpec)

/-- 'laws.FnExactSameGroup', WHERE WHAT IT READS IS OF BULK AT MOST 1048576: true; the input reads as it did. -/
def fnExactSameGroupUptoRow : OpenClaim := { program := "ytcjcmhoalomjfab", sum := "f9c5ccf377c36b8a3e0a3fa4b8715b8da1d47bc8ce4ac99ccca9619d6c314dad", func := "loop.example/g00855/laws.FnExactSameGroup", spec := "fnExactSameGroup", recurses := true, apart := false, narrowed := true }
def FnExactSameGroupUptoSaid : Prop := fnExactSameGroupUptoRow.holds Try.pinned (OpenSpec.upto fnExactSameGroupSpec)

/-- 'laws.FnConjugacy', WHERE WHAT IT READS IS OF BULK AT MOST 1048576: true; the input reads as it did. -/
def fnConjugacyUptoRow : OpenClaim := { program := "ytcjcmhoalomjfab", sum := "f9c5ccf377c36b8a3e0a3fa4b8715b8da1d47bc8ce4ac99ccca9619d6c314dad", func := "loop.example/g00855/laws.FnConjugacy", spec := "fnConjugacy", unfollowed := true, recurses := true, apart := false, narrowed := true }
def FnConjugacyUptoSaid : Prop := fnConjugacyUptoRow.holds Try.pinned (OpenSpec.upto fnConjugacySpec)

/-- 'laws.FnStrongGenerators', WHERE WHAT IT READS IS OF BULK AT MOST 1048576: true; the input reads as it did. -/
def fnStrongGeneratorsUptoRow : OpenClaim := { program := "ytcjcmhoalomjfab", sum := "f9c5ccf377c36b8a3e0a3fa4b8715b8da1d47bc8ce4ac99ccca9619d6c314dad", func := "loop.example/g00855/laws.FnStrongGenerators", spec := "fnStrongGenerators", unfollowed := true, recurses := true, apart := false, narrowed := true }
def FnStrongGeneratorsUptoSaid : Prop := fnStrongGeneratorsUptoRow.holds Try.pinned (OpenSpec.upto fnStrongGeneratorsSpec)

end Rows
end Go.Proofs.Ytcjcmhoalomjfab
