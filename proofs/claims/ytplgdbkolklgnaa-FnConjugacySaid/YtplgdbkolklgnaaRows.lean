/-
  No cell of these rows narrows 'for every input' (looked for: loops, veiled, ifaces, maps, wideKeys, modest, calm, conditions, laid).
  DERIVED. THE GIVEN ROWS OF THIS SEAT. 6 by the template 'for every input the law returns true; each argument reads behind the call as it read before'; 0 by the template 'total and deterministic' (their statements: YtplgdbkolklgnaaTotals.lean).
  GIVEN WITH THE SEED: the statements are not yours to turn. If you find one false, say at which input.
  Laid BY PROGRAM, IN A SANDBOX (cutbox-rows.mjs): the forced cells as the released guide's own fill.sh prints them over the translation 4f70cf20877b4a95… (all of the seat's roots in one cut). By AI agents, Wed Nov 11 2026. No macro, syntax, notation, axiom, sorry.
-/
import Derived.Test.YtplgdbkolklgnaaChecked
import GoSem.Claim
import GoSem.ClaimJoined
import GoSem.ClaimMapViews
import Derived.JoinedTies
import Derived.KernelRfl
namespace Go.Proofs.Ytplgdbkolklgnaa
/- THE CELL 'sum', in the pinned program and in every row, IS THE sha256 OF THE DUMP (.gsa) THAT YtplgdbkolklgnaaProg.lean LOADS. Nothing in Lean hashes anything: it is a label: what it is worth is what the hold of that sum in a sandbox is worth. -/
noncomputable def Try.pinned : Pinned := { name := "ytplgdbkolklgnaa", sum := "4f70cf20877b4a956715a2b7523f92353d86865688950fb23b1efa372652d75c", checked := Try.checked }
namespace Rows
def none {H : Type} : Left H := { results := [], args := [] }

/-- 'laws.FnConjugacy': WHATEVER THE INPUT: true; the input reads as it did. -/
def fnConjugacySpec : ChangeSpec := { name := "fnConjugacy", fn := fun _ => fun
  | [d] => { results := [.lit (.bool true)], args := [d] }
  | _ => none }
def fnConjugacyRow : OpenClaim := { program := "ytplgdbkolklgnaa", sum := "4f70cf20877b4a956715a2b7523f92353d86865688950fb23b1efa372652d75c", func := "loop.example/g00855/laws.FnConjugacy", spec := "fnConjugacy", unfollowed := true, recurses := true, apart := false }
def FnConjugacySaid : Prop := fnConjugacyRow.holds Try.pinned (OpenSpec.ofChange fnConjugacySpec)

/-- ITS FALSE NEIGHBOUR: 'it returns false'. Refute it at one input. -/
def fnConjugacyWrong : ChangeSpec := { name := "fnConjugacy", fn := fun _ => fun
  | [d] => { results := [.lit (.bool false)], args := [d] }
  | _ => none }
def FnConjugacyWrongFalsely : Prop := fnConjugacyRow.holds Try.pinned (OpenSpec.ofChange fnConjugacyWrong)

/-- 'laws.FnExactParseImages': WHATEVER THE INPUT: true; the input reads as it did. -/
def fnExactParseImagesSpec : ChangeSpec := { name := "fnExactParseImages", fn := fun _ => fun
  | [d] => { results := [.lit (.bool true)], args := [d] }
  | _ => none }
def fnExactParseImagesRow : OpenClaim := { program := "ytplgdbkolklgnaa", sum := "4f70cf20877b4a956715a2b7523f92353d86865688950fb23b1efa372652d75c", func := "loop.example/g00855/laws.FnExactParseImages", spec := "fnExactParseImages", apart := false }
def FnExactParseImagesSaid : Prop := fnExactParseImagesRow.holds Try.pinned (OpenSpec.ofChange fnExactParseImagesSpec)

/-- ITS FALSE NEIGHBOUR: 'it returns false'. Refute it at one input. -/
def fnExactParseImagesWrong : ChangeSpec := { name := "fnExactParseImages", fn := fun _ => fun
  | [d] => { results := [.lit (.bool false)], args := [d] }
  | _ => none }
def FnExactParseImagesWrongFalsely : Prop := fnExactParseImagesRow.holds Try.pinned (OpenSpec.ofChange fnExactParseImagesWrong)

/-- 'laws.FnExactCycleType': WHATEVER THE INPUT: true; the input reads as it did. -/
def fnExactCycleTypeSpec : ChangeSpec := { name := "fnExactCycleType", fn := fun _ => fun
  | [d] => { results := [.lit (.bool true)], args := [d] }
  | _ => none }
def fnExactCycleTypeRow : OpenClaim := { program := "ytplgdbkolklgnaa", sum := "4f70cf20877b4a956715a2b7523f92353d86865688950fb23b1efa372652d75c", func := "loop.example/g00855/laws.FnExactCycleType", spec := "fnExactCycleType", unfollowed := true, recurses := true, apart := false }
def FnExactCycleTypeSaid : Prop := fnExactCycleTypeRow.holds Try.pinned (OpenSpec.ofChange fnExactCycleTypeSpec)

/-- ITS FALSE NEIGHBOUR: 'it returns false'. Refute it at one input. -/
def fnExactCycleTypeWrong : ChangeSpec := { name := "fnExactCycleType", fn := fun _ => fun
  | [d] => { results := [.lit (.bool false)], args := [d] }
  | _ => none }
def FnExactCycleTypeWrongFalsely : Prop := fnExactCycleTypeRow.holds Try.pinned (OpenSpec.ofChange fnExactCycleTypeWrong)

/-- 'laws.FnExactSameCycleType': WHATEVER THE INPUT: true; the input reads as it did. -/
def fnExactSameCycleTypeSpec : ChangeSpec := { name := "fnExactSameCycleType", fn := fun _ => fun
  | [d1, d2] => { results := [.lit (.bool true)], args := [d1, d2] }
  | _ => none }
def fnExactSameCycleTypeRow : OpenClaim := { program := "ytplgdbkolklgnaa", sum := "4f70cf20877b4a956715a2b7523f92353d86865688950fb23b1efa372652d75c", func := "loop.example/g00855/laws.FnExactSameCycleType", spec := "fnExactSameCycleType", unfollowed := true, recurses := true, apart := false }
def FnExactSameCycleTypeSaid : Prop := fnExactSameCycleTypeRow.holds Try.pinned (OpenSpec.ofChange fnExactSameCycleTypeSpec)

/-- ITS FALSE NEIGHBOUR: 'it returns false'. Refute it at one input. -/
def fnExactSameCycleTypeWrong : ChangeSpec := { name := "fnExactSameCycleType", fn := fun _ => fun
  | [d1, d2] => { results := [.lit (.bool false)], args := [d1, d2] }
  | _ => none }
def FnExactSameCycleTypeWrongFalsely : Prop := fnExactSameCycleTypeRow.holds Try.pinned (OpenSpec.ofChange fnExactSameCycleTypeWrong)

/-- 'laws.FnExactConjugate': WHATEVER THE INPUT: true; the input reads as it did. -/
def fnExactConjugateSpec : ChangeSpec := { name := "fnExactConjugate", fn := fun _ => fun
  | [d1, d2] => { results := [.lit (.bool true)], args := [d1, d2] }
  | _ => none }
def fnExactConjugateRow : OpenClaim := { program := "ytplgdbkolklgnaa", sum := "4f70cf20877b4a956715a2b7523f92353d86865688950fb23b1efa372652d75c", func := "loop.example/g00855/laws.FnExactConjugate", spec := "fnExactConjugate", apart := false }
def FnExactConjugateSaid : Prop := fnExactConjugateRow.holds Try.pinned (OpenSpec.ofChange fnExactConjugateSpec)

/-- ITS FALSE NEIGHBOUR: 'it returns false'. Refute it at one input. -/
def fnExactConjugateWrong : ChangeSpec := { name := "fnExactConjugate", fn := fun _ => fun
  | [d1, d2] => { results := [.lit (.bool false)], args := [d1, d2] }
  | _ => none }
def FnExactConjugateWrongFalsely : Prop := fnExactConjugateRow.holds Try.pinned (OpenSpec.ofChange fnExactConjugateWrong)

/-- 'laws.FnExactFindConjugator': WHATEVER THE INPUT: true; the input reads as it did. -/
def fnExactFindConjugatorSpec : ChangeSpec := { name := "fnExactFindConjugator", fn := fun _ => fun
  | [d1, d2] => { results := [.lit (.bool true)], args := [d1, d2] }
  | _ => none }
def fnExactFindConjugatorRow : OpenClaim := { program := "ytplgdbkolklgnaa", sum := "4f70cf20877b4a956715a2b7523f92353d86865688950fb23b1efa372652d75c", func := "loop.example/g00855/laws.FnExactFindConjugator", spec := "fnExactFindConjugator", unfollowed := true, recurses := true, apart := false }
def FnExactFindConjugatorSaid : Prop := fnExactFindConjugatorRow.holds Try.pinned (OpenSpec.ofChange fnExactFindConjugatorSpec)

/-- ITS FALSE NEIGHBOUR: 'it returns false'. Refute it at one input. -/
def fnExactFindConjugatorWrong : ChangeSpec := { name := "fnExactFindConjugator", fn := fun _ => fun
  | [d1, d2] => { results := [.lit (.bool false)], args := [d1, d2] }
  | _ => none }
def FnExactFindConjugatorWrongFalsely : Prop := fnExactFindConjugatorRow.holds Try.pinned (OpenSpec.ofChange fnExactFindConjugatorWrong)

/- THE SECOND FORM. 'bulk': how many values and letters a reading holds, each counted each time it is reached (what is shared counts as often as it is met; a slice's spare places count too). A statement '..UptoSaid' is the law's where the arguments, and the package variables that the reading takes, are together of bulk at most 1048576: NARROWER than '..Said'. Prove '..Said' where nothing that the law and all that it calls make is longer than what came in: it says more and counts as full. Else prove '..UptoSaid'. A law counts once. -/
mutual
def uptoBulk {H : Type} : DataW H → Nat
  | .lit (.string bytes) => bytes.length + 1
  | .lit _ => 1
  | .nil => 1
  | .ptr d => uptoBulk d + 1
  | .slice elems spare => uptoBulkAll elems + uptoBulkAll spare + 1
  | .agg parts => uptoBulkAll parts + 1
  | .iface _ d => uptoBulk d + 1
  | .map entries => uptoBulkEntries entries + 1
  | .held _ => 1
def uptoBulkAll {H : Type} : List (DataW H) → Nat
  | [] => 0
  | d :: r => uptoBulk d + uptoBulkAll r
def uptoBulkEntries {H : Type} : List (Lit × DataW H) → Nat
  | [] => 0
  | x :: r => uptoBulkEntry x + uptoBulkEntries r
def uptoBulkEntry {H : Type} : Lit × DataW H → Nat
  | (.string bytes, d) => bytes.length + uptoBulk d + 1
  | (_, d) => uptoBulk d + 1
 end
def uptoSmall : (H : Type) → List (DataW H) → Bool := fun _ ds => decide (uptoBulkAll ds ≤ 1048576)
def OpenSpec.upto (s : _root_.Go.ChangeSpec) : _root_.Go.OpenSpec := { _root_.Go.OpenSpec.ofChange s with cond := some uptoSmall }

/-- 'laws.FnConjugacy', WHERE WHAT IT READS IS OF BULK AT MOST 1048576: true; the input reads as it did. -/
def fnConjugacyUptoRow : OpenClaim := { program := "ytplgdbkolklgnaa", sum := "4f70cf20877b4a956715a2b7523f92353d86865688950fb23b1efa372652d75c", func := "loop.example/g00855/laws.FnConjugacy", spec := "fnConjugacy", unfollowed := true, recurses := true, apart := false, narrowed := true }
def FnConjugacyUptoSaid : Prop := fnConjugacyUptoRow.holds Try.pinned (OpenSpec.upto fnConjugacySpec)

/-- 'laws.FnExactParseImages', WHERE WHAT IT READS IS OF BULK AT MOST 1048576: true; the input reads as it did. -/
def fnExactParseImagesUptoRow : OpenClaim := { program := "ytplgdbkolklgnaa", sum := "4f70cf20877b4a956715a2b7523f92353d86865688950fb23b1efa372652d75c", func := "loop.example/g00855/laws.FnExactParseImages", spec := "fnExactParseImages", apart := false, narrowed := true }
def FnExactParseImagesUptoSaid : Prop := fnExactParseImagesUptoRow.holds Try.pinned (OpenSpec.upto fnExactParseImagesSpec)

/-- 'laws.FnExactCycleType', WHERE WHAT IT READS IS OF BULK AT MOST 1048576: true; the input reads as it did. -/
def fnExactCycleTypeUptoRow : OpenClaim := { program := "ytplgdbkolklgnaa", sum := "4f70cf20877b4a956715a2b7523f92353d86865688950fb23b1efa372652d75c", func := "loop.example/g00855/laws.FnExactCycleType", spec := "fnExactCycleType", unfollowed := true, recurses := true, apart := false, narrowed := true }
def FnExactCycleTypeUptoSaid : Prop := fnExactCycleTypeUptoRow.holds Try.pinned (OpenSpec.upto fnExactCycleTypeSpec)

/-- 'laws.FnExactSameCycleType', WHERE WHAT IT READS IS OF BULK AT MOST 1048576: true; the input reads as it did. -/
def fnExactSameCycleTypeUptoRow : OpenClaim := { program := "ytplgdbkolklgnaa", sum := "4f70cf20877b4a956715a2b7523f92353d86865688950fb23b1efa372652d75c", func := "loop.example/g00855/laws.FnExactSameCycleType", spec := "fnExactSameCycleType", unfollowed := true, recurses := true, apart := false, narrowed := true }
def FnExactSameCycleTypeUptoSaid : Prop := fnExactSameCycleTypeUptoRow.holds Try.pinned (OpenSpec.upto fnExactSameCycleTypeSpec)

/-- 'laws.FnExactConjugate', WHERE WHAT IT READS IS OF BULK AT MOST 1048576: true; the input reads as it did. -/
def fnExactConjugateUptoRow : OpenClaim := { program := "ytplgdbkolklgnaa", sum := "4f70cf20877b4a956715a2b7523f92353d86865688950fb23b1efa372652d75c", func := "loop.example/g00855/laws.FnExactConjugate", spec := "fnExactConjugate", apart := false, narrowed := true }
def FnExactConjugateUptoSaid : Prop := fnExactConjugateUptoRow.holds Try.pinned (OpenSpec.upto fnExactConjugateSpec)

/-- 'laws.FnExactFindConjugator', WHERE WHAT IT READS IS OF BULK AT MOST 1048576: true; the input reads as it did. -/
def fnExactFindConjugatorUptoRow : OpenClaim := { program := "ytplgdbkolklgnaa", sum := "4f70cf20877b4a956715a2b7523f92353d86865688950fb23b1efa372652d75c", func := "loop.example/g00855/laws.FnExactFindConjugator", spec := "fnExactFindConjugator", unfollowed := true, recurses := true, apart := false, narrowed := true }
def FnExactFindConjugatorUptoSaid : Prop := fnExactFindConjugatorUptoRow.holds Try.pinned (OpenSpec.upto fnExactFindConjugatorSpec)

end Rows
end Go.Proofs.Ytplgdbkolklgnaa
