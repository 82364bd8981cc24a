/-
  No cell of these rows narrows 'for every input' (looked for: loops, veiled, ifaces, maps, wideKeys, modest, calm, conditions, laid).
  DERIVED. THE GIVEN ROWS OF THIS SEAT. 10 by the template 'for every input the law returns true; each argument reads behind the call as it read before'; 0 by the template 'total and deterministic' (their statements: YtojmlmeahoppjaaTotals.lean).
  GIVEN WITH THE SEED: the statements are not yours to turn. If you find one false, say at which input.
  Laid BY PROGRAM, IN A SANDBOX (cutbox-rows.mjs): the forced cells as the released guide's own fill.sh prints them over the translation 1a1b86fd1dd7e162… (all of the seat's roots in one cut). By AI agents, Wed Nov 11 2026. No macro, syntax, notation, axiom, sorry.
-/
import Derived.Test.YtojmlmeahoppjaaChecked
import GoSem.Claim
import GoSem.ClaimJoined
import GoSem.ClaimMapViews
import Derived.JoinedTies
import Derived.KernelRfl
namespace Go.Proofs.Ytojmlmeahoppjaa
/- THE CELL 'sum', in the pinned program and in every row, IS THE sha256 OF THE DUMP (.gsa) THAT YtojmlmeahoppjaaProg.lean LOADS. Nothing in Lean hashes anything: it is a label: what it is worth is what the hold of that sum in a sandbox is worth. -/
noncomputable def Try.pinned : Pinned := { name := "ytojmlmeahoppjaa", sum := "1a1b86fd1dd7e16287944d919903105a26bffc7a8543f7dcf7c8430deddd4991", checked := Try.checked }
namespace Rows
def none {H : Type} : Left H := { results := [], args := [] }

/-- 'laws.FnOrbits': WHATEVER THE INPUT: true; the input reads as it did. -/
def fnOrbitsSpec : ChangeSpec := { name := "fnOrbits", fn := fun _ => fun
  | [d] => { results := [.lit (.bool true)], args := [d] }
  | _ => none }
def fnOrbitsRow : OpenClaim := { program := "ytojmlmeahoppjaa", sum := "1a1b86fd1dd7e16287944d919903105a26bffc7a8543f7dcf7c8430deddd4991", func := "loop.example/g00855/laws.FnOrbits", spec := "fnOrbits", unfollowed := true, recurses := true, apart := false }
def FnOrbitsSaid : Prop := fnOrbitsRow.holds Try.pinned (OpenSpec.ofChange fnOrbitsSpec)

/-- ITS FALSE NEIGHBOUR: 'it returns false'. Refute it at one input. -/
def fnOrbitsWrong : ChangeSpec := { name := "fnOrbits", fn := fun _ => fun
  | [d] => { results := [.lit (.bool false)], args := [d] }
  | _ => none }
def FnOrbitsWrongFalsely : Prop := fnOrbitsRow.holds Try.pinned (OpenSpec.ofChange fnOrbitsWrong)

/-- 'laws.FnPairOrbits': WHATEVER THE INPUT: true; the input reads as it did. -/
def fnPairOrbitsSpec : ChangeSpec := { name := "fnPairOrbits", fn := fun _ => fun
  | [d] => { results := [.lit (.bool true)], args := [d] }
  | _ => none }
def fnPairOrbitsRow : OpenClaim := { program := "ytojmlmeahoppjaa", sum := "1a1b86fd1dd7e16287944d919903105a26bffc7a8543f7dcf7c8430deddd4991", func := "loop.example/g00855/laws.FnPairOrbits", spec := "fnPairOrbits", unfollowed := true, recurses := true, apart := false }
def FnPairOrbitsSaid : Prop := fnPairOrbitsRow.holds Try.pinned (OpenSpec.ofChange fnPairOrbitsSpec)

/-- ITS FALSE NEIGHBOUR: 'it returns false'. Refute it at one input. -/
def fnPairOrbitsWrong : ChangeSpec := { name := "fnPairOrbits", fn := fun _ => fun
  | [d] => { results := [.lit (.bool false)], args := [d] }
  | _ => none }
def FnPairOrbitsWrongFalsely : Prop := fnPairOrbitsRow.holds Try.pinned (OpenSpec.ofChange fnPairOrbitsWrong)

/-- 'laws.FnExactIsGeneratorSet': WHATEVER THE INPUT: true; the input reads as it did. -/
def fnExactIsGeneratorSetSpec : ChangeSpec := { name := "fnExactIsGeneratorSet", fn := fun _ => fun
  | [d1, d2] => { results := [.lit (.bool true)], args := [d1, d2] }
  | _ => none }
def fnExactIsGeneratorSetRow : OpenClaim := { program := "ytojmlmeahoppjaa", sum := "1a1b86fd1dd7e16287944d919903105a26bffc7a8543f7dcf7c8430deddd4991", func := "loop.example/g00855/laws.FnExactIsGeneratorSet", spec := "fnExactIsGeneratorSet", apart := false }
def FnExactIsGeneratorSetSaid : Prop := fnExactIsGeneratorSetRow.holds Try.pinned (OpenSpec.ofChange fnExactIsGeneratorSetSpec)

/-- ITS FALSE NEIGHBOUR: 'it returns false'. Refute it at one input. -/
def fnExactIsGeneratorSetWrong : ChangeSpec := { name := "fnExactIsGeneratorSet", fn := fun _ => fun
  | [d1, d2] => { results := [.lit (.bool false)], args := [d1, d2] }
  | _ => none }
def FnExactIsGeneratorSetWrongFalsely : Prop := fnExactIsGeneratorSetRow.holds Try.pinned (OpenSpec.ofChange fnExactIsGeneratorSetWrong)

/-- 'laws.FnExactOrbit': WHATEVER THE INPUT: true; the input reads as it did. -/
def fnExactOrbitSpec : ChangeSpec := { name := "fnExactOrbit", fn := fun _ => fun
  | [d1, d2, d3] => { results := [.lit (.bool true)], args := [d1, d2, d3] }
  | _ => none }
def fnExactOrbitRow : OpenClaim := { program := "ytojmlmeahoppjaa", sum := "1a1b86fd1dd7e16287944d919903105a26bffc7a8543f7dcf7c8430deddd4991", func := "loop.example/g00855/laws.FnExactOrbit", spec := "fnExactOrbit", recurses := true, apart := false }
def FnExactOrbitSaid : Prop := fnExactOrbitRow.holds Try.pinned (OpenSpec.ofChange fnExactOrbitSpec)

/-- ITS FALSE NEIGHBOUR: 'it returns false'. Refute it at one input. -/
def fnExactOrbitWrong : ChangeSpec := { name := "fnExactOrbit", fn := fun _ => fun
  | [d1, d2, d3] => { results := [.lit (.bool false)], args := [d1, d2, d3] }
  | _ => none }
def FnExactOrbitWrongFalsely : Prop := fnExactOrbitRow.holds Try.pinned (OpenSpec.ofChange fnExactOrbitWrong)

/-- 'laws.FnExactOrbits': WHATEVER THE INPUT: true; the input reads as it did. -/
def fnExactOrbitsSpec : ChangeSpec := { name := "fnExactOrbits", fn := fun _ => fun
  | [d1, d2] => { results := [.lit (.bool true)], args := [d1, d2] }
  | _ => none }
def fnExactOrbitsRow : OpenClaim := { program := "ytojmlmeahoppjaa", sum := "1a1b86fd1dd7e16287944d919903105a26bffc7a8543f7dcf7c8430deddd4991", func := "loop.example/g00855/laws.FnExactOrbits", spec := "fnExactOrbits", unfollowed := true, recurses := true, apart := false }
def FnExactOrbitsSaid : Prop := fnExactOrbitsRow.holds Try.pinned (OpenSpec.ofChange fnExactOrbitsSpec)

/-- ITS FALSE NEIGHBOUR: 'it returns false'. Refute it at one input. -/
def fnExactOrbitsWrong : ChangeSpec := { name := "fnExactOrbits", fn := fun _ => fun
  | [d1, d2] => { results := [.lit (.bool false)], args := [d1, d2] }
  | _ => none }
def FnExactOrbitsWrongFalsely : Prop := fnExactOrbitsRow.holds Try.pinned (OpenSpec.ofChange fnExactOrbitsWrong)

/-- 'laws.FnExactShortestWordTo': WHATEVER THE INPUT: true; the input reads as it did. -/
def fnExactShortestWordToSpec : ChangeSpec := { name := "fnExactShortestWordTo", fn := fun _ => fun
  | [d1, d2, d3, d4] => { results := [.lit (.bool true)], args := [d1, d2, d3, d4] }
  | _ => none }
def fnExactShortestWordToRow : OpenClaim := { program := "ytojmlmeahoppjaa", sum := "1a1b86fd1dd7e16287944d919903105a26bffc7a8543f7dcf7c8430deddd4991", func := "loop.example/g00855/laws.FnExactShortestWordTo", spec := "fnExactShortestWordTo", apart := false }
def FnExactShortestWordToSaid : Prop := fnExactShortestWordToRow.holds Try.pinned (OpenSpec.ofChange fnExactShortestWordToSpec)

/-- ITS FALSE NEIGHBOUR: 'it returns false'. Refute it at one input. -/
def fnExactShortestWordToWrong : ChangeSpec := { name := "fnExactShortestWordTo", fn := fun _ => fun
  | [d1, d2, d3, d4] => { results := [.lit (.bool false)], args := [d1, d2, d3, d4] }
  | _ => none }
def FnExactShortestWordToWrongFalsely : Prop := fnExactShortestWordToRow.holds Try.pinned (OpenSpec.ofChange fnExactShortestWordToWrong)

/-- 'laws.FnExactIsTransitive': WHATEVER THE INPUT: true; the input reads as it did. -/
def fnExactIsTransitiveSpec : ChangeSpec := { name := "fnExactIsTransitive", fn := fun _ => fun
  | [d1, d2] => { results := [.lit (.bool true)], args := [d1, d2] }
  | _ => none }
def fnExactIsTransitiveRow : OpenClaim := { program := "ytojmlmeahoppjaa", sum := "1a1b86fd1dd7e16287944d919903105a26bffc7a8543f7dcf7c8430deddd4991", func := "loop.example/g00855/laws.FnExactIsTransitive", spec := "fnExactIsTransitive", unfollowed := true, recurses := true, apart := false }
def FnExactIsTransitiveSaid : Prop := fnExactIsTransitiveRow.holds Try.pinned (OpenSpec.ofChange fnExactIsTransitiveSpec)

/-- ITS FALSE NEIGHBOUR: 'it returns false'. Refute it at one input. -/
def fnExactIsTransitiveWrong : ChangeSpec := { name := "fnExactIsTransitive", fn := fun _ => fun
  | [d1, d2] => { results := [.lit (.bool false)], args := [d1, d2] }
  | _ => none }
def FnExactIsTransitiveWrongFalsely : Prop := fnExactIsTransitiveRow.holds Try.pinned (OpenSpec.ofChange fnExactIsTransitiveWrong)

/-- 'laws.FnExactFixedPoints': WHATEVER THE INPUT: true; the input reads as it did. -/
def fnExactFixedPointsSpec : ChangeSpec := { name := "fnExactFixedPoints", fn := fun _ => fun
  | [d1, d2] => { results := [.lit (.bool true)], args := [d1, d2] }
  | _ => none }
def fnExactFixedPointsRow : OpenClaim := { program := "ytojmlmeahoppjaa", sum := "1a1b86fd1dd7e16287944d919903105a26bffc7a8543f7dcf7c8430deddd4991", func := "loop.example/g00855/laws.FnExactFixedPoints", spec := "fnExactFixedPoints", unfollowed := true, recurses := true, apart := false }
def FnExactFixedPointsSaid : Prop := fnExactFixedPointsRow.holds Try.pinned (OpenSpec.ofChange fnExactFixedPointsSpec)

/-- ITS FALSE NEIGHBOUR: 'it returns false'. Refute it at one input. -/
def fnExactFixedPointsWrong : ChangeSpec := { name := "fnExactFixedPoints", fn := fun _ => fun
  | [d1, d2] => { results := [.lit (.bool false)], args := [d1, d2] }
  | _ => none }
def FnExactFixedPointsWrongFalsely : Prop := fnExactFixedPointsRow.holds Try.pinned (OpenSpec.ofChange fnExactFixedPointsWrong)

/-- 'laws.FnExactPairOrbitCount': WHATEVER THE INPUT: true; the input reads as it did. -/
def fnExactPairOrbitCountSpec : ChangeSpec := { name := "fnExactPairOrbitCount", fn := fun _ => fun
  | [d1, d2] => { results := [.lit (.bool true)], args := [d1, d2] }
  | _ => none }
def fnExactPairOrbitCountRow : OpenClaim := { program := "ytojmlmeahoppjaa", sum := "1a1b86fd1dd7e16287944d919903105a26bffc7a8543f7dcf7c8430deddd4991", func := "loop.example/g00855/laws.FnExactPairOrbitCount", spec := "fnExactPairOrbitCount", unfollowed := true, recurses := true, apart := false }
def FnExactPairOrbitCountSaid : Prop := fnExactPairOrbitCountRow.holds Try.pinned (OpenSpec.ofChange fnExactPairOrbitCountSpec)

/-- ITS FALSE NEIGHBOUR: 'it returns false'. Refute it at one input. -/
def fnExactPairOrbitCountWrong : ChangeSpec := { name := "fnExactPairOrbitCount", fn := fun _ => fun
  | [d1, d2] => { results := [.lit (.bool false)], args := [d1, d2] }
  | _ => none }
def FnExactPairOrbitCountWrongFalsely : Prop := fnExactPairOrbitCountRow.holds Try.pinned (OpenSpec.ofChange fnExactPairOrbitCountWrong)

/-- 'laws.FnExactInverseGenerators': WHATEVER THE INPUT: true; the input reads as it did. -/
def fnExactInverseGeneratorsSpec : ChangeSpec := { name := "fnExactInverseGenerators", fn := fun _ => fun
  | [d1, d2] => { results := [.lit (.bool true)], args := [d1, d2] }
  | _ => none }
def fnExactInverseGeneratorsRow : OpenClaim := { program := "ytojmlmeahoppjaa", sum := "1a1b86fd1dd7e16287944d919903105a26bffc7a8543f7dcf7c8430deddd4991", func := "loop.example/g00855/laws.FnExactInverseGenerators", spec := "fnExactInverseGenerators", apart := false }
def FnExactInverseGeneratorsSaid : Prop := fnExactInverseGeneratorsRow.holds Try.pinned (OpenSpec.ofChange fnExactInverseGeneratorsSpec)

/-- ITS FALSE NEIGHBOUR: 'it returns false'. Refute it at one input. -/
def fnExactInverseGeneratorsWrong : ChangeSpec := { name := "fnExactInverseGenerators", fn := fun _ => fun
  | [d1, d2] => { results := [.lit (.bool false)], args := [d1, d2] }
  | _ => none }
def FnExactInverseGeneratorsWrongFalsely : Prop := fnExactInverseGeneratorsRow.holds Try.pinned (OpenSpec.ofChange fnExactInverseGeneratorsWrong)

/- THE SECOND FORM. 'bulk': how many values and letters a reading holds, each counted each time it is reached (what is shared counts as often as it is met; a slice's spare places count too). A statement '..UptoSaid' is the law's where the arguments, and the package variables that the reading takes, are together of bulk at most 1048576: NARROWER than '..Said'. Prove '..Said' where nothing that the law and all that it calls make is longer than what came in: it says more and counts as full. Else prove '..UptoSaid'. A law counts once. -/
mutual
def uptoBulk {H : Type} : DataW H → Nat
  | .lit (.string bytes) => bytes.length + 1
  | .lit _ => 1
  | .nil => 1
  | .ptr d => uptoBulk d + 1
  | .slice elems spare => uptoBulkAll elems + uptoBulkAll spare + 1
  | .agg parts => uptoBulkAll parts + 1
  | .iface _ d => uptoBulk d + 1
  | .map entries => uptoBulkEntries entries + 1
  | .held _ => 1
def uptoBulkAll {H : Type} : List (DataW H) → Nat
  | [] => 0
  | d :: r => uptoBulk d + uptoBulkAll r
def uptoBulkEntries {H : Type} : List (Lit × DataW H) → Nat
  | [] => 0
  | x :: r => uptoBulkEntry x + uptoBulkEntries r
def uptoBulkEntry {H : Type} : Lit × DataW H → Nat
  | (.string bytes, d) => bytes.length + uptoBulk d + 1
  | (_, d) => uptoBulk d + 1
 end
def uptoSmall : (H : Type) → List (DataW H) → Bool := fun _ ds => decide (uptoBulkAll ds ≤ 1048576)
def OpenSpec.upto (s : _root_.Go.ChangeSpec) : _root_.Go.OpenSpec := { _root_.Go.OpenSpec.ofChange s with cond := some uptoSmall }

/-- 'laws.FnOrbits', WHERE WHAT IT READS IS OF BULK AT MOST 1048576: true; the input reads as it did. -/
def fnOrbitsUptoRow : OpenClaim := { program := "ytojmlmeahoppjaa", sum := "1a1b86fd1dd7e16287944d919903105a26bffc7a8543f7dcf7c8430deddd4991", func := "loop.example/g00855/laws.FnOrbits", spec := "fnOrbits", unfollowed := true, recurses := true, apart := false, narrowed := true }
def FnOrbitsUptoSaid : Prop := fnOrbitsUptoRow.holds Try.pinned (OpenSpec.upto fnOrbitsSpec)

/-- 'laws.FnPairOrbits', WHERE WHAT IT READS IS OF BULK AT MOST 1048576: true; the input reads as it did. -/
def fnPairOrbitsUptoRow : OpenClaim := { program := "ytojmlmeahoppjaa", sum := "1a1b86fd1dd7e16287944d919903105a26bffc7a8543f7dcf7c8430deddd4991", func := "loop.example/g00855/laws.FnPairOrbits", spec := "fnPairOrbits", unfollowed := true, recurses := true, apart := false, narrowed := true }
def FnPairOrbitsUptoSaid : Prop := fnPairOrbitsUptoRow.holds Try.pinned (OpenSpec.upto fnPairOrbitsSpec)

/-- 'laws.FnExactIsGeneratorSet', WHERE WHAT IT READS IS OF BULK AT MOST 1048576: true; the input reads as it did. -/
def fnExactIsGeneratorSetUptoRow : OpenClaim := { program := "ytojmlmeahoppjaa", sum := "1a1b86fd1dd7e16287944d919903105a26bffc7a8543f7dcf7c8430deddd4991", func := "loop.example/g00855/laws.FnExactIsGeneratorSet", spec := "fnExactIsGeneratorSet", apart := false, narrowed := true }
def FnExactIsGeneratorSetUptoSaid : Prop := fnExactIsGeneratorSetUptoRow.holds Try.pinned (OpenSpec.upto fnExactIsGeneratorSetSpec)

/-- 'laws.FnExactOrbit', WHERE WHAT IT READS IS OF BULK AT MOST 1048576: true; the input reads as it did. -/
def fnExactOrbitUptoRow : OpenClaim := { program := "ytojmlmeahoppjaa", sum := "1a1b86fd1dd7e16287944d919903105a26bffc7a8543f7dcf7c8430deddd4991", func := "loop.example/g00855/laws.FnExactOrbit", spec := "fnExactOrbit", recurses := true, apart := false, narrowed := true }
def FnExactOrbitUptoSaid : Prop := fnExactOrbitUptoRow.holds Try.pinned (OpenSpec.upto fnExactOrbitSpec)

/-- 'laws.FnExactOrbits', WHERE WHAT IT READS IS OF BULK AT MOST 1048576: true; the input reads as it did. -/
def fnExactOrbitsUptoRow : OpenClaim := { program := "ytojmlmeahoppjaa", sum := "1a1b86fd1dd7e16287944d919903105a26bffc7a8543f7dcf7c8430deddd4991", func := "loop.example/g00855/laws.FnExactOrbits", spec := "fnExactOrbits", unfollowed := true, recurses := true, apart := false, narrowed := true }
def FnExactOrbitsUptoSaid : Prop := fnExactOrbitsUptoRow.holds Try.pinned (OpenSpec.upto fnExactOrbitsSpec)

/-- 'laws.FnExactShortestWordTo', WHERE WHAT IT READS IS OF BULK AT MOST 1048576: true; the input reads as it did. -/
def fnExactShortestWordToUptoRow : OpenClaim := { program := "ytojmlmeahoppjaa", sum := "1a1b86fd1dd7e16287944d919903105a26bffc7a8543f7dcf7c8430deddd4991", func := "loop.example/g00855/laws.FnExactShortestWordTo", spec := "fnExactShortestWordTo", apart := false, narrowed := true }
def FnExactShortestWordToUptoSaid : Prop := fnExactShortestWordToUptoRow.holds Try.pinned (OpenSpec.upto fnExactShortestWordToSpec)

/-- 'laws.FnExactIsTransitive', WHERE WHAT IT READS IS OF BULK AT MOST 1048576: true; the input reads as it did. -/
def fnExactIsTransitiveUptoRow : OpenClaim := { program := "ytojmlmeahoppjaa", sum := "1a1b86fd1dd7e16287944d919903105a26bffc7a8543f7dcf7c8430deddd4991", func := "loop.example/g00855/laws.FnExactIsTransitive", spec := "fnExactIsTransitive", unfollowed := true, recurses := true, apart := false, narrowed := true }
def FnExactIsTransitiveUptoSaid : Prop := fnExactIsTransitiveUptoRow.holds Try.pinned (OpenSpec.upto fnExactIsTransitiveSpec)

/-- 'laws.FnExactFixedPoints', WHERE WHAT IT READS IS OF BULK AT MOST 1048576: true; the input reads as it did. -/
def fnExactFixedPointsUptoRow : OpenClaim := { program := "ytojmlmeahoppjaa", sum := "1a1b86fd1dd7e16287944d919903105a26bffc7a8543f7dcf7c8430deddd4991", func := "loop.example/g00855/laws.FnExactFixedPoints", spec := "fnExactFixedPoints", unfollowed := true, recurses := true, apart := false, narrowed := true }
def FnExactFixedPointsUptoSaid : Prop := fnExactFixedPointsUptoRow.holds Try.pinned (OpenSpec.upto fnExactFixedPointsSpec)

/-- 'laws.FnExactPairOrbitCount', WHERE WHAT IT READS IS OF BULK AT MOST 1048576: true; the input reads as it did. -/
def fnExactPairOrbitCountUptoRow : OpenClaim := { program := "ytojmlmeahoppjaa", sum := "1a1b86fd1dd7e16287944d919903105a26bffc7a8543f7dcf7c8430deddd4991", func := "loop.example/g00855/laws.FnExactPairOrbitCount", spec := "fnExactPairOrbitCount", unfollowed := true, recurses := true, apart := false, narrowed := true }
def FnExactPairOrbitCountUptoSaid : Prop := fnExactPairOrbitCountUptoRow.holds Try.pinned (OpenSpec.upto fnExactPairOrbitCountSpec)

/-- 'laws.FnExactInverseGenerators', WHERE WHAT IT READS IS OF BULK AT MOST 1048576: true; the input reads as it did. -/
def fnExactInverseGeneratorsUptoRow : OpenClaim := { program := "ytojmlmeahoppjaa", sum := "1a1b86fd1dd7e16287944d919903105a26bffc7a8543f7dcf7c8430deddd4991", func := "loop.example/g00855/laws.FnExactInverseGenerators", spec := "fnExactInverseGenerators", apart := false, narrowed := true }
def FnExactInverseGeneratorsUptoSaid : Prop := fnExactInverseGeneratorsUptoRow.holds Try.pinned (OpenSpec.upto fnExactInverseGeneratorsSpec)

end Rows
end Go.Proofs.Ytojmlmeahoppjaa
