/-
  No cell of these rows narrows 'for every input' (looked for: loops, veiled, ifaces, maps, wideKeys, modest, calm, conditions, laid).
  DERIVED. THE GIVEN ROWS OF THIS SEAT. 9 by the template 'for every input the law returns true; each argument reads behind the call as it read before'; 0 by the template 'total and deterministic' (their statements: YtkjokchhffjidaaTotals.lean).
  GIVEN WITH THE SEED: the statements are not yours to turn. If you find one false, say at which input.
  Laid BY PROGRAM, IN A SANDBOX (cutbox-rows.mjs): the forced cells as the released guide's own fill.sh prints them over the translation 99bd4cad80450f6a… (all of the seat's roots in one cut). By AI agents, Wed Nov 11 2026. No macro, syntax, notation, axiom, sorry.
-/
import Derived.Test.YtkjokchhffjidaaChecked
import GoSem.Claim
import GoSem.ClaimJoined
import GoSem.ClaimMapViews
import Derived.JoinedTies
import Derived.KernelRfl
namespace Go.Proofs.Ytkjokchhffjidaa
/- THE CELL 'sum', in the pinned program and in every row, IS THE sha256 OF THE DUMP (.gsa) THAT YtkjokchhffjidaaProg.lean LOADS. Nothing in Lean hashes anything: it is a label: what it is worth is what the hold of that sum in a sandbox is worth. -/
noncomputable def Try.pinned : Pinned := { name := "ytkjokchhffjidaa", sum := "99bd4cad80450f6a882e414a0e0e3e061d2f78a4eac1417457e8e580f653d342", checked := Try.checked }
namespace Rows
def none {H : Type} : Left H := { results := [], args := [] }

/-- 'laws.FnPuzzleStates': WHATEVER THE INPUT: true; the input reads as it did. -/
def fnPuzzleStatesSpec : ChangeSpec := { name := "fnPuzzleStates", fn := fun _ => fun
  | [d] => { results := [.lit (.bool true)], args := [d] }
  | _ => none }
def fnPuzzleStatesRow : OpenClaim := { program := "ytkjokchhffjidaa", sum := "99bd4cad80450f6a882e414a0e0e3e061d2f78a4eac1417457e8e580f653d342", func := "loop.example/g00855/laws.FnPuzzleStates", spec := "fnPuzzleStates", inPlace := ["internal/bytealg.IndexByteString"], unfollowed := true, recurses := true, apart := false }
def FnPuzzleStatesSaid : Prop := fnPuzzleStatesRow.holds Try.pinned (OpenSpec.ofChange fnPuzzleStatesSpec)

/-- ITS FALSE NEIGHBOUR: 'it returns false'. Refute it at one input. -/
def fnPuzzleStatesWrong : ChangeSpec := { name := "fnPuzzleStates", fn := fun _ => fun
  | [d] => { results := [.lit (.bool false)], args := [d] }
  | _ => none }
def FnPuzzleStatesWrongFalsely : Prop := fnPuzzleStatesRow.holds Try.pinned (OpenSpec.ofChange fnPuzzleStatesWrong)

/-- 'laws.FnExactIsValidPuzzle': WHATEVER THE INPUT: true; the input reads as it did. -/
def fnExactIsValidPuzzleSpec : ChangeSpec := { name := "fnExactIsValidPuzzle", fn := fun _ => fun
  | [d] => { results := [.lit (.bool true)], args := [d] }
  | _ => none }
def fnExactIsValidPuzzleRow : OpenClaim := { program := "ytkjokchhffjidaa", sum := "99bd4cad80450f6a882e414a0e0e3e061d2f78a4eac1417457e8e580f653d342", func := "loop.example/g00855/laws.FnExactIsValidPuzzle", spec := "fnExactIsValidPuzzle", inPlace := ["internal/bytealg.IndexByteString"], apart := false }
def FnExactIsValidPuzzleSaid : Prop := fnExactIsValidPuzzleRow.holds Try.pinned (OpenSpec.ofChange fnExactIsValidPuzzleSpec)

/-- ITS FALSE NEIGHBOUR: 'it returns false'. Refute it at one input. -/
def fnExactIsValidPuzzleWrong : ChangeSpec := { name := "fnExactIsValidPuzzle", fn := fun _ => fun
  | [d] => { results := [.lit (.bool false)], args := [d] }
  | _ => none }
def FnExactIsValidPuzzleWrongFalsely : Prop := fnExactIsValidPuzzleRow.holds Try.pinned (OpenSpec.ofChange fnExactIsValidPuzzleWrong)

/-- 'laws.FnExactSamePuzzle': WHATEVER THE INPUT: true; the input reads as it did. -/
def fnExactSamePuzzleSpec : ChangeSpec := { name := "fnExactSamePuzzle", fn := fun _ => fun
  | [d1, d2] => { results := [.lit (.bool true)], args := [d1, d2] }
  | _ => none }
def fnExactSamePuzzleRow : OpenClaim := { program := "ytkjokchhffjidaa", sum := "99bd4cad80450f6a882e414a0e0e3e061d2f78a4eac1417457e8e580f653d342", func := "loop.example/g00855/laws.FnExactSamePuzzle", spec := "fnExactSamePuzzle", inPlace := ["internal/bytealg.IndexByteString"], unfollowed := true, recurses := true, apart := false }
def FnExactSamePuzzleSaid : Prop := fnExactSamePuzzleRow.holds Try.pinned (OpenSpec.ofChange fnExactSamePuzzleSpec)

/-- ITS FALSE NEIGHBOUR: 'it returns false'. Refute it at one input. -/
def fnExactSamePuzzleWrong : ChangeSpec := { name := "fnExactSamePuzzle", fn := fun _ => fun
  | [d1, d2] => { results := [.lit (.bool false)], args := [d1, d2] }
  | _ => none }
def FnExactSamePuzzleWrongFalsely : Prop := fnExactSamePuzzleRow.holds Try.pinned (OpenSpec.ofChange fnExactSamePuzzleWrong)

/-- 'laws.FnExactIsState': WHATEVER THE INPUT: true; the input reads as it did. -/
def fnExactIsStateSpec : ChangeSpec := { name := "fnExactIsState", fn := fun _ => fun
  | [d1, d2] => { results := [.lit (.bool true)], args := [d1, d2] }
  | _ => none }
def fnExactIsStateRow : OpenClaim := { program := "ytkjokchhffjidaa", sum := "99bd4cad80450f6a882e414a0e0e3e061d2f78a4eac1417457e8e580f653d342", func := "loop.example/g00855/laws.FnExactIsState", spec := "fnExactIsState", inPlace := ["internal/bytealg.IndexByteString"], apart := false }
def FnExactIsStateSaid : Prop := fnExactIsStateRow.holds Try.pinned (OpenSpec.ofChange fnExactIsStateSpec)

/-- ITS FALSE NEIGHBOUR: 'it returns false'. Refute it at one input. -/
def fnExactIsStateWrong : ChangeSpec := { name := "fnExactIsState", fn := fun _ => fun
  | [d1, d2] => { results := [.lit (.bool false)], args := [d1, d2] }
  | _ => none }
def FnExactIsStateWrongFalsely : Prop := fnExactIsStateRow.holds Try.pinned (OpenSpec.ofChange fnExactIsStateWrong)

/-- 'laws.FnExactApplyWord': WHATEVER THE INPUT: true; the input reads as it did. -/
def fnExactApplyWordSpec : ChangeSpec := { name := "fnExactApplyWord", fn := fun _ => fun
  | [d1, d2, d3] => { results := [.lit (.bool true)], args := [d1, d2, d3] }
  | _ => none }
def fnExactApplyWordRow : OpenClaim := { program := "ytkjokchhffjidaa", sum := "99bd4cad80450f6a882e414a0e0e3e061d2f78a4eac1417457e8e580f653d342", func := "loop.example/g00855/laws.FnExactApplyWord", spec := "fnExactApplyWord", inPlace := ["internal/bytealg.IndexByteString"], apart := false }
def FnExactApplyWordSaid : Prop := fnExactApplyWordRow.holds Try.pinned (OpenSpec.ofChange fnExactApplyWordSpec)

/-- ITS FALSE NEIGHBOUR: 'it returns false'. Refute it at one input. -/
def fnExactApplyWordWrong : ChangeSpec := { name := "fnExactApplyWord", fn := fun _ => fun
  | [d1, d2, d3] => { results := [.lit (.bool false)], args := [d1, d2, d3] }
  | _ => none }
def FnExactApplyWordWrongFalsely : Prop := fnExactApplyWordRow.holds Try.pinned (OpenSpec.ofChange fnExactApplyWordWrong)

/-- 'laws.FnExactIsSolved': WHATEVER THE INPUT: true; the input reads as it did. -/
def fnExactIsSolvedSpec : ChangeSpec := { name := "fnExactIsSolved", fn := fun _ => fun
  | [d1, d2] => { results := [.lit (.bool true)], args := [d1, d2] }
  | _ => none }
def fnExactIsSolvedRow : OpenClaim := { program := "ytkjokchhffjidaa", sum := "99bd4cad80450f6a882e414a0e0e3e061d2f78a4eac1417457e8e580f653d342", func := "loop.example/g00855/laws.FnExactIsSolved", spec := "fnExactIsSolved", inPlace := ["internal/bytealg.IndexByteString"], apart := false }
def FnExactIsSolvedSaid : Prop := fnExactIsSolvedRow.holds Try.pinned (OpenSpec.ofChange fnExactIsSolvedSpec)

/-- ITS FALSE NEIGHBOUR: 'it returns false'. Refute it at one input. -/
def fnExactIsSolvedWrong : ChangeSpec := { name := "fnExactIsSolved", fn := fun _ => fun
  | [d1, d2] => { results := [.lit (.bool false)], args := [d1, d2] }
  | _ => none }
def FnExactIsSolvedWrongFalsely : Prop := fnExactIsSolvedRow.holds Try.pinned (OpenSpec.ofChange fnExactIsSolvedWrong)

/-- 'laws.FnExactMoveIndex': WHATEVER THE INPUT: true; the input reads as it did. -/
def fnExactMoveIndexSpec : ChangeSpec := { name := "fnExactMoveIndex", fn := fun _ => fun
  | [d1, d2] => { results := [.lit (.bool true)], args := [d1, d2] }
  | _ => none }
def fnExactMoveIndexRow : OpenClaim := { program := "ytkjokchhffjidaa", sum := "99bd4cad80450f6a882e414a0e0e3e061d2f78a4eac1417457e8e580f653d342", func := "loop.example/g00855/laws.FnExactMoveIndex", spec := "fnExactMoveIndex", inPlace := ["internal/bytealg.IndexByteString", "internal/bytealg.IndexString"], named := ["internal/bytealg.MaxLen"], apart := false }
def FnExactMoveIndexSaid : Prop := fnExactMoveIndexRow.holds Try.pinned (OpenSpec.ofChange fnExactMoveIndexSpec)

/-- ITS FALSE NEIGHBOUR: 'it returns false'. Refute it at one input. -/
def fnExactMoveIndexWrong : ChangeSpec := { name := "fnExactMoveIndex", fn := fun _ => fun
  | [d1, d2] => { results := [.lit (.bool false)], args := [d1, d2] }
  | _ => none }
def FnExactMoveIndexWrongFalsely : Prop := fnExactMoveIndexRow.holds Try.pinned (OpenSpec.ofChange fnExactMoveIndexWrong)

/-- 'laws.FnExactStateCount': WHATEVER THE INPUT: true; the input reads as it did. -/
def fnExactStateCountSpec : ChangeSpec := { name := "fnExactStateCount", fn := fun _ => fun
  | [d] => { results := [.lit (.bool true)], args := [d] }
  | _ => none }
def fnExactStateCountRow : OpenClaim := { program := "ytkjokchhffjidaa", sum := "99bd4cad80450f6a882e414a0e0e3e061d2f78a4eac1417457e8e580f653d342", func := "loop.example/g00855/laws.FnExactStateCount", spec := "fnExactStateCount", inPlace := ["internal/bytealg.IndexByteString"], recurses := true, apart := false }
def FnExactStateCountSaid : Prop := fnExactStateCountRow.holds Try.pinned (OpenSpec.ofChange fnExactStateCountSpec)

/-- ITS FALSE NEIGHBOUR: 'it returns false'. Refute it at one input. -/
def fnExactStateCountWrong : ChangeSpec := { name := "fnExactStateCount", fn := fun _ => fun
  | [d] => { results := [.lit (.bool false)], args := [d] }
  | _ => none }
def FnExactStateCountWrongFalsely : Prop := fnExactStateCountRow.holds Try.pinned (OpenSpec.ofChange fnExactStateCountWrong)

/-- 'laws.FnExactIsReachable': WHATEVER THE INPUT: true; the input reads as it did. -/
def fnExactIsReachableSpec : ChangeSpec := { name := "fnExactIsReachable", fn := fun _ => fun
  | [d1, d2] => { results := [.lit (.bool true)], args := [d1, d2] }
  | _ => none }
def fnExactIsReachableRow : OpenClaim := { program := "ytkjokchhffjidaa", sum := "99bd4cad80450f6a882e414a0e0e3e061d2f78a4eac1417457e8e580f653d342", func := "loop.example/g00855/laws.FnExactIsReachable", spec := "fnExactIsReachable", inPlace := ["internal/bytealg.IndexByteString"], recurses := true, apart := false }
def FnExactIsReachableSaid : Prop := fnExactIsReachableRow.holds Try.pinned (OpenSpec.ofChange fnExactIsReachableSpec)

/-- ITS FALSE NEIGHBOUR: 'it returns false'. Refute it at one input. -/
def fnExactIsReachableWrong : ChangeSpec := { name := "fnExactIsReachable", fn := fun _ => fun
  | [d1, d2] => { results := [.lit (.bool false)], args := [d1, d2] }
  | _ => none }
def FnExactIsReachableWrongFalsely : Prop := fnExactIsReachableRow.holds Try.pinned (OpenSpec.ofChange fnExactIsReachableWrong)

/- THE SECOND FORM. 'bulk': how many values and letters a reading holds, each counted each time it is reached (what is shared counts as often as it is met; a slice's spare places count too). A statement '..UptoSaid' is the law's where the arguments, and the package variables that the reading takes, are together of bulk at most 1048576: NARROWER than '..Said'. Prove '..Said' where nothing that the law and all that it calls make is longer than what came in: it says more and counts as full. Else prove '..UptoSaid'. A law counts once. -/
mutual
def uptoBulk {H : Type} : DataW H → Nat
  | .lit (.string bytes) => bytes.length + 1
  | .lit _ => 1
  | .nil => 1
  | .ptr d => uptoBulk d + 1
  | .slice elems spare => uptoBulkAll elems + uptoBulkAll spare + 1
  | .agg parts => uptoBulkAll parts + 1
  | .iface _ d => uptoBulk d + 1
  | .map entries => uptoBulkEntries entries + 1
  | .held _ => 1
def uptoBulkAll {H : Type} : List (DataW H) → Nat
  | [] => 0
  | d :: r => uptoBulk d + uptoBulkAll r
def uptoBulkEntries {H : Type} : List (Lit × DataW H) → Nat
  | [] => 0
  | x :: r => uptoBulkEntry x + uptoBulkEntries r
def uptoBulkEntry {H : Type} : Lit × DataW H → Nat
  | (.string bytes, d) => bytes.length + uptoBulk d + 1
  | (_, d) => uptoBulk d + 1
 end
def uptoSmall : (H : Type) → List (DataW H) → Bool := fun _ ds => decide (uptoBulkAll ds ≤ 1048576)
def OpenSpec.upto (s : _root_.Go.ChangeSpec) : _root_.Go.OpenSpec := { _root_.Go.OpenSpec.ofChange s with cond := some uptoSmall }

/-- 'laws.FnPuzzleStates', WHERE WHAT IT READS IS OF BULK AT MOST 1048576: true; the input reads as it did. -/
def fnPuzzleStatesUptoRow : OpenClaim := { program := "ytkjokchhffjidaa", sum := "99bd4cad80450f6a882e414a0e0e3e061d2f78a4eac1417457e8e580f653d342", func := "loop.example/g00855/laws.FnPuzzleStates", spec := "fnPuzzleStates", inPlace := ["internal/bytealg.IndexByteString"], unfollowed := true, recurses := true, apart := false, narrowed := true }
def FnPuzzleStatesUptoSaid : Prop := fnPuzzleStatesUptoRow.holds Try.pinned (OpenSpec.upto fnPuzzleStatesSpec)

/-- 'laws.FnExactIsValidPuzzle', WHERE WHAT IT READS IS OF BULK AT MOST 1048576: true; the input reads as it did. -/
def fnExactIsValidPuzzleUptoRow : OpenClaim := { program := "ytkjokchhffjidaa", sum := "99bd4cad80450f6a882e414a0e0e3e061d2f78a4eac1417457e8e580f653d342", func := "loop.example/g00855/laws.FnExactIsValidPuzzle", spec := "fnExactIsValidPuzzle", inPlace := ["internal/bytealg.IndexByteString"], apart := false, narrowed := true }
def FnExactIsValidPuzzleUptoSaid : Prop := fnExactIsValidPuzzleUptoRow.holds Try.pinned (OpenSpec.upto fnExactIsValidPuzzleSpec)

/-- 'laws.FnExactSamePuzzle', WHERE WHAT IT READS IS OF BULK AT MOST 1048576: true; the input reads as it did. -/
def fnExactSamePuzzleUptoRow : OpenClaim := { program := "ytkjokchhffjidaa", sum := "99bd4cad80450f6a882e414a0e0e3e061d2f78a4eac1417457e8e580f653d342", func := "loop.example/g00855/laws.FnExactSamePuzzle", spec := "fnExactSamePuzzle", inPlace := ["internal/bytealg.IndexByteString"], unfollowed := true, recurses := true, apart := false, narrowed := true }
def FnExactSamePuzzleUptoSaid : Prop := fnExactSamePuzzleUptoRow.holds Try.pinned (OpenSpec.upto fnExactSamePuzzleSpec)

/-- 'laws.FnExactIsState', WHERE WHAT IT READS IS OF BULK AT MOST 1048576: true; the input reads as it did. -/
def fnExactIsStateUptoRow : OpenClaim := { program := "ytkjokchhffjidaa", sum := "99bd4cad80450f6a882e414a0e0e3e061d2f78a4eac1417457e8e580f653d342", func := "loop.example/g00855/laws.FnExactIsState", spec := "fnExactIsState", inPlace := ["internal/bytealg.IndexByteString"], apart := false, narrowed := true }
def FnExactIsStateUptoSaid : Prop := fnExactIsStateUptoRow.holds Try.pinned (OpenSpec.upto fnExactIsStateSpec)

/-- 'laws.FnExactApplyWord', WHERE WHAT IT READS IS OF BULK AT MOST 1048576: true; the input reads as it did. -/
def fnExactApplyWordUptoRow : OpenClaim := { program := "ytkjokchhffjidaa", sum := "99bd4cad80450f6a882e414a0e0e3e061d2f78a4eac1417457e8e580f653d342", func := "loop.example/g00855/laws.FnExactApplyWord", spec := "fnExactApplyWord", inPlace := ["internal/bytealg.IndexByteString"], apart := false, narrowed := true }
def FnExactApplyWordUptoSaid : Prop := fnExactApplyWordUptoRow.holds Try.pinned (OpenSpec.upto fnExactApplyWordSpec)

/-- 'laws.FnExactIsSolved', WHERE WHAT IT READS IS OF BULK AT MOST 1048576: true; the input reads as it did. -/
def fnExactIsSolvedUptoRow : OpenClaim := { program := "ytkjokchhffjidaa", sum := "99bd4cad80450f6a882e414a0e0e3e061d2f78a4eac1417457e8e580f653d342", func := "loop.example/g00855/laws.FnExactIsSolved", spec := "fnExactIsSolved", inPlace := ["internal/bytealg.IndexByteString"], apart := false, narrowed := true }
def FnExactIsSolvedUptoSaid : Prop := fnExactIsSolvedUptoRow.holds Try.pinned (OpenSpec.upto fnExactIsSolvedSpec)

/-- 'laws.FnExactMoveIndex', WHERE WHAT IT READS IS OF BULK AT MOST 1048576: true; the input reads as it did. -/
def fnExactMoveIndexUptoRow : OpenClaim := { program := "ytkjokchhffjidaa", sum := "99bd4cad80450f6a882e414a0e0e3e061d2f78a4eac1417457e8e580f653d342", func := "loop.example/g00855/laws.FnExactMoveIndex", spec := "fnExactMoveIndex", inPlace := ["internal/bytealg.IndexByteString", "internal/bytealg.IndexString"], named := ["internal/bytealg.MaxLen"], apart := false, narrowed := true }
def FnExactMoveIndexUptoSaid : Prop := fnExactMoveIndexUptoRow.holds Try.pinned (OpenSpec.upto fnExactMoveIndexSpec)

/-- 'laws.FnExactStateCount', WHERE WHAT IT READS IS OF BULK AT MOST 1048576: true; the input reads as it did. -/
def fnExactStateCountUptoRow : OpenClaim := { program := "ytkjokchhffjidaa", sum := "99bd4cad80450f6a882e414a0e0e3e061d2f78a4eac1417457e8e580f653d342", func := "loop.example/g00855/laws.FnExactStateCount", spec := "fnExactStateCount", inPlace := ["internal/bytealg.IndexByteString"], recurses := true, apart := false, narrowed := true }
def FnExactStateCountUptoSaid : Prop := fnExactStateCountUptoRow.holds Try.pinned (OpenSpec.upto fnExactStateCountSpec)

/-- 'laws.FnExactIsReachable', WHERE WHAT IT READS IS OF BULK AT MOST 1048576: true; the input reads as it did. -/
def fnExactIsReachableUptoRow : OpenClaim := { program := "ytkjokchhffjidaa", sum := "99bd4cad80450f6a882e414a0e0e3e061d2f78a4eac1417457e8e580f653d342", func := "loop.example/g00855/laws.FnExactIsReachable", spec := "fnExactIsReachable", inPlace := ["internal/bytealg.IndexByteString"], recurses := true, apart := false, narrowed := true }
def FnExactIsReachableUptoSaid : Prop := fnExactIsReachableUptoRow.holds Try.pinned (OpenSpec.upto fnExactIsReachableSpec)

end Rows
end Go.Proofs.Ytkjokchhffjidaa
