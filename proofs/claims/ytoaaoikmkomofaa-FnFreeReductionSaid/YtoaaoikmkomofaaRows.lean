/-
  No cell of these rows narrows 'for every input' (looked for: loops, veiled, ifaces, maps, wideKeys, modest, calm, conditions, laid).
  DERIVED. THE GIVEN ROWS OF THIS SEAT. 13 by the template 'for every input the law returns true; each argument reads behind the call as it read before'; 0 by the template 'total and deterministic' (their statements: YtoaaoikmkomofaaTotals.lean).
  GIVEN WITH THE SEED: the statements are not yours to turn. If you find one false, say at which input.
  Laid BY PROGRAM, IN A SANDBOX (cutbox-rows.mjs): the forced cells as the released guide's own fill.sh prints them over the translation 12ba362aab332e7f… (all of the seat's roots in one cut). By AI agents, Wed Nov 11 2026. No macro, syntax, notation, axiom, sorry.
-/
import Derived.Test.YtoaaoikmkomofaaChecked
import GoSem.Claim
import GoSem.ClaimJoined
import GoSem.ClaimMapViews
import Derived.JoinedTies
import Derived.KernelRfl
namespace Go.Proofs.Ytoaaoikmkomofaa
/- THE CELL 'sum', in the pinned program and in every row, IS THE sha256 OF THE DUMP (.gsa) THAT YtoaaoikmkomofaaProg.lean LOADS. Nothing in Lean hashes anything: it is a label: what it is worth is what the hold of that sum in a sandbox is worth. -/
noncomputable def Try.pinned : Pinned := { name := "ytoaaoikmkomofaa", sum := "12ba362aab332e7f4fcf12b8adb53e721f6f7a6b1f8c54e94d28aa4059ba3e25", checked := Try.checked }
namespace Rows
def none {H : Type} : Left H := { results := [], args := [] }

/-- 'laws.FnWordEvaluation': WHATEVER THE INPUT: true; the input reads as it did. -/
def fnWordEvaluationSpec : ChangeSpec := { name := "fnWordEvaluation", fn := fun _ => fun
  | [d] => { results := [.lit (.bool true)], args := [d] }
  | _ => none }
def fnWordEvaluationRow : OpenClaim := { program := "ytoaaoikmkomofaa", sum := "12ba362aab332e7f4fcf12b8adb53e721f6f7a6b1f8c54e94d28aa4059ba3e25", func := "loop.example/g00855/laws.FnWordEvaluation", spec := "fnWordEvaluation", unfollowed := true, recurses := true, apart := false }
def FnWordEvaluationSaid : Prop := fnWordEvaluationRow.holds Try.pinned (OpenSpec.ofChange fnWordEvaluationSpec)

/-- ITS FALSE NEIGHBOUR: 'it returns false'. Refute it at one input. -/
def fnWordEvaluationWrong : ChangeSpec := { name := "fnWordEvaluation", fn := fun _ => fun
  | [d] => { results := [.lit (.bool false)], args := [d] }
  | _ => none }
def FnWordEvaluationWrongFalsely : Prop := fnWordEvaluationRow.holds Try.pinned (OpenSpec.ofChange fnWordEvaluationWrong)

/-- 'laws.FnFreeReduction': WHATEVER THE INPUT: true; the input reads as it did. -/
def fnFreeReductionSpec : ChangeSpec := { name := "fnFreeReduction", fn := fun _ => fun
  | [d] => { results := [.lit (.bool true)], args := [d] }
  | _ => none }
def fnFreeReductionRow : OpenClaim := { program := "ytoaaoikmkomofaa", sum := "12ba362aab332e7f4fcf12b8adb53e721f6f7a6b1f8c54e94d28aa4059ba3e25", func := "loop.example/g00855/laws.FnFreeReduction", spec := "fnFreeReduction", unfollowed := true, recurses := true, apart := false }
def FnFreeReductionSaid : Prop := fnFreeReductionRow.holds Try.pinned (OpenSpec.ofChange fnFreeReductionSpec)

/-- ITS FALSE NEIGHBOUR: 'it returns false'. Refute it at one input. -/
def fnFreeReductionWrong : ChangeSpec := { name := "fnFreeReduction", fn := fun _ => fun
  | [d] => { results := [.lit (.bool false)], args := [d] }
  | _ => none }
def FnFreeReductionWrongFalsely : Prop := fnFreeReductionRow.holds Try.pinned (OpenSpec.ofChange fnFreeReductionWrong)

/-- 'laws.FnWordForms': WHATEVER THE INPUT: true; the input reads as it did. -/
def fnWordFormsSpec : ChangeSpec := { name := "fnWordForms", fn := fun _ => fun
  | [d] => { results := [.lit (.bool true)], args := [d] }
  | _ => none }
def fnWordFormsRow : OpenClaim := { program := "ytoaaoikmkomofaa", sum := "12ba362aab332e7f4fcf12b8adb53e721f6f7a6b1f8c54e94d28aa4059ba3e25", func := "loop.example/g00855/laws.FnWordForms", spec := "fnWordForms", unfollowed := true, recurses := true, apart := false }
def FnWordFormsSaid : Prop := fnWordFormsRow.holds Try.pinned (OpenSpec.ofChange fnWordFormsSpec)

/-- ITS FALSE NEIGHBOUR: 'it returns false'. Refute it at one input. -/
def fnWordFormsWrong : ChangeSpec := { name := "fnWordForms", fn := fun _ => fun
  | [d] => { results := [.lit (.bool false)], args := [d] }
  | _ => none }
def FnWordFormsWrongFalsely : Prop := fnWordFormsRow.holds Try.pinned (OpenSpec.ofChange fnWordFormsWrong)

/-- 'laws.FnExactIsValidWord': WHATEVER THE INPUT: true; the input reads as it did. -/
def fnExactIsValidWordSpec : ChangeSpec := { name := "fnExactIsValidWord", fn := fun _ => fun
  | [d1, d2] => { results := [.lit (.bool true)], args := [d1, d2] }
  | _ => none }
def fnExactIsValidWordRow : OpenClaim := { program := "ytoaaoikmkomofaa", sum := "12ba362aab332e7f4fcf12b8adb53e721f6f7a6b1f8c54e94d28aa4059ba3e25", func := "loop.example/g00855/laws.FnExactIsValidWord", spec := "fnExactIsValidWord", apart := false }
def FnExactIsValidWordSaid : Prop := fnExactIsValidWordRow.holds Try.pinned (OpenSpec.ofChange fnExactIsValidWordSpec)

/-- ITS FALSE NEIGHBOUR: 'it returns false'. Refute it at one input. -/
def fnExactIsValidWordWrong : ChangeSpec := { name := "fnExactIsValidWord", fn := fun _ => fun
  | [d1, d2] => { results := [.lit (.bool false)], args := [d1, d2] }
  | _ => none }
def FnExactIsValidWordWrongFalsely : Prop := fnExactIsValidWordRow.holds Try.pinned (OpenSpec.ofChange fnExactIsValidWordWrong)

/-- 'laws.FnExactEvaluateWord': WHATEVER THE INPUT: true; the input reads as it did. -/
def fnExactEvaluateWordSpec : ChangeSpec := { name := "fnExactEvaluateWord", fn := fun _ => fun
  | [d1, d2, d3] => { results := [.lit (.bool true)], args := [d1, d2, d3] }
  | _ => none }
def fnExactEvaluateWordRow : OpenClaim := { program := "ytoaaoikmkomofaa", sum := "12ba362aab332e7f4fcf12b8adb53e721f6f7a6b1f8c54e94d28aa4059ba3e25", func := "loop.example/g00855/laws.FnExactEvaluateWord", spec := "fnExactEvaluateWord", apart := false }
def FnExactEvaluateWordSaid : Prop := fnExactEvaluateWordRow.holds Try.pinned (OpenSpec.ofChange fnExactEvaluateWordSpec)

/-- ITS FALSE NEIGHBOUR: 'it returns false'. Refute it at one input. -/
def fnExactEvaluateWordWrong : ChangeSpec := { name := "fnExactEvaluateWord", fn := fun _ => fun
  | [d1, d2, d3] => { results := [.lit (.bool false)], args := [d1, d2, d3] }
  | _ => none }
def FnExactEvaluateWordWrongFalsely : Prop := fnExactEvaluateWordRow.holds Try.pinned (OpenSpec.ofChange fnExactEvaluateWordWrong)

/-- 'laws.FnExactInvertWord': WHATEVER THE INPUT: true; the input reads as it did. -/
def fnExactInvertWordSpec : ChangeSpec := { name := "fnExactInvertWord", fn := fun _ => fun
  | [d] => { results := [.lit (.bool true)], args := [d] }
  | _ => none }
def fnExactInvertWordRow : OpenClaim := { program := "ytoaaoikmkomofaa", sum := "12ba362aab332e7f4fcf12b8adb53e721f6f7a6b1f8c54e94d28aa4059ba3e25", func := "loop.example/g00855/laws.FnExactInvertWord", spec := "fnExactInvertWord", unfollowed := true, recurses := true, apart := false }
def FnExactInvertWordSaid : Prop := fnExactInvertWordRow.holds Try.pinned (OpenSpec.ofChange fnExactInvertWordSpec)

/-- ITS FALSE NEIGHBOUR: 'it returns false'. Refute it at one input. -/
def fnExactInvertWordWrong : ChangeSpec := { name := "fnExactInvertWord", fn := fun _ => fun
  | [d] => { results := [.lit (.bool false)], args := [d] }
  | _ => none }
def FnExactInvertWordWrongFalsely : Prop := fnExactInvertWordRow.holds Try.pinned (OpenSpec.ofChange fnExactInvertWordWrong)

/-- 'laws.FnExactFreeReduce': WHATEVER THE INPUT: true; the input reads as it did. -/
def fnExactFreeReduceSpec : ChangeSpec := { name := "fnExactFreeReduce", fn := fun _ => fun
  | [d] => { results := [.lit (.bool true)], args := [d] }
  | _ => none }
def fnExactFreeReduceRow : OpenClaim := { program := "ytoaaoikmkomofaa", sum := "12ba362aab332e7f4fcf12b8adb53e721f6f7a6b1f8c54e94d28aa4059ba3e25", func := "loop.example/g00855/laws.FnExactFreeReduce", spec := "fnExactFreeReduce", apart := false }
def FnExactFreeReduceSaid : Prop := fnExactFreeReduceRow.holds Try.pinned (OpenSpec.ofChange fnExactFreeReduceSpec)

/-- ITS FALSE NEIGHBOUR: 'it returns false'. Refute it at one input. -/
def fnExactFreeReduceWrong : ChangeSpec := { name := "fnExactFreeReduce", fn := fun _ => fun
  | [d] => { results := [.lit (.bool false)], args := [d] }
  | _ => none }
def FnExactFreeReduceWrongFalsely : Prop := fnExactFreeReduceRow.holds Try.pinned (OpenSpec.ofChange fnExactFreeReduceWrong)

/-- 'laws.FnExactConcatWords': WHATEVER THE INPUT: true; the input reads as it did. -/
def fnExactConcatWordsSpec : ChangeSpec := { name := "fnExactConcatWords", fn := fun _ => fun
  | [d1, d2] => { results := [.lit (.bool true)], args := [d1, d2] }
  | _ => none }
def fnExactConcatWordsRow : OpenClaim := { program := "ytoaaoikmkomofaa", sum := "12ba362aab332e7f4fcf12b8adb53e721f6f7a6b1f8c54e94d28aa4059ba3e25", func := "loop.example/g00855/laws.FnExactConcatWords", spec := "fnExactConcatWords", apart := false }
def FnExactConcatWordsSaid : Prop := fnExactConcatWordsRow.holds Try.pinned (OpenSpec.ofChange fnExactConcatWordsSpec)

/-- ITS FALSE NEIGHBOUR: 'it returns false'. Refute it at one input. -/
def fnExactConcatWordsWrong : ChangeSpec := { name := "fnExactConcatWords", fn := fun _ => fun
  | [d1, d2] => { results := [.lit (.bool false)], args := [d1, d2] }
  | _ => none }
def FnExactConcatWordsWrongFalsely : Prop := fnExactConcatWordsRow.holds Try.pinned (OpenSpec.ofChange fnExactConcatWordsWrong)

/-- 'laws.FnExactRepeatWord': WHATEVER THE INPUT: true; the input reads as it did. -/
def fnExactRepeatWordSpec : ChangeSpec := { name := "fnExactRepeatWord", fn := fun _ => fun
  | [d1, d2] => { results := [.lit (.bool true)], args := [d1, d2] }
  | _ => none }
def fnExactRepeatWordRow : OpenClaim := { program := "ytoaaoikmkomofaa", sum := "12ba362aab332e7f4fcf12b8adb53e721f6f7a6b1f8c54e94d28aa4059ba3e25", func := "loop.example/g00855/laws.FnExactRepeatWord", spec := "fnExactRepeatWord", unfollowed := true, recurses := true, apart := false }
def FnExactRepeatWordSaid : Prop := fnExactRepeatWordRow.holds Try.pinned (OpenSpec.ofChange fnExactRepeatWordSpec)

/-- ITS FALSE NEIGHBOUR: 'it returns false'. Refute it at one input. -/
def fnExactRepeatWordWrong : ChangeSpec := { name := "fnExactRepeatWord", fn := fun _ => fun
  | [d1, d2] => { results := [.lit (.bool false)], args := [d1, d2] }
  | _ => none }
def FnExactRepeatWordWrongFalsely : Prop := fnExactRepeatWordRow.holds Try.pinned (OpenSpec.ofChange fnExactRepeatWordWrong)

/-- 'laws.FnExactCommutator': WHATEVER THE INPUT: true; the input reads as it did. -/
def fnExactCommutatorSpec : ChangeSpec := { name := "fnExactCommutator", fn := fun _ => fun
  | [d1, d2] => { results := [.lit (.bool true)], args := [d1, d2] }
  | _ => none }
def fnExactCommutatorRow : OpenClaim := { program := "ytoaaoikmkomofaa", sum := "12ba362aab332e7f4fcf12b8adb53e721f6f7a6b1f8c54e94d28aa4059ba3e25", func := "loop.example/g00855/laws.FnExactCommutator", spec := "fnExactCommutator", unfollowed := true, recurses := true, apart := false }
def FnExactCommutatorSaid : Prop := fnExactCommutatorRow.holds Try.pinned (OpenSpec.ofChange fnExactCommutatorSpec)

/-- ITS FALSE NEIGHBOUR: 'it returns false'. Refute it at one input. -/
def fnExactCommutatorWrong : ChangeSpec := { name := "fnExactCommutator", fn := fun _ => fun
  | [d1, d2] => { results := [.lit (.bool false)], args := [d1, d2] }
  | _ => none }
def FnExactCommutatorWrongFalsely : Prop := fnExactCommutatorRow.holds Try.pinned (OpenSpec.ofChange fnExactCommutatorWrong)

/-- 'laws.FnExactConjugateWord': WHATEVER THE INPUT: true; the input reads as it did. -/
def fnExactConjugateWordSpec : ChangeSpec := { name := "fnExactConjugateWord", fn := fun _ => fun
  | [d1, d2] => { results := [.lit (.bool true)], args := [d1, d2] }
  | _ => none }
def fnExactConjugateWordRow : OpenClaim := { program := "ytoaaoikmkomofaa", sum := "12ba362aab332e7f4fcf12b8adb53e721f6f7a6b1f8c54e94d28aa4059ba3e25", func := "loop.example/g00855/laws.FnExactConjugateWord", spec := "fnExactConjugateWord", unfollowed := true, recurses := true, apart := false }
def FnExactConjugateWordSaid : Prop := fnExactConjugateWordRow.holds Try.pinned (OpenSpec.ofChange fnExactConjugateWordSpec)

/-- ITS FALSE NEIGHBOUR: 'it returns false'. Refute it at one input. -/
def fnExactConjugateWordWrong : ChangeSpec := { name := "fnExactConjugateWord", fn := fun _ => fun
  | [d1, d2] => { results := [.lit (.bool false)], args := [d1, d2] }
  | _ => none }
def FnExactConjugateWordWrongFalsely : Prop := fnExactConjugateWordRow.holds Try.pinned (OpenSpec.ofChange fnExactConjugateWordWrong)

/-- 'laws.FnExactWordLess': WHATEVER THE INPUT: true; the input reads as it did. -/
def fnExactWordLessSpec : ChangeSpec := { name := "fnExactWordLess", fn := fun _ => fun
  | [d1, d2] => { results := [.lit (.bool true)], args := [d1, d2] }
  | _ => none }
def fnExactWordLessRow : OpenClaim := { program := "ytoaaoikmkomofaa", sum := "12ba362aab332e7f4fcf12b8adb53e721f6f7a6b1f8c54e94d28aa4059ba3e25", func := "loop.example/g00855/laws.FnExactWordLess", spec := "fnExactWordLess", unfollowed := true, recurses := true, apart := false }
def FnExactWordLessSaid : Prop := fnExactWordLessRow.holds Try.pinned (OpenSpec.ofChange fnExactWordLessSpec)

/-- ITS FALSE NEIGHBOUR: 'it returns false'. Refute it at one input. -/
def fnExactWordLessWrong : ChangeSpec := { name := "fnExactWordLess", fn := fun _ => fun
  | [d1, d2] => { results := [.lit (.bool false)], args := [d1, d2] }
  | _ => none }
def FnExactWordLessWrongFalsely : Prop := fnExactWordLessRow.holds Try.pinned (OpenSpec.ofChange fnExactWordLessWrong)

/-- 'laws.FnExactWordLength': WHATEVER THE INPUT: true; the input reads as it did. -/
def fnExactWordLengthSpec : ChangeSpec := { name := "fnExactWordLength", fn := fun _ => fun
  | [d1, d2] => { results := [.lit (.bool true)], args := [d1, d2] }
  | _ => none }
def fnExactWordLengthRow : OpenClaim := { program := "ytoaaoikmkomofaa", sum := "12ba362aab332e7f4fcf12b8adb53e721f6f7a6b1f8c54e94d28aa4059ba3e25", func := "loop.example/g00855/laws.FnExactWordLength", spec := "fnExactWordLength", apart := false }
def FnExactWordLengthSaid : Prop := fnExactWordLengthRow.holds Try.pinned (OpenSpec.ofChange fnExactWordLengthSpec)

/-- ITS FALSE NEIGHBOUR: 'it returns false'. Refute it at one input. -/
def fnExactWordLengthWrong : ChangeSpec := { name := "fnExactWordLength", fn := fun _ => fun
  | [d1, d2] => { results := [.lit (.bool false)], args := [d1, d2] }
  | _ => none }
def FnExactWordLengthWrongFalsely : Prop := fnExactWordLengthRow.holds Try.pinned (OpenSpec.ofChange fnExactWordLengthWrong)

/- THE SECOND FORM. 'bulk': how many values and letters a reading holds, each counted each time it is reached (what is shared counts as often as it is met; a slice's spare places count too). A statement '..UptoSaid' is the law's where the arguments, and the package variables that the reading takes, are together of bulk at most 1048576: NARROWER than '..Said'. Prove '..Said' where nothing that the law and all that it calls make is longer than what came in: it says more and counts as full. Else prove '..UptoSaid'. A law counts once. -/
mutual
def uptoBulk {H : Type} : DataW H → Nat
  | .lit (.string bytes) => bytes.length + 1
  | .lit _ => 1
  | .nil => 1
  | .ptr d => uptoBulk d + 1
  | .slice elems spare => uptoBulkAll elems + uptoBulkAll spare + 1
  | .agg parts => uptoBulkAll parts + 1
  | .iface _ d => uptoBulk d + 1
  | .map entries => uptoBulkEntries entries + 1
  | .held _ => 1
def uptoBulkAll {H : Type} : List (DataW H) → Nat
  | [] => 0
  | d :: r => uptoBulk d + uptoBulkAll r
def uptoBulkEntries {H : Type} : List (Lit × DataW H) → Nat
  | [] => 0
  | x :: r => uptoBulkEntry x + uptoBulkEntries r
def uptoBulkEntry {H : Type} : Lit × DataW H → Nat
  | (.string bytes, d) => bytes.length + uptoBulk d + 1
  | (_, d) => uptoBulk d + 1
 end
def uptoSmall : (H : Type) → List (DataW H) → Bool := fun _ ds => decide (uptoBulkAll ds ≤ 1048576)
def OpenSpec.upto (s : _root_.Go.ChangeSpec) : _root_.Go.OpenSpec := { _root_.Go.OpenSpec.ofChange s with cond := some uptoSmall }

/-- 'laws.FnWordEvaluation', WHERE WHAT IT READS IS OF BULK AT MOST 1048576: true; the input reads as it did. -/
def fnWordEvaluationUptoRow : OpenClaim := { program := "ytoaaoikmkomofaa", sum := "12ba362aab332e7f4fcf12b8adb53e721f6f7a6b1f8c54e94d28aa4059ba3e25", func := "loop.example/g00855/laws.FnWordEvaluation", spec := "fnWordEvaluation", unfollowed := true, recurses := true, apart := false, narrowed := true }
def FnWordEvaluationUptoSaid : Prop := fnWordEvaluationUptoRow.holds Try.pinned (OpenSpec.upto fnWordEvaluationSpec)

/-- 'laws.FnFreeReduction', WHERE WHAT IT READS IS OF BULK AT MOST 1048576: true; the input reads as it did. -/
def fnFreeReductionUptoRow : OpenClaim := { program := "ytoaaoikmkomofaa", sum := "12ba362aab332e7f4fcf12b8adb53e721f6f7a6b1f8c54e94d28aa4059ba3e25", func := "loop.example/g00855/laws.FnFreeReduction", spec := "fnFreeReduction", unfollowed := true, recurses := true, apart := false, narrowed := true }
def FnFreeReductionUptoSaid : Prop := fnFreeReductionUptoRow.holds Try.pinned (OpenSpec.upto fnFreeReductionSpec)

/-- 'laws.FnWordForms', WHERE WHAT IT READS IS OF BULK AT MOST 1048576: true; the input reads as it did. -/
def fnWordFormsUptoRow : OpenClaim := { program := "ytoaaoikmkomofaa", sum := "12ba362aab332e7f4fcf12b8adb53e721f6f7a6b1f8c54e94d28aa4059ba3e25", func := "loop.example/g00855/laws.FnWordForms", spec := "fnWordForms", unfollowed := true, recurses := true, apart := false, narrowed := true }
def FnWordFormsUptoSaid : Prop := fnWordFormsUptoRow.holds Try.pinned (OpenSpec.upto fnWordFormsSpec)

/-- 'laws.FnExactIsValidWord', WHERE WHAT IT READS IS OF BULK AT MOST 1048576: true; the input reads as it did. -/
def fnExactIsValidWordUptoRow : OpenClaim := { program := "ytoaaoikmkomofaa", sum := "12ba362aab332e7f4fcf12b8adb53e721f6f7a6b1f8c54e94d28aa4059ba3e25", func := "loop.example/g00855/laws.FnExactIsValidWord", spec := "fnExactIsValidWord", apart := false, narrowed := true }
def FnExactIsValidWordUptoSaid : Prop := fnExactIsValidWordUptoRow.holds Try.pinned (OpenSpec.upto fnExactIsValidWordSpec)

/-- 'laws.FnExactEvaluateWord', WHERE WHAT IT READS IS OF BULK AT MOST 1048576: true; the input reads as it did. -/
def fnExactEvaluateWordUptoRow : OpenClaim := { program := "ytoaaoikmkomofaa", sum := "12ba362aab332e7f4fcf12b8adb53e721f6f7a6b1f8c54e94d28aa4059ba3e25", func := "loop.example/g00855/laws.FnExactEvaluateWord", spec := "fnExactEvaluateWord", apart := false, narrowed := true }
def FnExactEvaluateWordUptoSaid : Prop := fnExactEvaluateWordUptoRow.holds Try.pinned (OpenSpec.upto fnExactEvaluateWordSpec)

/-- 'laws.FnExactInvertWord', WHERE WHAT IT READS IS OF BULK AT MOST 1048576: true; the input reads as it did. -/
def fnExactInvertWordUptoRow : OpenClaim := { program := "ytoaaoikmkomofaa", sum := "12ba362aab332e7f4fcf12b8adb53e721f6f7a6b1f8c54e94d28aa4059ba3e25", func := "loop.example/g00855/laws.FnExactInvertWord", spec := "fnExactInvertWord", unfollowed := true, recurses := true, apart := false, narrowed := true }
def FnExactInvertWordUptoSaid : Prop := fnExactInvertWordUptoRow.holds Try.pinned (OpenSpec.upto fnExactInvertWordSpec)

/-- 'laws.FnExactFreeReduce', WHERE WHAT IT READS IS OF BULK AT MOST 1048576: true; the input reads as it did. -/
def fnExactFreeReduceUptoRow : OpenClaim := { program := "ytoaaoikmkomofaa", sum := "12ba362aab332e7f4fcf12b8adb53e721f6f7a6b1f8c54e94d28aa4059ba3e25", func := "loop.example/g00855/laws.FnExactFreeReduce", spec := "fnExactFreeReduce", apart := false, narrowed := true }
def FnExactFreeReduceUptoSaid : Prop := fnExactFreeReduceUptoRow.holds Try.pinned (OpenSpec.upto fnExactFreeReduceSpec)

/-- 'laws.FnExactConcatWords', WHERE WHAT IT READS IS OF BULK AT MOST 1048576: true; the input reads as it did. -/
def fnExactConcatWordsUptoRow : OpenClaim := { program := "ytoaaoikmkomofaa", sum := "12ba362aab332e7f4fcf12b8adb53e721f6f7a6b1f8c54e94d28aa4059ba3e25", func := "loop.example/g00855/laws.FnExactConcatWords", spec := "fnExactConcatWords", apart := false, narrowed := true }
def FnExactConcatWordsUptoSaid : Prop := fnExactConcatWordsUptoRow.holds Try.pinned (OpenSpec.upto fnExactConcatWordsSpec)

/-- 'laws.FnExactRepeatWord', WHERE WHAT IT READS IS OF BULK AT MOST 1048576: true; the input reads as it did. -/
def fnExactRepeatWordUptoRow : OpenClaim := { program := "ytoaaoikmkomofaa", sum := "12ba362aab332e7f4fcf12b8adb53e721f6f7a6b1f8c54e94d28aa4059ba3e25", func := "loop.example/g00855/laws.FnExactRepeatWord", spec := "fnExactRepeatWord", unfollowed := true, recurses := true, apart := false, narrowed := true }
def FnExactRepeatWordUptoSaid : Prop := fnExactRepeatWordUptoRow.holds Try.pinned (OpenSpec.upto fnExactRepeatWordSpec)

/-- 'laws.FnExactCommutator', WHERE WHAT IT READS IS OF BULK AT MOST 1048576: true; the input reads as it did. -/
def fnExactCommutatorUptoRow : OpenClaim := { program := "ytoaaoikmkomofaa", sum := "12ba362aab332e7f4fcf12b8adb53e721f6f7a6b1f8c54e94d28aa4059ba3e25", func := "loop.example/g00855/laws.FnExactCommutator", spec := "fnExactCommutator", unfollowed := true, recurses := true, apart := false, narrowed := true }
def FnExactCommutatorUptoSaid : Prop := fnExactCommutatorUptoRow.holds Try.pinned (OpenSpec.upto fnExactCommutatorSpec)

/-- 'laws.FnExactConjugateWord', WHERE WHAT IT READS IS OF BULK AT MOST 1048576: true; the input reads as it did. -/
def fnExactConjugateWordUptoRow : OpenClaim := { program := "ytoaaoikmkomofaa", sum := "12ba362aab332e7f4fcf12b8adb53e721f6f7a6b1f8c54e94d28aa4059ba3e25", func := "loop.example/g00855/laws.FnExactConjugateWord", spec := "fnExactConjugateWord", unfollowed := true, recurses := true, apart := false, narrowed := true }
def FnExactConjugateWordUptoSaid : Prop := fnExactConjugateWordUptoRow.holds Try.pinned (OpenSpec.upto fnExactConjugateWordSpec)

/-- 'laws.FnExactWordLess', WHERE WHAT IT READS IS OF BULK AT MOST 1048576: true; the input reads as it did. -/
def fnExactWordLessUptoRow : OpenClaim := { program := "ytoaaoikmkomofaa", sum := "12ba362aab332e7f4fcf12b8adb53e721f6f7a6b1f8c54e94d28aa4059ba3e25", func := "loop.example/g00855/laws.FnExactWordLess", spec := "fnExactWordLess", unfollowed := true, recurses := true, apart := false, narrowed := true }
def FnExactWordLessUptoSaid : Prop := fnExactWordLessUptoRow.holds Try.pinned (OpenSpec.upto fnExactWordLessSpec)

/-- 'laws.FnExactWordLength', WHERE WHAT IT READS IS OF BULK AT MOST 1048576: true; the input reads as it did. -/
def fnExactWordLengthUptoRow : OpenClaim := { program := "ytoaaoikmkomofaa", sum := "12ba362aab332e7f4fcf12b8adb53e721f6f7a6b1f8c54e94d28aa4059ba3e25", func := "loop.example/g00855/laws.FnExactWordLength", spec := "fnExactWordLength", apart := false, narrowed := true }
def FnExactWordLengthUptoSaid : Prop := fnExactWordLengthUptoRow.holds Try.pinned (OpenSpec.upto fnExactWordLengthSpec)

end Rows
end Go.Proofs.Ytoaaoikmkomofaa
