/-
  No cell of these rows narrows 'for every input' (looked for: loops, veiled, ifaces, maps, wideKeys, modest, calm, conditions, laid).
  DERIVED. THE GIVEN ROWS OF THIS SEAT. 10 by the template 'for every input the law returns true; each argument reads behind the call as it read before'; 0 by the template 'total and deterministic' (their statements: YtedfcljikgmpgaaTotals.lean).
  GIVEN WITH THE SEED: the statements are not yours to turn. If you find one false, say at which input.
  Laid BY PROGRAM, IN A SANDBOX (cutbox-rows.mjs): the forced cells as the released guide's own fill.sh prints them over the translation 0175bcaa811fd599… (all of the seat's roots in one cut). By AI agents, Wed Nov 11 2026. No macro, syntax, notation, axiom, sorry.
-/
import Derived.Test.YtedfcljikgmpgaaChecked
import GoSem.Claim
import GoSem.ClaimJoined
import GoSem.ClaimMapViews
import Derived.JoinedTies
import Derived.KernelRfl
namespace Go.Proofs.Ytedfcljikgmpgaa
/- THE CELL 'sum', in the pinned program and in every row, IS THE sha256 OF THE DUMP (.gsa) THAT YtedfcljikgmpgaaProg.lean LOADS. Nothing in Lean hashes anything: it is a label: what it is worth is what the hold of that sum in a sandbox is worth. -/
noncomputable def Try.pinned : Pinned := { name := "ytedfcljikgmpgaa", sum := "0175bcaa811fd599caf5cae46caa02474a193b52908e7b3ef35f38e6695d57ee", checked := Try.checked }
namespace Rows
def none {H : Type} : Left H := { results := [], args := [] }

/-- 'laws.FnExactIsBlockSystem': WHATEVER THE INPUT: true; the input reads as it did. -/
def fnExactIsBlockSystemSpec : ChangeSpec := { name := "fnExactIsBlockSystem", fn := fun _ => fun
  | [d1, d2, d3] => { results := [.lit (.bool true)], args := [d1, d2, d3] }
  | _ => none }
def fnExactIsBlockSystemRow : OpenClaim := { program := "ytedfcljikgmpgaa", sum := "0175bcaa811fd599caf5cae46caa02474a193b52908e7b3ef35f38e6695d57ee", func := "loop.example/g00855/laws.FnExactIsBlockSystem", spec := "fnExactIsBlockSystem", unfollowed := true, recurses := true, apart := false }
def FnExactIsBlockSystemSaid : Prop := fnExactIsBlockSystemRow.holds Try.pinned (OpenSpec.ofChange fnExactIsBlockSystemSpec)

/-- ITS FALSE NEIGHBOUR: 'it returns false'. Refute it at one input. -/
def fnExactIsBlockSystemWrong : ChangeSpec := { name := "fnExactIsBlockSystem", fn := fun _ => fun
  | [d1, d2, d3] => { results := [.lit (.bool false)], args := [d1, d2, d3] }
  | _ => none }
def FnExactIsBlockSystemWrongFalsely : Prop := fnExactIsBlockSystemRow.holds Try.pinned (OpenSpec.ofChange fnExactIsBlockSystemWrong)

/-- 'laws.FnExactBlockAction': WHATEVER THE INPUT: true; the input reads as it did. -/
def fnExactBlockActionSpec : ChangeSpec := { name := "fnExactBlockAction", fn := fun _ => fun
  | [d1, d2, d3] => { results := [.lit (.bool true)], args := [d1, d2, d3] }
  | _ => none }
def fnExactBlockActionRow : OpenClaim := { program := "ytedfcljikgmpgaa", sum := "0175bcaa811fd599caf5cae46caa02474a193b52908e7b3ef35f38e6695d57ee", func := "loop.example/g00855/laws.FnExactBlockAction", spec := "fnExactBlockAction", unfollowed := true, recurses := true, apart := false }
def FnExactBlockActionSaid : Prop := fnExactBlockActionRow.holds Try.pinned (OpenSpec.ofChange fnExactBlockActionSpec)

/-- ITS FALSE NEIGHBOUR: 'it returns false'. Refute it at one input. -/
def fnExactBlockActionWrong : ChangeSpec := { name := "fnExactBlockAction", fn := fun _ => fun
  | [d1, d2, d3] => { results := [.lit (.bool false)], args := [d1, d2, d3] }
  | _ => none }
def FnExactBlockActionWrongFalsely : Prop := fnExactBlockActionRow.holds Try.pinned (OpenSpec.ofChange fnExactBlockActionWrong)

/-- 'laws.FnExactMinimalBlockSystem': WHATEVER THE INPUT: true; the input reads as it did. -/
def fnExactMinimalBlockSystemSpec : ChangeSpec := { name := "fnExactMinimalBlockSystem", fn := fun _ => fun
  | [d1, d2, d3, d4] => { results := [.lit (.bool true)], args := [d1, d2, d3, d4] }
  | _ => none }
def fnExactMinimalBlockSystemRow : OpenClaim := { program := "ytedfcljikgmpgaa", sum := "0175bcaa811fd599caf5cae46caa02474a193b52908e7b3ef35f38e6695d57ee", func := "loop.example/g00855/laws.FnExactMinimalBlockSystem", spec := "fnExactMinimalBlockSystem", unfollowed := true, recurses := true, apart := false }
def FnExactMinimalBlockSystemSaid : Prop := fnExactMinimalBlockSystemRow.holds Try.pinned (OpenSpec.ofChange fnExactMinimalBlockSystemSpec)

/-- ITS FALSE NEIGHBOUR: 'it returns false'. Refute it at one input. -/
def fnExactMinimalBlockSystemWrong : ChangeSpec := { name := "fnExactMinimalBlockSystem", fn := fun _ => fun
  | [d1, d2, d3, d4] => { results := [.lit (.bool false)], args := [d1, d2, d3, d4] }
  | _ => none }
def FnExactMinimalBlockSystemWrongFalsely : Prop := fnExactMinimalBlockSystemRow.holds Try.pinned (OpenSpec.ofChange fnExactMinimalBlockSystemWrong)

/-- 'laws.FnExactJoinBlockSystems': WHATEVER THE INPUT: true; the input reads as it did. -/
def fnExactJoinBlockSystemsSpec : ChangeSpec := { name := "fnExactJoinBlockSystems", fn := fun _ => fun
  | [d1, d2, d3] => { results := [.lit (.bool true)], args := [d1, d2, d3] }
  | _ => none }
def fnExactJoinBlockSystemsRow : OpenClaim := { program := "ytedfcljikgmpgaa", sum := "0175bcaa811fd599caf5cae46caa02474a193b52908e7b3ef35f38e6695d57ee", func := "loop.example/g00855/laws.FnExactJoinBlockSystems", spec := "fnExactJoinBlockSystems", unfollowed := true, recurses := true, apart := false }
def FnExactJoinBlockSystemsSaid : Prop := fnExactJoinBlockSystemsRow.holds Try.pinned (OpenSpec.ofChange fnExactJoinBlockSystemsSpec)

/-- ITS FALSE NEIGHBOUR: 'it returns false'. Refute it at one input. -/
def fnExactJoinBlockSystemsWrong : ChangeSpec := { name := "fnExactJoinBlockSystems", fn := fun _ => fun
  | [d1, d2, d3] => { results := [.lit (.bool false)], args := [d1, d2, d3] }
  | _ => none }
def FnExactJoinBlockSystemsWrongFalsely : Prop := fnExactJoinBlockSystemsRow.holds Try.pinned (OpenSpec.ofChange fnExactJoinBlockSystemsWrong)

/-- 'laws.FnExactIsPrimitive': WHATEVER THE INPUT: true; the input reads as it did. -/
def fnExactIsPrimitiveSpec : ChangeSpec := { name := "fnExactIsPrimitive", fn := fun _ => fun
  | [d1, d2] => { results := [.lit (.bool true)], args := [d1, d2] }
  | _ => none }
def fnExactIsPrimitiveRow : OpenClaim := { program := "ytedfcljikgmpgaa", sum := "0175bcaa811fd599caf5cae46caa02474a193b52908e7b3ef35f38e6695d57ee", func := "loop.example/g00855/laws.FnExactIsPrimitive", spec := "fnExactIsPrimitive", unfollowed := true, recurses := true, apart := false }
def FnExactIsPrimitiveSaid : Prop := fnExactIsPrimitiveRow.holds Try.pinned (OpenSpec.ofChange fnExactIsPrimitiveSpec)

/-- ITS FALSE NEIGHBOUR: 'it returns false'. Refute it at one input. -/
def fnExactIsPrimitiveWrong : ChangeSpec := { name := "fnExactIsPrimitive", fn := fun _ => fun
  | [d1, d2] => { results := [.lit (.bool false)], args := [d1, d2] }
  | _ => none }
def FnExactIsPrimitiveWrongFalsely : Prop := fnExactIsPrimitiveRow.holds Try.pinned (OpenSpec.ofChange fnExactIsPrimitiveWrong)

/-- 'laws.FnExactMinimalBlockSystems': WHATEVER THE INPUT: true; the input reads as it did. -/
def fnExactMinimalBlockSystemsSpec : ChangeSpec := { name := "fnExactMinimalBlockSystems", fn := fun _ => fun
  | [d1, d2] => { results := [.lit (.bool true)], args := [d1, d2] }
  | _ => none }
def fnExactMinimalBlockSystemsRow : OpenClaim := { program := "ytedfcljikgmpgaa", sum := "0175bcaa811fd599caf5cae46caa02474a193b52908e7b3ef35f38e6695d57ee", func := "loop.example/g00855/laws.FnExactMinimalBlockSystems", spec := "fnExactMinimalBlockSystems", unfollowed := true, recurses := true, apart := false }
def FnExactMinimalBlockSystemsSaid : Prop := fnExactMinimalBlockSystemsRow.holds Try.pinned (OpenSpec.ofChange fnExactMinimalBlockSystemsSpec)

/-- ITS FALSE NEIGHBOUR: 'it returns false'. Refute it at one input. -/
def fnExactMinimalBlockSystemsWrong : ChangeSpec := { name := "fnExactMinimalBlockSystems", fn := fun _ => fun
  | [d1, d2] => { results := [.lit (.bool false)], args := [d1, d2] }
  | _ => none }
def FnExactMinimalBlockSystemsWrongFalsely : Prop := fnExactMinimalBlockSystemsRow.holds Try.pinned (OpenSpec.ofChange fnExactMinimalBlockSystemsWrong)

/-- 'laws.FnExactBlockActionOrder': WHATEVER THE INPUT: true; the input reads as it did. -/
def fnExactBlockActionOrderSpec : ChangeSpec := { name := "fnExactBlockActionOrder", fn := fun _ => fun
  | [d1, d2, d3] => { results := [.lit (.bool true)], args := [d1, d2, d3] }
  | _ => none }
def fnExactBlockActionOrderRow : OpenClaim := { program := "ytedfcljikgmpgaa", sum := "0175bcaa811fd599caf5cae46caa02474a193b52908e7b3ef35f38e6695d57ee", func := "loop.example/g00855/laws.FnExactBlockActionOrder", spec := "fnExactBlockActionOrder", unfollowed := true, recurses := true, apart := false }
def FnExactBlockActionOrderSaid : Prop := fnExactBlockActionOrderRow.holds Try.pinned (OpenSpec.ofChange fnExactBlockActionOrderSpec)

/-- ITS FALSE NEIGHBOUR: 'it returns false'. Refute it at one input. -/
def fnExactBlockActionOrderWrong : ChangeSpec := { name := "fnExactBlockActionOrder", fn := fun _ => fun
  | [d1, d2, d3] => { results := [.lit (.bool false)], args := [d1, d2, d3] }
  | _ => none }
def FnExactBlockActionOrderWrongFalsely : Prop := fnExactBlockActionOrderRow.holds Try.pinned (OpenSpec.ofChange fnExactBlockActionOrderWrong)

/-- 'laws.FnExactBlockKernelOrder': WHATEVER THE INPUT: true; the input reads as it did. -/
def fnExactBlockKernelOrderSpec : ChangeSpec := { name := "fnExactBlockKernelOrder", fn := fun _ => fun
  | [d1, d2, d3] => { results := [.lit (.bool true)], args := [d1, d2, d3] }
  | _ => none }
def fnExactBlockKernelOrderRow : OpenClaim := { program := "ytedfcljikgmpgaa", sum := "0175bcaa811fd599caf5cae46caa02474a193b52908e7b3ef35f38e6695d57ee", func := "loop.example/g00855/laws.FnExactBlockKernelOrder", spec := "fnExactBlockKernelOrder", unfollowed := true, recurses := true, apart := false }
def FnExactBlockKernelOrderSaid : Prop := fnExactBlockKernelOrderRow.holds Try.pinned (OpenSpec.ofChange fnExactBlockKernelOrderSpec)

/-- ITS FALSE NEIGHBOUR: 'it returns false'. Refute it at one input. -/
def fnExactBlockKernelOrderWrong : ChangeSpec := { name := "fnExactBlockKernelOrder", fn := fun _ => fun
  | [d1, d2, d3] => { results := [.lit (.bool false)], args := [d1, d2, d3] }
  | _ => none }
def FnExactBlockKernelOrderWrongFalsely : Prop := fnExactBlockKernelOrderRow.holds Try.pinned (OpenSpec.ofChange fnExactBlockKernelOrderWrong)

/-- 'laws.FnBlockSystems': WHATEVER THE INPUT: true; the input reads as it did. -/
def fnBlockSystemsSpec : ChangeSpec := { name := "fnBlockSystems", fn := fun _ => fun
  | [d] => { results := [.lit (.bool true)], args := [d] }
  | _ => none }
def fnBlockSystemsRow : OpenClaim := { program := "ytedfcljikgmpgaa", sum := "0175bcaa811fd599caf5cae46caa02474a193b52908e7b3ef35f38e6695d57ee", func := "loop.example/g00855/laws.FnBlockSystems", spec := "fnBlockSystems", unfollowed := true, recurses := true, apart := false }
def FnBlockSystemsSaid : Prop := fnBlockSystemsRow.holds Try.pinned (OpenSpec.ofChange fnBlockSystemsSpec)

/-- ITS FALSE NEIGHBOUR: 'it returns false'. Refute it at one input. -/
def fnBlockSystemsWrong : ChangeSpec := { name := "fnBlockSystems", fn := fun _ => fun
  | [d] => { results := [.lit (.bool false)], args := [d] }
  | _ => none }
def FnBlockSystemsWrongFalsely : Prop := fnBlockSystemsRow.holds Try.pinned (OpenSpec.ofChange fnBlockSystemsWrong)

/-- 'laws.FnBlockOrders': WHATEVER THE INPUT: true; the input reads as it did. -/
def fnBlockOrdersSpec : ChangeSpec := { name := "fnBlockOrders", fn := fun _ => fun
  | [d] => { results := [.lit (.bool true)], args := [d] }
  | _ => none }
def fnBlockOrdersRow : OpenClaim := { program := "ytedfcljikgmpgaa", sum := "0175bcaa811fd599caf5cae46caa02474a193b52908e7b3ef35f38e6695d57ee", func := "loop.example/g00855/laws.FnBlockOrders", spec := "fnBlockOrders", unfollowed := true, recurses := true, apart := false }
def FnBlockOrdersSaid : Prop := fnBlockOrdersRow.holds Try.pinned (OpenSpec.ofChange fnBlockOrdersSpec)

/-- ITS FALSE NEIGHBOUR: 'it returns false'. Refute it at one input. -/
def fnBlockOrdersWrong : ChangeSpec := { name := "fnBlockOrders", fn := fun _ => fun
  | [d] => { results := [.lit (.bool false)], args := [d] }
  | _ => none }
def FnBlockOrdersWrongFalsely : Prop := fnBlockOrdersRow.holds Try.pinned (OpenSpec.ofChange fnBlockOrdersWrong)

/- THE SECOND FORM. 'bulk': how many values and letters a reading holds, each counted each time it is reached (what is shared counts as often as it is met; a slice's spare places count too). A statement '..UptoSaid' is the law's where the arguments, and the package variables that the reading takes, are together of bulk at most 1048576: NARROWER than '..Said'. Prove '..Said' where nothing that the law and all that it calls make is longer than what came in: it says more and counts as full. Else prove '..UptoSaid'. A law counts once. -/
mutual
def uptoBulk {H : Type} : DataW H → Nat
  | .lit (.string bytes) => bytes.length + 1
  | .lit _ => 1
  | .nil => 1
  | .ptr d => uptoBulk d + 1
  | .slice elems spare => uptoBulkAll elems + uptoBulkAll spare + 1
  | .agg parts => uptoBulkAll parts + 1
  | .iface _ d => uptoBulk d + 1
  | .map entries => uptoBulkEntries entries + 1
  | .held _ => 1
def uptoBulkAll {H : Type} : List (DataW H) → Nat
  | [] => 0
  | d :: r => uptoBulk d + uptoBulkAll r
def uptoBulkEntries {H : Type} : List (Lit × DataW H) → Nat
  | [] => 0
  | x :: r => uptoBulkEntry x + uptoBulkEntries r
def uptoBulkEntry {H : Type} : Lit × DataW H → Nat
  | (.string bytes, d) => bytes.length + uptoBulk d + 1
  | (_, d) => uptoBulk d + 1
 end
def uptoSmall : (H : Type) → List (DataW H) → Bool := fun _ ds => decide (uptoBulkAll ds ≤ 1048576)
def OpenSpec.upto (s : _root_.Go.ChangeSpec) : _root_.Go.OpenSpec := { _root_.Go.OpenSpec.ofChange s with cond := some uptoSmall }

/-- 'laws.FnExactIsBlockSystem', WHERE WHAT IT READS IS OF BULK AT MOST 1048576: true; the input reads as it did. -/
def fnExactIsBlockSystemUptoRow : OpenClaim := { program := "ytedfcljikgmpgaa", sum := "0175bcaa811fd599caf5cae46caa02474a193b52908e7b3ef35f38e6695d57ee", func := "loop.example/g00855/laws.FnExactIsBlockSystem", spec := "fnExactIsBlockSystem", unfollowed := true, recurses := true, apart := false, narrowed := true }
def FnExactIsBlockSystemUptoSaid : Prop := fnExactIsBlockSystemUptoRow.holds Try.pinned (OpenSpec.upto fnExactIsBlockSystemSpec)

/-- 'laws.FnExactBlockAction', WHERE WHAT IT READS IS OF BULK AT MOST 1048576: true; the input reads as it did. -/
def fnExactBlockActionUptoRow : OpenClaim := { program := "ytedfcljikgmpgaa", sum := "0175bcaa811fd599caf5cae46caa02474a193b52908e7b3ef35f38e6695d57ee", func := "loop.example/g00855/laws.FnExactBlockAction", spec := "fnExactBlockAction", unfollowed := true, recurses := true, apart := false, narrowed := true }
def FnExactBlockActionUptoSaid : Prop := fnExactBlockActionUptoRow.holds Try.pinned (OpenSpec.upto fnExactBlockActionSpec)

/-- 'laws.FnExactMinimalBlockSystem', WHERE WHAT IT READS IS OF BULK AT MOST 1048576: true; the input reads as it did. -/
def fnExactMinimalBlockSystemUptoRow : OpenClaim := { program := "ytedfcljikgmpgaa", sum := "0175bcaa811fd599caf5cae46caa02474a193b52908e7b3ef35f38e6695d57ee", func := "loop.example/g00855/laws.FnExactMinimalBlockSystem", spec := "fnExactMinimalBlockSystem", unfollowed := true, recurses := true, apart := false, narrowed := true }
def FnExactMinimalBlockSystemUptoSaid : Prop := fnExactMinimalBlockSystemUptoRow.holds Try.pinned (OpenSpec.upto fnExactMinimalBlockSystemSpec)

/-- 'laws.FnExactJoinBlockSystems', WHERE WHAT IT READS IS OF BULK AT MOST 1048576: true; the input reads as it did. -/
def fnExactJoinBlockSystemsUptoRow : OpenClaim := { program := "ytedfcljikgmpgaa", sum := "0175bcaa811fd599caf5cae46caa02474a193b52908e7b3ef35f38e6695d57ee", func := "loop.example/g00855/laws.FnExactJoinBlockSystems", spec := "fnExactJoinBlockSystems", unfollowed := true, recurses := true, apart := false, narrowed := true }
def FnExactJoinBlockSystemsUptoSaid : Prop := fnExactJoinBlockSystemsUptoRow.holds Try.pinned (OpenSpec.upto fnExactJoinBlockSystemsSpec)

/-- 'laws.FnExactIsPrimitive', WHERE WHAT IT READS IS OF BULK AT MOST 1048576: true; the input reads as it did. -/
def fnExactIsPrimitiveUptoRow : OpenClaim := { program := "ytedfcljikgmpgaa", sum := "0175bcaa811fd599caf5cae46caa02474a193b52908e7b3ef35f38e6695d57ee", func := "loop.example/g00855/laws.FnExactIsPrimitive", spec := "fnExactIsPrimitive", unfollowed := true, recurses := true, apart := false, narrowed := true }
def FnExactIsPrimitiveUptoSaid : Prop := fnExactIsPrimitiveUptoRow.holds Try.pinned (OpenSpec.upto fnExactIsPrimitiveSpec)

/-- 'laws.FnExactMinimalBlockSystems', WHERE WHAT IT READS IS OF BULK AT MOST 1048576: true; the input reads as it did. -/
def fnExactMinimalBlockSystemsUptoRow : OpenClaim := { program := "ytedfcljikgmpgaa", sum := "0175bcaa811fd599caf5cae46caa02474a193b52908e7b3ef35f38e6695d57ee", func := "loop.example/g00855/laws.FnExactMinimalBlockSystems", spec := "fnExactMinimalBlockSystems", unfollowed := true, recurses := true, apart := false, narrowed := true }
def FnExactMinimalBlockSystemsUptoSaid : Prop := fnExactMinimalBlockSystemsUptoRow.holds Try.pinned (OpenSpec.upto fnExactMinimalBlockSystemsSpec)

/-- 'laws.FnExactBlockActionOrder', WHERE WHAT IT READS IS OF BULK AT MOST 1048576: true; the input reads as it did. -/
def fnExactBlockActionOrderUptoRow : OpenClaim := { program := "ytedfcljikgmpgaa", sum := "0175bcaa811fd599caf5cae46caa02474a193b52908e7b3ef35f38e6695d57ee", func := "loop.example/g00855/laws.FnExactBlockActionOrder", spec := "fnExactBlockActionOrder", unfollowed := true, recurses := true, apart := false, narrowed := true }
def FnExactBlockActionOrderUptoSaid : Prop := fnExactBlockActionOrderUptoRow.holds Try.pinned (OpenSpec.upto fnExactBlockActionOrderSpec)

/-- 'laws.FnExactBlockKernelOrder', WHERE WHAT IT READS IS OF BULK AT MOST 1048576: true; the input reads as it did. -/
def fnExactBlockKernelOrderUptoRow : OpenClaim := { program := "ytedfcljikgmpgaa", sum := "0175bcaa811fd599caf5cae46caa02474a193b52908e7b3ef35f38e6695d57ee", func := "loop.example/g00855/laws.FnExactBlockKernelOrder", spec := "fnExactBlockKernelOrder", unfollowed := true, recurses := true, apart := false, narrowed := true }
def FnExactBlockKernelOrderUptoSaid : Prop := fnExactBlockKernelOrderUptoRow.holds Try.pinned (OpenSpec.upto fnExactBlockKernelOrderSpec)

/-- 'laws.FnBlockSystems', WHERE WHAT IT READS IS OF BULK AT MOST 1048576: true; the input reads as it did. -/
def fnBlockSystemsUptoRow : OpenClaim := { program := "ytedfcljikgmpgaa", sum := "0175bcaa811fd599caf5cae46caa02474a193b52908e7b3ef35f38e6695d57ee", func := "loop.example/g00855/laws.FnBlockSystems", spec := "fnBlockSystems", unfollowed := true, recurses := true, apart := false, narrowed := true }
def FnBlockSystemsUptoSaid : Prop := fnBlockSystemsUptoRow.holds Try.pinned (OpenSpec.upto fnBlockSystemsSpec)

/-- 'laws.FnBlockOrders', WHERE WHAT IT READS IS OF BULK AT MOST 1048576: true; the input reads as it did. -/
def fnBlockOrdersUptoRow : OpenClaim := { program := "ytedfcljikgmpgaa", sum := "0175bcaa811fd599caf5cae46caa02474a193b52908e7b3ef35f38e6695d57ee", func := "loop.example/g00855/laws.FnBlockOrders", spec := "fnBlockOrders", unfollowed := true, recurses := true, apart := false, narrowed := true }
def FnBlockOrdersUptoSaid : Prop := fnBlockOrdersUptoRow.holds Try.pinned (OpenSpec.upto fnBlockOrdersSpec)

end Rows
end Go.Proofs.Ytedfcljikgmpgaa
