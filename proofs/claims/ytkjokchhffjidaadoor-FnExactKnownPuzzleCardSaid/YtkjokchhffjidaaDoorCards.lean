/-
  DERIVED. GIVEN WITH THE SEED: THE CARDS: each row of YtkjokchhffjidaaDoorRows.lean that lists a variable, with what it lists TIED to the program's text (the seventh form; the later family's looks); each row that meets fmt, with fmt's text TOLD by the authors' own Lean function (tested against real Go, not proved from fmt's source: count such statements apart). THE CARD IS WHAT COUNTS. Prove the row's statement (the work); the ties are given (YtkjokchhffjidaaDoorTie.lean); close each card by the builder's one call (the guide's Derived/Test/ToyasCard.lean, 'card_holds'). Laid BY PROGRAM, IN A SANDBOX (cutbox-door.mjs). By AI agents, Wed Nov 11 2026. No macro, syntax, notation, axiom, sorry.
-/
import Derived.Test.YtkjokchhffjidaaDoorRows
import GoSem.ClaimSeven
namespace Go.Proofs.YtkjokchhffjidaaDoor
namespace Rows

/-- THE TIED CARD OF 'laws.FnExactKnownPuzzle'. -/
def fnExactKnownPuzzleCard : Claim7 := { stood := { row := fnExactKnownPuzzleRow, standIns := [], harness := (true, "c771b857070940616c44359cbdb7f6eeb1704d1bf56e90cf63b6a9e3ef76af89"), looks := false }, kinds := [], alts := [], laidByText := true, laidKinds := [.data, .data, .data], laidTests := true, laidLooks := .later }
def FnExactKnownPuzzleCardSaid : Prop := Claim7.holds Tryd.pinned (.plain (OpenSpec.ofChange fnExactKnownPuzzleSpec)) fnExactKnownPuzzleCard

/-- THE SECOND FORM's CARD OF 'laws.FnExactKnownPuzzle'. -/
def fnExactKnownPuzzleUptoCard : Claim7 := { stood := { row := fnExactKnownPuzzleUptoRow, standIns := [], harness := (true, "c771b857070940616c44359cbdb7f6eeb1704d1bf56e90cf63b6a9e3ef76af89"), looks := false }, kinds := [], alts := [], laidByText := true, laidKinds := [.data, .data, .data], laidTests := true, laidLooks := .later }
def FnExactKnownPuzzleUptoCardSaid : Prop := Claim7.holds Tryd.pinned (.plain (OpenSpec.upto fnExactKnownPuzzleSpec)) fnExactKnownPuzzleUptoCard
end Rows
end Go.Proofs.YtkjokchhffjidaaDoor
