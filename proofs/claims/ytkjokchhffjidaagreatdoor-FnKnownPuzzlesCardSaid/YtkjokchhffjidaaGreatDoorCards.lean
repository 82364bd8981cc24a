/-
  DERIVED. GIVEN WITH THE SEED: THE CARDS: each row of YtkjokchhffjidaaGreatDoorRows.lean that lists a variable, with what it lists TIED to the program's text (the seventh form; the later family's looks); each row that meets fmt, with fmt's text TOLD by the authors' own Lean function (tested against real Go, not proved from fmt's source: count such statements apart). THE CARD IS WHAT COUNTS. Prove the row's statement (the work); the ties are given (YtkjokchhffjidaaGreatDoorTie.lean); close each card by the builder's one call (the guide's Derived/Test/ToyasCard.lean, 'card_holds'). Laid BY PROGRAM, IN A SANDBOX (cutbox-door.mjs). By AI agents, Wed Nov 11 2026. No macro, syntax, notation, axiom, sorry.
-/
import Derived.Test.YtkjokchhffjidaaGreatDoorRows
import GoSem.ClaimSeven
namespace Go.Proofs.YtkjokchhffjidaaGreatDoor
namespace Rows

/-- THE TIED CARD OF 'laws.FnKnownPuzzles'. -/
def fnKnownPuzzlesCard : Claim7 := { stood := { row := fnKnownPuzzlesRow, standIns := [], harness := (true, "7492177dfa4483e0e51b1995cca15bcf69a4a7972dcb1b0e4476bf12ac91c9a6"), looks := false }, kinds := [], alts := [], laidByText := true, laidKinds := [.data, .data, .data], laidTests := true, laidLooks := .later }
def FnKnownPuzzlesCardSaid : Prop := Claim7.holds Tryz.pinned (.plain (OpenSpec.ofChange fnKnownPuzzlesSpec)) fnKnownPuzzlesCard

/-- THE SECOND FORM's CARD OF 'laws.FnKnownPuzzles'. -/
def fnKnownPuzzlesUptoCard : Claim7 := { stood := { row := fnKnownPuzzlesUptoRow, standIns := [], harness := (true, "7492177dfa4483e0e51b1995cca15bcf69a4a7972dcb1b0e4476bf12ac91c9a6"), looks := false }, kinds := [], alts := [], laidByText := true, laidKinds := [.data, .data, .data], laidTests := true, laidLooks := .later }
def FnKnownPuzzlesUptoCardSaid : Prop := Claim7.holds Tryz.pinned (.plain (OpenSpec.upto fnKnownPuzzlesSpec)) fnKnownPuzzlesUptoCard
end Rows
end Go.Proofs.YtkjokchhffjidaaGreatDoor
