/-
  DERIVED. GIVEN WITH THE SEED: THE CARDS: each row of YtplgdbkolklgnaaDoorRows.lean that lists a variable, with what it lists TIED to the program's text (the seventh form; the later family's looks); each row that meets fmt, with fmt's text TOLD by the authors' own Lean function (tested against real Go, not proved from fmt's source: count such statements apart). THE CARD IS WHAT COUNTS. Prove the row's statement (the work); the ties are given (YtplgdbkolklgnaaDoorTie.lean); close each card by the builder's one call (the guide's Derived/Test/ToyasCard.lean, 'card_holds'). Laid BY PROGRAM, IN A SANDBOX (cutbox-door.mjs). By AI agents, Wed Nov 11 2026. No macro, syntax, notation, axiom, sorry.
-/
import Derived.Test.YtplgdbkolklgnaaDoorRows
import GoSem.ClaimSeven
namespace Go.Proofs.YtplgdbkolklgnaaDoor
namespace Rows

/-- THE TIED CARD OF 'laws.FnCycleTexts'. -/
def fnCycleTextsCard : Claim7 := { stood := { row := fnCycleTextsRow, standIns := [], harness := (true, "d0cccd3e75318f3b70f635698a23fc8d978097f448cea7ab51a396832e841fea"), looks := false }, kinds := [], alts := [], laidByText := true, laidKinds := [.data, .data, .data], laidTests := true, laidLooks := .later }
def FnCycleTextsCardSaid : Prop := Claim7.holds Tryd.pinned (.plain (OpenSpec.ofChange fnCycleTextsSpec)) fnCycleTextsCard

/-- THE TIED CARD OF 'laws.FnExactFormatCycles'. -/
def fnExactFormatCyclesCard : Claim7 := { stood := { row := fnExactFormatCyclesRow, standIns := [], harness := (true, "d0cccd3e75318f3b70f635698a23fc8d978097f448cea7ab51a396832e841fea"), looks := false }, kinds := [], alts := [], laidByText := true, laidKinds := [.data, .data, .data], laidTests := true, laidLooks := .later }
def FnExactFormatCyclesCardSaid : Prop := Claim7.holds Tryd.pinned (.plain (OpenSpec.ofChange fnExactFormatCyclesSpec)) fnExactFormatCyclesCard

/-- THE TIED CARD OF 'laws.FnExactParseCycles'. -/
def fnExactParseCyclesCard : Claim7 := { stood := { row := fnExactParseCyclesRow, standIns := [], harness := (true, "d0cccd3e75318f3b70f635698a23fc8d978097f448cea7ab51a396832e841fea"), looks := false }, kinds := [], alts := [], laidByText := true, laidKinds := [.data, .data, .data], laidTests := true, laidLooks := .later }
def FnExactParseCyclesCardSaid : Prop := Claim7.holds Tryd.pinned (.plain (OpenSpec.ofChange fnExactParseCyclesSpec)) fnExactParseCyclesCard

/-- THE TIED CARD OF 'laws.FnExactFormatImages'. -/
def fnExactFormatImagesCard : Claim7 := { stood := { row := fnExactFormatImagesRow, standIns := [], harness := (true, "d0cccd3e75318f3b70f635698a23fc8d978097f448cea7ab51a396832e841fea"), looks := false }, kinds := [], alts := [], laidByText := true, laidKinds := [.data, .data, .data], laidTests := true, laidLooks := .later }
def FnExactFormatImagesCardSaid : Prop := Claim7.holds Tryd.pinned (.plain (OpenSpec.ofChange fnExactFormatImagesSpec)) fnExactFormatImagesCard

/-- THE SECOND FORM's CARD OF 'laws.FnCycleTexts'. -/
def fnCycleTextsUptoCard : Claim7 := { stood := { row := fnCycleTextsUptoRow, standIns := [], harness := (true, "d0cccd3e75318f3b70f635698a23fc8d978097f448cea7ab51a396832e841fea"), looks := false }, kinds := [], alts := [], laidByText := true, laidKinds := [.data, .data, .data], laidTests := true, laidLooks := .later }
def FnCycleTextsUptoCardSaid : Prop := Claim7.holds Tryd.pinned (.plain (OpenSpec.upto fnCycleTextsSpec)) fnCycleTextsUptoCard

/-- THE SECOND FORM's CARD OF 'laws.FnExactFormatCycles'. -/
def fnExactFormatCyclesUptoCard : Claim7 := { stood := { row := fnExactFormatCyclesUptoRow, standIns := [], harness := (true, "d0cccd3e75318f3b70f635698a23fc8d978097f448cea7ab51a396832e841fea"), looks := false }, kinds := [], alts := [], laidByText := true, laidKinds := [.data, .data, .data], laidTests := true, laidLooks := .later }
def FnExactFormatCyclesUptoCardSaid : Prop := Claim7.holds Tryd.pinned (.plain (OpenSpec.upto fnExactFormatCyclesSpec)) fnExactFormatCyclesUptoCard

/-- THE SECOND FORM's CARD OF 'laws.FnExactParseCycles'. -/
def fnExactParseCyclesUptoCard : Claim7 := { stood := { row := fnExactParseCyclesUptoRow, standIns := [], harness := (true, "d0cccd3e75318f3b70f635698a23fc8d978097f448cea7ab51a396832e841fea"), looks := false }, kinds := [], alts := [], laidByText := true, laidKinds := [.data, .data, .data], laidTests := true, laidLooks := .later }
def FnExactParseCyclesUptoCardSaid : Prop := Claim7.holds Tryd.pinned (.plain (OpenSpec.upto fnExactParseCyclesSpec)) fnExactParseCyclesUptoCard

/-- THE SECOND FORM's CARD OF 'laws.FnExactFormatImages'. -/
def fnExactFormatImagesUptoCard : Claim7 := { stood := { row := fnExactFormatImagesUptoRow, standIns := [], harness := (true, "d0cccd3e75318f3b70f635698a23fc8d978097f448cea7ab51a396832e841fea"), looks := false }, kinds := [], alts := [], laidByText := true, laidKinds := [.data, .data, .data], laidTests := true, laidLooks := .later }
def FnExactFormatImagesUptoCardSaid : Prop := Claim7.holds Tryd.pinned (.plain (OpenSpec.upto fnExactFormatImagesSpec)) fnExactFormatImagesUptoCard
end Rows
end Go.Proofs.YtplgdbkolklgnaaDoor
