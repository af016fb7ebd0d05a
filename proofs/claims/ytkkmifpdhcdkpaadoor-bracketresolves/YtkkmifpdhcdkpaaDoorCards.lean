/-
  DERIVED. GIVEN WITH THE SEED: THE CARDS: each row of YtkkmifpdhcdkpaaDoorRows.lean that lists a variable, with what it lists TIED to the program's text (the seventh form; the later family's looks); each row that meets fmt, with fmt's text TOLD by the authors' own Lean function (tested against real Go, not proved from fmt's source: count such statements apart). THE CARD IS WHAT COUNTS. Prove the row's statement (the work); the ties are given (YtkkmifpdhcdkpaaDoorTie.lean); close each card by the builder's one call (the guide's Derived/Test/ToyasCard.lean, 'card_holds'). Laid BY PROGRAM, IN A SANDBOX (cutbox-door.mjs). By AI agents, Wed Nov 11 2026. No macro, syntax, notation, axiom, sorry.
-/
import Derived.Test.YtkkmifpdhcdkpaaDoorRows
import GoSem.ClaimSeven
namespace Go.Proofs.YtkkmifpdhcdkpaaDoor
namespace Rows

/-- THE TIED CARD OF 'colophonlaw10.BracketPairs'. -/
def bracketPairsCard : Claim7 := { stood := { row := bracketPairsRow, standIns := [], harness := (true, "1071ae045ce5dccaa0c27cd5ced5917059ad4fd537107599785bcf9e3e985864"), looks := false }, kinds := [], alts := [], laidByText := true, laidKinds := [.data], laidTests := true, laidLooks := .later }
def BracketPairsCardSaid : Prop := Claim7.holds Tryd.pinned (.plain (OpenSpec.ofChange bracketPairsSpec)) bracketPairsCard

/-- THE TIED CARD OF 'colophonlaw10.BracketResolves'. -/
def bracketResolvesCard : Claim7 := { stood := { row := bracketResolvesRow, standIns := [], harness := (true, "1071ae045ce5dccaa0c27cd5ced5917059ad4fd537107599785bcf9e3e985864"), looks := false }, kinds := [], alts := [], laidByText := true, laidKinds := [.data], laidTests := true, laidLooks := .later }
def BracketResolvesCardSaid : Prop := Claim7.holds Tryd.pinned (.plain (OpenSpec.ofChange bracketResolvesSpec)) bracketResolvesCard

/-- THE TIED CARD OF 'colophonlaw10.BracketNest'. -/
def bracketNestCard : Claim7 := { stood := { row := bracketNestRow, standIns := [], harness := (true, "1071ae045ce5dccaa0c27cd5ced5917059ad4fd537107599785bcf9e3e985864"), looks := false }, kinds := [], alts := [], laidByText := true, laidKinds := [.data], laidTests := true, laidLooks := .later }
def BracketNestCardSaid : Prop := Claim7.holds Tryd.pinned (.plain (OpenSpec.ofChange bracketNestSpec)) bracketNestCard

/-- THE TIED CARD OF 'colophonlaw10.BracketKeeps'. -/
def bracketKeepsCard : Claim7 := { stood := { row := bracketKeepsRow, standIns := [], harness := (true, "1071ae045ce5dccaa0c27cd5ced5917059ad4fd537107599785bcf9e3e985864"), looks := false }, kinds := [], alts := [], laidByText := true, laidKinds := [.data], laidTests := true, laidLooks := .later }
def BracketKeepsCardSaid : Prop := Claim7.holds Tryd.pinned (.plain (OpenSpec.ofChange bracketKeepsSpec)) bracketKeepsCard

/-- THE TIED CARD OF 'colophonlaw10.BracketDeep'. -/
def bracketDeepCard : Claim7 := { stood := { row := bracketDeepRow, standIns := [], harness := (true, "1071ae045ce5dccaa0c27cd5ced5917059ad4fd537107599785bcf9e3e985864"), looks := false }, kinds := [], alts := [], laidByText := true, laidKinds := [.data], laidTests := true, laidLooks := .later }
def BracketDeepCardSaid : Prop := Claim7.holds Tryd.pinned (.plain (OpenSpec.ofChange bracketDeepSpec)) bracketDeepCard

/-- THE TIED CARD OF 'colophonlaw10.BracketInside'. -/
def bracketInsideCard : Claim7 := { stood := { row := bracketInsideRow, standIns := [], harness := (true, "1071ae045ce5dccaa0c27cd5ced5917059ad4fd537107599785bcf9e3e985864"), looks := false }, kinds := [], alts := [], laidByText := true, laidKinds := [.data], laidTests := true, laidLooks := .later }
def BracketInsideCardSaid : Prop := Claim7.holds Tryd.pinned (.plain (OpenSpec.ofChange bracketInsideSpec)) bracketInsideCard

/-- THE SECOND FORM's CARD OF 'colophonlaw10.BracketPairs'. -/
def bracketPairsUptoCard : Claim7 := { stood := { row := bracketPairsUptoRow, standIns := [], harness := (true, "1071ae045ce5dccaa0c27cd5ced5917059ad4fd537107599785bcf9e3e985864"), looks := false }, kinds := [], alts := [], laidByText := true, laidKinds := [.data], laidTests := true, laidLooks := .later }
def BracketPairsUptoCardSaid : Prop := Claim7.holds Tryd.pinned (.plain (OpenSpec.upto bracketPairsSpec)) bracketPairsUptoCard

/-- THE SECOND FORM's CARD OF 'colophonlaw10.BracketResolves'. -/
def bracketResolvesUptoCard : Claim7 := { stood := { row := bracketResolvesUptoRow, standIns := [], harness := (true, "1071ae045ce5dccaa0c27cd5ced5917059ad4fd537107599785bcf9e3e985864"), looks := false }, kinds := [], alts := [], laidByText := true, laidKinds := [.data], laidTests := true, laidLooks := .later }
def BracketResolvesUptoCardSaid : Prop := Claim7.holds Tryd.pinned (.plain (OpenSpec.upto bracketResolvesSpec)) bracketResolvesUptoCard

/-- THE SECOND FORM's CARD OF 'colophonlaw10.BracketNest'. -/
def bracketNestUptoCard : Claim7 := { stood := { row := bracketNestUptoRow, standIns := [], harness := (true, "1071ae045ce5dccaa0c27cd5ced5917059ad4fd537107599785bcf9e3e985864"), looks := false }, kinds := [], alts := [], laidByText := true, laidKinds := [.data], laidTests := true, laidLooks := .later }
def BracketNestUptoCardSaid : Prop := Claim7.holds Tryd.pinned (.plain (OpenSpec.upto bracketNestSpec)) bracketNestUptoCard

/-- THE SECOND FORM's CARD OF 'colophonlaw10.BracketKeeps'. -/
def bracketKeepsUptoCard : Claim7 := { stood := { row := bracketKeepsUptoRow, standIns := [], harness := (true, "1071ae045ce5dccaa0c27cd5ced5917059ad4fd537107599785bcf9e3e985864"), looks := false }, kinds := [], alts := [], laidByText := true, laidKinds := [.data], laidTests := true, laidLooks := .later }
def BracketKeepsUptoCardSaid : Prop := Claim7.holds Tryd.pinned (.plain (OpenSpec.upto bracketKeepsSpec)) bracketKeepsUptoCard

/-- THE SECOND FORM's CARD OF 'colophonlaw10.BracketDeep'. -/
def bracketDeepUptoCard : Claim7 := { stood := { row := bracketDeepUptoRow, standIns := [], harness := (true, "1071ae045ce5dccaa0c27cd5ced5917059ad4fd537107599785bcf9e3e985864"), looks := false }, kinds := [], alts := [], laidByText := true, laidKinds := [.data], laidTests := true, laidLooks := .later }
def BracketDeepUptoCardSaid : Prop := Claim7.holds Tryd.pinned (.plain (OpenSpec.upto bracketDeepSpec)) bracketDeepUptoCard

/-- THE SECOND FORM's CARD OF 'colophonlaw10.BracketInside'. -/
def bracketInsideUptoCard : Claim7 := { stood := { row := bracketInsideUptoRow, standIns := [], harness := (true, "1071ae045ce5dccaa0c27cd5ced5917059ad4fd537107599785bcf9e3e985864"), looks := false }, kinds := [], alts := [], laidByText := true, laidKinds := [.data], laidTests := true, laidLooks := .later }
def BracketInsideUptoCardSaid : Prop := Claim7.holds Tryd.pinned (.plain (OpenSpec.upto bracketInsideSpec)) bracketInsideUptoCard
end Rows
end Go.Proofs.YtkkmifpdhcdkpaaDoor
