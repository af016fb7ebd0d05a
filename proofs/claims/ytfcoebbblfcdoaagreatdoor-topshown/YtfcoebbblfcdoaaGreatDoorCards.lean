/-
  DERIVED. GIVEN WITH THE SEED: THE CARDS: each row of YtfcoebbblfcdoaaGreatDoorRows.lean that lists a variable, with what it lists TIED to the program's text (the seventh form; the later family's looks); each row that meets fmt, with fmt's text TOLD by the authors' own Lean function (tested against real Go, not proved from fmt's source: count such statements apart). THE CARD IS WHAT COUNTS. Prove the row's statement (the work); the ties are given (YtfcoebbblfcdoaaGreatDoorTie.lean); close each card by the builder's one call (the guide's Derived/Test/ToyasCard.lean, 'card_holds'). Laid BY PROGRAM, IN A SANDBOX (cutbox-door.mjs). By AI agents, Wed Nov 11 2026. No macro, syntax, notation, axiom, sorry.
-/
import Derived.Test.YtfcoebbblfcdoaaGreatDoorRows
import GoSem.ClaimSeven
namespace Go.Proofs.YtfcoebbblfcdoaaGreatDoor
namespace Rows

/-- THE TIED CARD OF 'colophontop.TopShown'. -/
def topShownCard : Claim7 := { stood := { row := topShownRow, standIns := [], harness := (true, "ea7217fed7dbf44ca2d30cfbf641f627eee452eafbf3dd0d193c46ed7a843777"), looks := false }, kinds := [], alts := [], laidByText := true, laidKinds := [.data, .data], laidTests := true, laidLooks := .later }
def TopShownCardSaid : Prop := Claim7.holds Tryz.pinned (.plain (OpenSpec.ofChange topShownSpec)) topShownCard

/-- THE SECOND FORM's CARD OF 'colophontop.TopShown'. -/
def topShownUptoCard : Claim7 := { stood := { row := topShownUptoRow, standIns := [], harness := (true, "ea7217fed7dbf44ca2d30cfbf641f627eee452eafbf3dd0d193c46ed7a843777"), looks := false }, kinds := [], alts := [], laidByText := true, laidKinds := [.data, .data], laidTests := true, laidLooks := .later }
def TopShownUptoCardSaid : Prop := Claim7.holds Tryz.pinned (.plain (OpenSpec.upto topShownSpec)) topShownUptoCard
end Rows
end Go.Proofs.YtfcoebbblfcdoaaGreatDoor
