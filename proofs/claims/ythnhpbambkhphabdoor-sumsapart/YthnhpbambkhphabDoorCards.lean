/-
  DERIVED. GIVEN WITH THE SEED: THE CARDS: each row of YthnhpbambkhphabDoorRows.lean that lists a variable, with what it lists TIED to the program's text (the seventh form; the later family's looks); each row that meets fmt, with fmt's text TOLD by the authors' own Lean function (tested against real Go, not proved from fmt's source: count such statements apart). THE CARD IS WHAT COUNTS. Prove the row's statement (the work); the ties are given (YthnhpbambkhphabDoorTie.lean); close each card by the builder's one call (the guide's Derived/Test/ToyasCard.lean, 'card_holds'). Laid BY PROGRAM, IN A SANDBOX (cutbox-door.mjs). By AI agents, Wed Nov 11 2026. No macro, syntax, notation, axiom, sorry.
-/
import Derived.Test.YthnhpbambkhphabDoorRows
import GoSem.ClaimSeven
namespace Go.Proofs.YthnhpbambkhphabDoor
namespace Rows

/-- THE TIED CARD OF 'colophonlaw02.SumsBursts'. -/
def sumsBurstsCard : Claim7 := { stood := { row := sumsBurstsRow, standIns := [], harness := (true, "37e553bd341f6efeef3a44493d7fd6fb10b947c3415f2a5d39a9357ad47f43cc"), looks := false }, kinds := [], alts := [], laidByText := true, laidKinds := [.data], laidTests := true, laidLooks := .later }
def SumsBurstsCardSaid : Prop := Claim7.holds Tryd.pinned (.plain (OpenSpec.ofChange sumsBurstsSpec)) sumsBurstsCard

/-- THE TIED CARD OF 'colophonlaw02.SumsApart'. -/
def sumsApartCard : Claim7 := { stood := { row := sumsApartRow, standIns := [], harness := (true, "37e553bd341f6efeef3a44493d7fd6fb10b947c3415f2a5d39a9357ad47f43cc"), looks := false }, kinds := [], alts := [], laidByText := true, laidKinds := [.data], laidTests := true, laidLooks := .later }
def SumsApartCardSaid : Prop := Claim7.holds Tryd.pinned (.plain (OpenSpec.ofChange sumsApartSpec)) sumsApartCard

/-- THE SECOND FORM's CARD OF 'colophonlaw02.SumsBursts'. -/
def sumsBurstsUptoCard : Claim7 := { stood := { row := sumsBurstsUptoRow, standIns := [], harness := (true, "37e553bd341f6efeef3a44493d7fd6fb10b947c3415f2a5d39a9357ad47f43cc"), looks := false }, kinds := [], alts := [], laidByText := true, laidKinds := [.data], laidTests := true, laidLooks := .later }
def SumsBurstsUptoCardSaid : Prop := Claim7.holds Tryd.pinned (.plain (OpenSpec.upto sumsBurstsSpec)) sumsBurstsUptoCard

/-- THE SECOND FORM's CARD OF 'colophonlaw02.SumsApart'. -/
def sumsApartUptoCard : Claim7 := { stood := { row := sumsApartUptoRow, standIns := [], harness := (true, "37e553bd341f6efeef3a44493d7fd6fb10b947c3415f2a5d39a9357ad47f43cc"), looks := false }, kinds := [], alts := [], laidByText := true, laidKinds := [.data], laidTests := true, laidLooks := .later }
def SumsApartUptoCardSaid : Prop := Claim7.holds Tryd.pinned (.plain (OpenSpec.upto sumsApartSpec)) sumsApartUptoCard
end Rows
end Go.Proofs.YthnhpbambkhphabDoor
