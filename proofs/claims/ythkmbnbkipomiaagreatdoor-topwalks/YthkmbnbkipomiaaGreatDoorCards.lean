/-
  DERIVED. GIVEN WITH THE SEED: THE CARDS: each row of YthkmbnbkipomiaaGreatDoorRows.lean that lists a variable, with what it lists TIED to the program's text (the seventh form; the later family's looks); each row that meets fmt, with fmt's text TOLD by the authors' own Lean function (tested against real Go, not proved from fmt's source: count such statements apart). THE CARD IS WHAT COUNTS. Prove the row's statement (the work); the ties are given (YthkmbnbkipomiaaGreatDoorTie.lean); close each card by the builder's one call (the guide's Derived/Test/ToyasCard.lean, 'card_holds'). Laid BY PROGRAM, IN A SANDBOX (cutbox-door.mjs). By AI agents, Wed Nov 11 2026. No macro, syntax, notation, axiom, sorry.
-/
import Derived.Test.YthkmbnbkipomiaaGreatDoorRows
import GoSem.ClaimSeven
namespace Go.Proofs.YthkmbnbkipomiaaGreatDoor
namespace Rows

/-- THE TIED CARD OF 'colophontop.TopWalks'. -/
def topWalksCard : Claim7 := { stood := { row := topWalksRow, standIns := [], harness := (true, "8cc158b6f13a3a3095a1b5d008b1abc0b28c4311c1b2962b29a4acac09c9ab31"), looks := false }, kinds := [], alts := [], laidByText := true, laidKinds := [.data, .data], laidTests := true, laidLooks := .later }
def TopWalksCardSaid : Prop := Claim7.holds Tryz.pinned (.plain (OpenSpec.ofChange topWalksSpec)) topWalksCard

/-- THE SECOND FORM's CARD OF 'colophontop.TopWalks'. -/
def topWalksUptoCard : Claim7 := { stood := { row := topWalksUptoRow, standIns := [], harness := (true, "8cc158b6f13a3a3095a1b5d008b1abc0b28c4311c1b2962b29a4acac09c9ab31"), looks := false }, kinds := [], alts := [], laidByText := true, laidKinds := [.data, .data], laidTests := true, laidLooks := .later }
def TopWalksUptoCardSaid : Prop := Claim7.holds Tryz.pinned (.plain (OpenSpec.upto topWalksSpec)) topWalksUptoCard
end Rows
end Go.Proofs.YthkmbnbkipomiaaGreatDoor
