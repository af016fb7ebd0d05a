/-
  DERIVED. GIVEN WITH THE SEED: THE CARDS: each row of YthnhpbambkhphaaDoorRows.lean that lists a variable, with what it lists TIED to the program's text (the seventh form; the later family's looks); each row that meets fmt, with fmt's text TOLD by the authors' own Lean function (tested against real Go, not proved from fmt's source: count such statements apart). THE CARD IS WHAT COUNTS. Prove the row's statement (the work); the ties are given (YthnhpbambkhphaaDoorTie.lean); close each card by the builder's one call (the guide's Derived/Test/ToyasCard.lean, 'card_holds'). Laid BY PROGRAM, IN A SANDBOX (cutbox-door.mjs). By AI agents, Wed Nov 11 2026. No macro, syntax, notation, axiom, sorry.
-/
import Derived.Test.YthnhpbambkhphaaDoorRows
import GoSem.ClaimSeven
namespace Go.Proofs.YthnhpbambkhphaaDoor
namespace Rows

/-- THE TIED CARD OF 'colophonlaw02.SumsCrcs'. -/
def sumsCrcsCard : Claim7 := { stood := { row := sumsCrcsRow, standIns := [], harness := (true, "4394e4696fcc5119cb1287beff4d3019528c611d420522ceef47a0e49ed505da"), looks := false }, kinds := [], alts := [], laidByText := true, laidKinds := [.data], laidTests := true, laidLooks := .later }
def SumsCrcsCardSaid : Prop := Claim7.holds Tryd.pinned (.plain (OpenSpec.ofChange sumsCrcsSpec)) sumsCrcsCard

/-- THE TIED CARD OF 'colophonlaw02.SumsOpens'. -/
def sumsOpensCard : Claim7 := { stood := { row := sumsOpensRow, standIns := [], harness := (true, "4394e4696fcc5119cb1287beff4d3019528c611d420522ceef47a0e49ed505da"), looks := false }, kinds := [], alts := [], laidByText := true, laidKinds := [.data], laidTests := true, laidLooks := .later }
def SumsOpensCardSaid : Prop := Claim7.holds Tryd.pinned (.plain (OpenSpec.ofChange sumsOpensSpec)) sumsOpensCard

/-- THE TIED CARD OF 'colophonlaw02.SumsBack'. -/
def sumsBackCard : Claim7 := { stood := { row := sumsBackRow, standIns := [], harness := (true, "4394e4696fcc5119cb1287beff4d3019528c611d420522ceef47a0e49ed505da"), looks := false }, kinds := [], alts := [], laidByText := true, laidKinds := [.data], laidTests := true, laidLooks := .later }
def SumsBackCardSaid : Prop := Claim7.holds Tryd.pinned (.plain (OpenSpec.ofChange sumsBackSpec)) sumsBackCard

/-- THE TIED CARD OF 'colophonlaw02.SumsParts'. -/
def sumsPartsCard : Claim7 := { stood := { row := sumsPartsRow, standIns := [], harness := (true, "4394e4696fcc5119cb1287beff4d3019528c611d420522ceef47a0e49ed505da"), looks := false }, kinds := [], alts := [], laidByText := true, laidKinds := [.data], laidTests := true, laidLooks := .later }
def SumsPartsCardSaid : Prop := Claim7.holds Tryd.pinned (.plain (OpenSpec.ofChange sumsPartsSpec)) sumsPartsCard

/-- THE TIED CARD OF 'colophonlaw02.SumsMixes'. -/
def sumsMixesCard : Claim7 := { stood := { row := sumsMixesRow, standIns := [], harness := (true, "4394e4696fcc5119cb1287beff4d3019528c611d420522ceef47a0e49ed505da"), looks := false }, kinds := [], alts := [], laidByText := true, laidKinds := [.data], laidTests := true, laidLooks := .later }
def SumsMixesCardSaid : Prop := Claim7.holds Tryd.pinned (.plain (OpenSpec.ofChange sumsMixesSpec)) sumsMixesCard

/-- THE SECOND FORM's CARD OF 'colophonlaw02.SumsCrcs'. -/
def sumsCrcsUptoCard : Claim7 := { stood := { row := sumsCrcsUptoRow, standIns := [], harness := (true, "4394e4696fcc5119cb1287beff4d3019528c611d420522ceef47a0e49ed505da"), looks := false }, kinds := [], alts := [], laidByText := true, laidKinds := [.data], laidTests := true, laidLooks := .later }
def SumsCrcsUptoCardSaid : Prop := Claim7.holds Tryd.pinned (.plain (OpenSpec.upto sumsCrcsSpec)) sumsCrcsUptoCard

/-- THE SECOND FORM's CARD OF 'colophonlaw02.SumsOpens'. -/
def sumsOpensUptoCard : Claim7 := { stood := { row := sumsOpensUptoRow, standIns := [], harness := (true, "4394e4696fcc5119cb1287beff4d3019528c611d420522ceef47a0e49ed505da"), looks := false }, kinds := [], alts := [], laidByText := true, laidKinds := [.data], laidTests := true, laidLooks := .later }
def SumsOpensUptoCardSaid : Prop := Claim7.holds Tryd.pinned (.plain (OpenSpec.upto sumsOpensSpec)) sumsOpensUptoCard

/-- THE SECOND FORM's CARD OF 'colophonlaw02.SumsBack'. -/
def sumsBackUptoCard : Claim7 := { stood := { row := sumsBackUptoRow, standIns := [], harness := (true, "4394e4696fcc5119cb1287beff4d3019528c611d420522ceef47a0e49ed505da"), looks := false }, kinds := [], alts := [], laidByText := true, laidKinds := [.data], laidTests := true, laidLooks := .later }
def SumsBackUptoCardSaid : Prop := Claim7.holds Tryd.pinned (.plain (OpenSpec.upto sumsBackSpec)) sumsBackUptoCard

/-- THE SECOND FORM's CARD OF 'colophonlaw02.SumsParts'. -/
def sumsPartsUptoCard : Claim7 := { stood := { row := sumsPartsUptoRow, standIns := [], harness := (true, "4394e4696fcc5119cb1287beff4d3019528c611d420522ceef47a0e49ed505da"), looks := false }, kinds := [], alts := [], laidByText := true, laidKinds := [.data], laidTests := true, laidLooks := .later }
def SumsPartsUptoCardSaid : Prop := Claim7.holds Tryd.pinned (.plain (OpenSpec.upto sumsPartsSpec)) sumsPartsUptoCard

/-- THE SECOND FORM's CARD OF 'colophonlaw02.SumsMixes'. -/
def sumsMixesUptoCard : Claim7 := { stood := { row := sumsMixesUptoRow, standIns := [], harness := (true, "4394e4696fcc5119cb1287beff4d3019528c611d420522ceef47a0e49ed505da"), looks := false }, kinds := [], alts := [], laidByText := true, laidKinds := [.data], laidTests := true, laidLooks := .later }
def SumsMixesUptoCardSaid : Prop := Claim7.holds Tryd.pinned (.plain (OpenSpec.upto sumsMixesSpec)) sumsMixesUptoCard
end Rows
end Go.Proofs.YthnhpbambkhphaaDoor
