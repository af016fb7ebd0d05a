/-
  DERIVED. GIVEN WITH THE SEED: THE CARDS: each row of YtpndmjenpmefmaaDoorRows.lean that lists a variable, with what it lists TIED to the program's text (the seventh form; the later family's looks); each row that meets fmt, with fmt's text TOLD by the authors' own Lean function (tested against real Go, not proved from fmt's source: count such statements apart). THE CARD IS WHAT COUNTS. Prove the row's statement (the work); the ties are given (YtpndmjenpmefmaaDoorTie.lean); close each card by the builder's one call (the guide's Derived/Test/ToyasCard.lean, 'card_holds'). Laid BY PROGRAM, IN A SANDBOX (cutbox-door.mjs). By AI agents, Wed Nov 11 2026. No macro, syntax, notation, axiom, sorry.
-/
import Derived.Test.YtpndmjenpmefmaaDoorRows
import GoSem.ClaimSeven
namespace Go.Proofs.YtpndmjenpmefmaaDoor
namespace Rows

/-- THE TIED CARD OF 'colophonlaw03.UcdMarks'. -/
def ucdMarksCard : Claim7 := { stood := { row := ucdMarksRow, standIns := [], harness := (true, "3168c934288409517257aa0c6c654763ca82dc7c656c6252757f72d9db705b9b"), looks := false }, kinds := [], alts := [], laidByText := true, laidKinds := [.data, .data], laidTests := true, laidLooks := .later }
def UcdMarksCardSaid : Prop := Claim7.holds Tryd.pinned (.plain (OpenSpec.ofChange ucdMarksSpec)) ucdMarksCard

/-- THE TIED CARD OF 'colophonlaw03.UcdApart'. -/
def ucdApartCard : Claim7 := { stood := { row := ucdApartRow, standIns := [], harness := (true, "3168c934288409517257aa0c6c654763ca82dc7c656c6252757f72d9db705b9b"), looks := false }, kinds := [], alts := [], laidByText := true, laidKinds := [.data, .data], laidTests := true, laidLooks := .later }
def UcdApartCardSaid : Prop := Claim7.holds Tryd.pinned (.plain (OpenSpec.ofChange ucdApartSpec)) ucdApartCard

/-- THE TIED CARD OF 'colophonlaw03.UcdPairs'. -/
def ucdPairsCard : Claim7 := { stood := { row := ucdPairsRow, standIns := [], harness := (true, "3168c934288409517257aa0c6c654763ca82dc7c656c6252757f72d9db705b9b"), looks := false }, kinds := [], alts := [], laidByText := true, laidKinds := [.data, .data], laidTests := true, laidLooks := .later }
def UcdPairsCardSaid : Prop := Claim7.holds Tryd.pinned (.plain (OpenSpec.ofChange ucdPairsSpec)) ucdPairsCard

/-- THE TIED CARD OF 'colophonlaw03.UcdTwice'. -/
def ucdTwiceCard : Claim7 := { stood := { row := ucdTwiceRow, standIns := [], harness := (true, "3168c934288409517257aa0c6c654763ca82dc7c656c6252757f72d9db705b9b"), looks := false }, kinds := [], alts := [], laidByText := true, laidKinds := [.data, .data], laidTests := true, laidLooks := .later }
def UcdTwiceCardSaid : Prop := Claim7.holds Tryd.pinned (.plain (OpenSpec.ofChange ucdTwiceSpec)) ucdTwiceCard

/-- THE SECOND FORM's CARD OF 'colophonlaw03.UcdMarks'. -/
def ucdMarksUptoCard : Claim7 := { stood := { row := ucdMarksUptoRow, standIns := [], harness := (true, "3168c934288409517257aa0c6c654763ca82dc7c656c6252757f72d9db705b9b"), looks := false }, kinds := [], alts := [], laidByText := true, laidKinds := [.data, .data], laidTests := true, laidLooks := .later }
def UcdMarksUptoCardSaid : Prop := Claim7.holds Tryd.pinned (.plain (OpenSpec.upto ucdMarksSpec)) ucdMarksUptoCard

/-- THE SECOND FORM's CARD OF 'colophonlaw03.UcdApart'. -/
def ucdApartUptoCard : Claim7 := { stood := { row := ucdApartUptoRow, standIns := [], harness := (true, "3168c934288409517257aa0c6c654763ca82dc7c656c6252757f72d9db705b9b"), looks := false }, kinds := [], alts := [], laidByText := true, laidKinds := [.data, .data], laidTests := true, laidLooks := .later }
def UcdApartUptoCardSaid : Prop := Claim7.holds Tryd.pinned (.plain (OpenSpec.upto ucdApartSpec)) ucdApartUptoCard

/-- THE SECOND FORM's CARD OF 'colophonlaw03.UcdPairs'. -/
def ucdPairsUptoCard : Claim7 := { stood := { row := ucdPairsUptoRow, standIns := [], harness := (true, "3168c934288409517257aa0c6c654763ca82dc7c656c6252757f72d9db705b9b"), looks := false }, kinds := [], alts := [], laidByText := true, laidKinds := [.data, .data], laidTests := true, laidLooks := .later }
def UcdPairsUptoCardSaid : Prop := Claim7.holds Tryd.pinned (.plain (OpenSpec.upto ucdPairsSpec)) ucdPairsUptoCard

/-- THE SECOND FORM's CARD OF 'colophonlaw03.UcdTwice'. -/
def ucdTwiceUptoCard : Claim7 := { stood := { row := ucdTwiceUptoRow, standIns := [], harness := (true, "3168c934288409517257aa0c6c654763ca82dc7c656c6252757f72d9db705b9b"), looks := false }, kinds := [], alts := [], laidByText := true, laidKinds := [.data, .data], laidTests := true, laidLooks := .later }
def UcdTwiceUptoCardSaid : Prop := Claim7.holds Tryd.pinned (.plain (OpenSpec.upto ucdTwiceSpec)) ucdTwiceUptoCard
end Rows
end Go.Proofs.YtpndmjenpmefmaaDoor
