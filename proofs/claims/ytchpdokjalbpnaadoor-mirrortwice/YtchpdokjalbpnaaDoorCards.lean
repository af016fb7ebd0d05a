/-
  DERIVED. GIVEN WITH THE SEED: THE CARDS: each row of YtchpdokjalbpnaaDoorRows.lean that lists a variable, with what it lists TIED to the program's text (the seventh form; the later family's looks); each row that meets fmt, with fmt's text TOLD by the authors' own Lean function (tested against real Go, not proved from fmt's source: count such statements apart). THE CARD IS WHAT COUNTS. Prove the row's statement (the work); the ties are given (YtchpdokjalbpnaaDoorTie.lean); close each card by the builder's one call (the guide's Derived/Test/ToyasCard.lean, 'card_holds'). Laid BY PROGRAM, IN A SANDBOX (cutbox-door.mjs). By AI agents, Wed Nov 11 2026. No macro, syntax, notation, axiom, sorry.
-/
import Derived.Test.YtchpdokjalbpnaaDoorRows
import GoSem.ClaimSeven
namespace Go.Proofs.YtchpdokjalbpnaaDoor
namespace Rows

/-- THE TIED CARD OF 'colophonlaw14.MirrorGlyphs'. -/
def mirrorGlyphsCard : Claim7 := { stood := { row := mirrorGlyphsRow, standIns := [], harness := (true, "9baae417e64bbe13d83896a37c958a72ff7dd836a783fc5e342bdb89570d1172"), looks := false }, kinds := [], alts := [], laidByText := true, laidKinds := [.data, .data], laidTests := true, laidLooks := .later }
def MirrorGlyphsCardSaid : Prop := Claim7.holds Tryd.pinned (.plain (OpenSpec.ofChange mirrorGlyphsSpec)) mirrorGlyphsCard

/-- THE TIED CARD OF 'colophonlaw14.MirrorShows'. -/
def mirrorShowsCard : Claim7 := { stood := { row := mirrorShowsRow, standIns := [], harness := (true, "9baae417e64bbe13d83896a37c958a72ff7dd836a783fc5e342bdb89570d1172"), looks := false }, kinds := [], alts := [], laidByText := true, laidKinds := [.data, .data], laidTests := true, laidLooks := .later }
def MirrorShowsCardSaid : Prop := Claim7.holds Tryd.pinned (.plain (OpenSpec.ofChange mirrorShowsSpec)) mirrorShowsCard

/-- THE TIED CARD OF 'colophonlaw14.MirrorTwice'. -/
def mirrorTwiceCard : Claim7 := { stood := { row := mirrorTwiceRow, standIns := [], harness := (true, "9baae417e64bbe13d83896a37c958a72ff7dd836a783fc5e342bdb89570d1172"), looks := false }, kinds := [], alts := [], laidByText := true, laidKinds := [.data, .data], laidTests := true, laidLooks := .later }
def MirrorTwiceCardSaid : Prop := Claim7.holds Tryd.pinned (.plain (OpenSpec.ofChange mirrorTwiceSpec)) mirrorTwiceCard

/-- THE TIED CARD OF 'colophonlaw14.MirrorPlaces'. -/
def mirrorPlacesCard : Claim7 := { stood := { row := mirrorPlacesRow, standIns := [], harness := (true, "9baae417e64bbe13d83896a37c958a72ff7dd836a783fc5e342bdb89570d1172"), looks := false }, kinds := [], alts := [], laidByText := true, laidKinds := [.data, .data], laidTests := true, laidLooks := .later }
def MirrorPlacesCardSaid : Prop := Claim7.holds Tryd.pinned (.plain (OpenSpec.ofChange mirrorPlacesSpec)) mirrorPlacesCard

/-- THE TIED CARD OF 'colophonlaw14.MirrorBack'. -/
def mirrorBackCard : Claim7 := { stood := { row := mirrorBackRow, standIns := [], harness := (true, "9baae417e64bbe13d83896a37c958a72ff7dd836a783fc5e342bdb89570d1172"), looks := false }, kinds := [], alts := [], laidByText := true, laidKinds := [.data, .data], laidTests := true, laidLooks := .later }
def MirrorBackCardSaid : Prop := Claim7.holds Tryd.pinned (.plain (OpenSpec.ofChange mirrorBackSpec)) mirrorBackCard

/-- THE SECOND FORM's CARD OF 'colophonlaw14.MirrorGlyphs'. -/
def mirrorGlyphsUptoCard : Claim7 := { stood := { row := mirrorGlyphsUptoRow, standIns := [], harness := (true, "9baae417e64bbe13d83896a37c958a72ff7dd836a783fc5e342bdb89570d1172"), looks := false }, kinds := [], alts := [], laidByText := true, laidKinds := [.data, .data], laidTests := true, laidLooks := .later }
def MirrorGlyphsUptoCardSaid : Prop := Claim7.holds Tryd.pinned (.plain (OpenSpec.upto mirrorGlyphsSpec)) mirrorGlyphsUptoCard

/-- THE SECOND FORM's CARD OF 'colophonlaw14.MirrorShows'. -/
def mirrorShowsUptoCard : Claim7 := { stood := { row := mirrorShowsUptoRow, standIns := [], harness := (true, "9baae417e64bbe13d83896a37c958a72ff7dd836a783fc5e342bdb89570d1172"), looks := false }, kinds := [], alts := [], laidByText := true, laidKinds := [.data, .data], laidTests := true, laidLooks := .later }
def MirrorShowsUptoCardSaid : Prop := Claim7.holds Tryd.pinned (.plain (OpenSpec.upto mirrorShowsSpec)) mirrorShowsUptoCard

/-- THE SECOND FORM's CARD OF 'colophonlaw14.MirrorTwice'. -/
def mirrorTwiceUptoCard : Claim7 := { stood := { row := mirrorTwiceUptoRow, standIns := [], harness := (true, "9baae417e64bbe13d83896a37c958a72ff7dd836a783fc5e342bdb89570d1172"), looks := false }, kinds := [], alts := [], laidByText := true, laidKinds := [.data, .data], laidTests := true, laidLooks := .later }
def MirrorTwiceUptoCardSaid : Prop := Claim7.holds Tryd.pinned (.plain (OpenSpec.upto mirrorTwiceSpec)) mirrorTwiceUptoCard

/-- THE SECOND FORM's CARD OF 'colophonlaw14.MirrorPlaces'. -/
def mirrorPlacesUptoCard : Claim7 := { stood := { row := mirrorPlacesUptoRow, standIns := [], harness := (true, "9baae417e64bbe13d83896a37c958a72ff7dd836a783fc5e342bdb89570d1172"), looks := false }, kinds := [], alts := [], laidByText := true, laidKinds := [.data, .data], laidTests := true, laidLooks := .later }
def MirrorPlacesUptoCardSaid : Prop := Claim7.holds Tryd.pinned (.plain (OpenSpec.upto mirrorPlacesSpec)) mirrorPlacesUptoCard

/-- THE SECOND FORM's CARD OF 'colophonlaw14.MirrorBack'. -/
def mirrorBackUptoCard : Claim7 := { stood := { row := mirrorBackUptoRow, standIns := [], harness := (true, "9baae417e64bbe13d83896a37c958a72ff7dd836a783fc5e342bdb89570d1172"), looks := false }, kinds := [], alts := [], laidByText := true, laidKinds := [.data, .data], laidTests := true, laidLooks := .later }
def MirrorBackUptoCardSaid : Prop := Claim7.holds Tryd.pinned (.plain (OpenSpec.upto mirrorBackSpec)) mirrorBackUptoCard
end Rows
end Go.Proofs.YtchpdokjalbpnaaDoor
