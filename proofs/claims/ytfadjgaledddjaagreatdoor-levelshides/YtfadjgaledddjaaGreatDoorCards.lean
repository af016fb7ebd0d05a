/-
  DERIVED. GIVEN WITH THE SEED: THE CARDS: each row of YtfadjgaledddjaaGreatDoorRows.lean that lists a variable, with what it lists TIED to the program's text (the seventh form; the later family's looks); each row that meets fmt, with fmt's text TOLD by the authors' own Lean function (tested against real Go, not proved from fmt's source: count such statements apart). THE CARD IS WHAT COUNTS. Prove the row's statement (the work); the ties are given (YtfadjgaledddjaaGreatDoorTie.lean); close each card by the builder's one call (the guide's Derived/Test/ToyasCard.lean, 'card_holds'). Laid BY PROGRAM, IN A SANDBOX (cutbox-door.mjs). By AI agents, Wed Nov 11 2026. No macro, syntax, notation, axiom, sorry.
-/
import Derived.Test.YtfadjgaledddjaaGreatDoorRows
import GoSem.ClaimSeven
namespace Go.Proofs.YtfadjgaledddjaaGreatDoor
namespace Rows

/-- THE TIED CARD OF 'colophonlaw12.LevelsParagraph'. -/
def levelsParagraphCard : Claim7 := { stood := { row := levelsParagraphRow, standIns := [], harness := (true, "faf672fdef2ef620ec68d1957d3fef63fa6c9e42dc41971833b519d5dc1a0997"), looks := false }, kinds := [], alts := [], laidByText := true, laidKinds := [.data], laidTests := true, laidLooks := .later }
def LevelsParagraphCardSaid : Prop := Claim7.holds Tryz.pinned (.plain (OpenSpec.ofChange levelsParagraphSpec)) levelsParagraphCard

/-- THE TIED CARD OF 'colophonlaw12.LevelsClasses'. -/
def levelsClassesCard : Claim7 := { stood := { row := levelsClassesRow, standIns := [], harness := (true, "faf672fdef2ef620ec68d1957d3fef63fa6c9e42dc41971833b519d5dc1a0997"), looks := false }, kinds := [], alts := [], laidByText := true, laidKinds := [.data], laidTests := true, laidLooks := .later }
def LevelsClassesCardSaid : Prop := Claim7.holds Tryz.pinned (.plain (OpenSpec.ofChange levelsClassesSpec)) levelsClassesCard

/-- THE TIED CARD OF 'colophonlaw12.LevelsRange'. -/
def levelsRangeCard : Claim7 := { stood := { row := levelsRangeRow, standIns := [], harness := (true, "faf672fdef2ef620ec68d1957d3fef63fa6c9e42dc41971833b519d5dc1a0997"), looks := false }, kinds := [], alts := [], laidByText := true, laidKinds := [.data], laidTests := true, laidLooks := .later }
def LevelsRangeCardSaid : Prop := Claim7.holds Tryz.pinned (.plain (OpenSpec.ofChange levelsRangeSpec)) levelsRangeCard

/-- THE TIED CARD OF 'colophonlaw12.LevelsDeaf'. -/
def levelsDeafCard : Claim7 := { stood := { row := levelsDeafRow, standIns := [], harness := (true, "faf672fdef2ef620ec68d1957d3fef63fa6c9e42dc41971833b519d5dc1a0997"), looks := false }, kinds := [], alts := [], laidByText := true, laidKinds := [.data], laidTests := true, laidLooks := .later }
def LevelsDeafCardSaid : Prop := Claim7.holds Tryz.pinned (.plain (OpenSpec.ofChange levelsDeafSpec)) levelsDeafCard

/-- THE TIED CARD OF 'colophonlaw12.LevelsHides'. -/
def levelsHidesCard : Claim7 := { stood := { row := levelsHidesRow, standIns := [], harness := (true, "faf672fdef2ef620ec68d1957d3fef63fa6c9e42dc41971833b519d5dc1a0997"), looks := false }, kinds := [], alts := [], laidByText := true, laidKinds := [.data], laidTests := true, laidLooks := .later }
def LevelsHidesCardSaid : Prop := Claim7.holds Tryz.pinned (.plain (OpenSpec.ofChange levelsHidesSpec)) levelsHidesCard

/-- THE TIED CARD OF 'colophonlaw12.LevelsPlain'. -/
def levelsPlainCard : Claim7 := { stood := { row := levelsPlainRow, standIns := [], harness := (true, "faf672fdef2ef620ec68d1957d3fef63fa6c9e42dc41971833b519d5dc1a0997"), looks := false }, kinds := [], alts := [], laidByText := true, laidKinds := [.data], laidTests := true, laidLooks := .later }
def LevelsPlainCardSaid : Prop := Claim7.holds Tryz.pinned (.plain (OpenSpec.ofChange levelsPlainSpec)) levelsPlainCard

/-- THE SECOND FORM's CARD OF 'colophonlaw12.LevelsParagraph'. -/
def levelsParagraphUptoCard : Claim7 := { stood := { row := levelsParagraphUptoRow, standIns := [], harness := (true, "faf672fdef2ef620ec68d1957d3fef63fa6c9e42dc41971833b519d5dc1a0997"), looks := false }, kinds := [], alts := [], laidByText := true, laidKinds := [.data], laidTests := true, laidLooks := .later }
def LevelsParagraphUptoCardSaid : Prop := Claim7.holds Tryz.pinned (.plain (OpenSpec.upto levelsParagraphSpec)) levelsParagraphUptoCard

/-- THE SECOND FORM's CARD OF 'colophonlaw12.LevelsClasses'. -/
def levelsClassesUptoCard : Claim7 := { stood := { row := levelsClassesUptoRow, standIns := [], harness := (true, "faf672fdef2ef620ec68d1957d3fef63fa6c9e42dc41971833b519d5dc1a0997"), looks := false }, kinds := [], alts := [], laidByText := true, laidKinds := [.data], laidTests := true, laidLooks := .later }
def LevelsClassesUptoCardSaid : Prop := Claim7.holds Tryz.pinned (.plain (OpenSpec.upto levelsClassesSpec)) levelsClassesUptoCard

/-- THE SECOND FORM's CARD OF 'colophonlaw12.LevelsRange'. -/
def levelsRangeUptoCard : Claim7 := { stood := { row := levelsRangeUptoRow, standIns := [], harness := (true, "faf672fdef2ef620ec68d1957d3fef63fa6c9e42dc41971833b519d5dc1a0997"), looks := false }, kinds := [], alts := [], laidByText := true, laidKinds := [.data], laidTests := true, laidLooks := .later }
def LevelsRangeUptoCardSaid : Prop := Claim7.holds Tryz.pinned (.plain (OpenSpec.upto levelsRangeSpec)) levelsRangeUptoCard

/-- THE SECOND FORM's CARD OF 'colophonlaw12.LevelsDeaf'. -/
def levelsDeafUptoCard : Claim7 := { stood := { row := levelsDeafUptoRow, standIns := [], harness := (true, "faf672fdef2ef620ec68d1957d3fef63fa6c9e42dc41971833b519d5dc1a0997"), looks := false }, kinds := [], alts := [], laidByText := true, laidKinds := [.data], laidTests := true, laidLooks := .later }
def LevelsDeafUptoCardSaid : Prop := Claim7.holds Tryz.pinned (.plain (OpenSpec.upto levelsDeafSpec)) levelsDeafUptoCard

/-- THE SECOND FORM's CARD OF 'colophonlaw12.LevelsHides'. -/
def levelsHidesUptoCard : Claim7 := { stood := { row := levelsHidesUptoRow, standIns := [], harness := (true, "faf672fdef2ef620ec68d1957d3fef63fa6c9e42dc41971833b519d5dc1a0997"), looks := false }, kinds := [], alts := [], laidByText := true, laidKinds := [.data], laidTests := true, laidLooks := .later }
def LevelsHidesUptoCardSaid : Prop := Claim7.holds Tryz.pinned (.plain (OpenSpec.upto levelsHidesSpec)) levelsHidesUptoCard

/-- THE SECOND FORM's CARD OF 'colophonlaw12.LevelsPlain'. -/
def levelsPlainUptoCard : Claim7 := { stood := { row := levelsPlainUptoRow, standIns := [], harness := (true, "faf672fdef2ef620ec68d1957d3fef63fa6c9e42dc41971833b519d5dc1a0997"), looks := false }, kinds := [], alts := [], laidByText := true, laidKinds := [.data], laidTests := true, laidLooks := .later }
def LevelsPlainUptoCardSaid : Prop := Claim7.holds Tryz.pinned (.plain (OpenSpec.upto levelsPlainSpec)) levelsPlainUptoCard
end Rows
end Go.Proofs.YtfadjgaledddjaaGreatDoor
