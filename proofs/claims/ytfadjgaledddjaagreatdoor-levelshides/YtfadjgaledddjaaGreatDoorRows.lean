/-
  NARROWER THAN 'FOR EVERY INPUT', by the rows' own cells (each row's printed sentence says how): LevelsParagraph: laid · LevelsClasses: laid · LevelsRange: laid · LevelsDeaf: laid · LevelsHides: laid · LevelsPlain: laid.
  DERIVED. THE GIVEN ROWS OF THIS SEAT. 6 by the template 'for every input the law returns true; each argument reads behind the call as it read before'; 0 by the template 'total and deterministic' (their statements: YtfadjgaledddjaaGreatDoorTotals.lean).
  GIVEN WITH THE SEED: the statements are not yours to turn. If you find one false, say at which input.
  Laid BY PROGRAM, IN A SANDBOX (cutbox-rows.mjs): the forced cells as the released guide's own fill.sh prints them over the translation 6c5533e224812ecf… (all of the seat's roots in one cut). By AI agents, Wed Nov 11 2026. No macro, syntax, notation, axiom, sorry.
-/
import Derived.Test.YtfadjgaledddjaaGreatDoorChecked
import GoSem.Claim
import GoSem.ClaimJoined
import GoSem.ClaimMapViews
import Derived.JoinedTies
import Derived.KernelRfl
namespace Go.Proofs.YtfadjgaledddjaaGreatDoor
/- THE CELL 'sum', in the pinned program and in every row, IS THE sha256 OF THE DUMP (.gsa) THAT YtfadjgaledddjaaGreatDoorProg.lean LOADS. Nothing in Lean hashes anything: it is a label: what it is worth is what the hold of that sum in a sandbox is worth. -/
noncomputable def Tryz.pinned : Pinned := { name := "ytfadjgaledddjaagreatdoor", sum := "6c5533e224812ecf26ac469bdb59217eb544513d57c472e194d3659092350768", checked := Tryz.checked }
namespace Rows
def none {H : Type} : Left H := { results := [], args := [] }

/- WHAT THE LISTED PACKAGE-LEVEL VARIABLES READ AS WHEN THE CALL BEGINS. Each datum BY PROGRAM (the guide's laid-datum.mjs) off the statement by which the dump's own 'gosem.cut.vars' lays the variable. In a bare row this is a premise. The card (YtfadjgaledddjaaGreatDoorCards.lean) ties it to the program's text. -/
def laid_colophon_ucd_brackets {H : Type} : DataW H := .agg [.agg [.lit (.int .i32 40), .lit (.int .i32 41)], .agg [.lit (.int .i32 91), .lit (.int .i32 93)], .agg [.lit (.int .i32 123), .lit (.int .i32 125)], .agg [.lit (.int .i32 8261), .lit (.int .i32 8262)], .agg [.lit (.int .i32 8317), .lit (.int .i32 8318)], .agg [.lit (.int .i32 8333), .lit (.int .i32 8334)], .agg [.lit (.int .i32 9001), .lit (.int .i32 9002)], .agg [.lit (.int .i32 10214), .lit (.int .i32 10215)], .agg [.lit (.int .i32 10216), .lit (.int .i32 10217)], .agg [.lit (.int .i32 10218), .lit (.int .i32 10219)], .agg [.lit (.int .i32 10220), .lit (.int .i32 10221)], .agg [.lit (.int .i32 10222), .lit (.int .i32 10223)], .agg [.lit (.int .i32 12296), .lit (.int .i32 12297)], .agg [.lit (.int .i32 12298), .lit (.int .i32 12299)], .agg [.lit (.int .i32 12300), .lit (.int .i32 12301)], .agg [.lit (.int .i32 12302), .lit (.int .i32 12303)], .agg [.lit (.int .i32 12304), .lit (.int .i32 12305)], .agg [.lit (.int .i32 12308), .lit (.int .i32 12309)], .agg [.lit (.int .i32 12310), .lit (.int .i32 12311)], .agg [.lit (.int .i32 12312), .lit (.int .i32 12313)], .agg [.lit (.int .i32 12314), .lit (.int .i32 12315)]]

/-- 'colophonlaw12.LevelsParagraph': WHATEVER THE INPUT: true; the input reads as it did. -/
def levelsParagraphSpec : ChangeSpec := { name := "levelsParagraph", fn := fun _ => fun
  | [d1, d2] => { results := [.lit (.bool true)], args := [d1, d2] }
  | _ => none }
def levelsParagraphRow : OpenClaim := { program := "ytfadjgaledddjaagreatdoor", sum := "6c5533e224812ecf26ac469bdb59217eb544513d57c472e194d3659092350768", func := "colophon/colophonlaw12.LevelsParagraph", spec := "levelsParagraph", unfollowed := true, recurses := true, named := ["colophon/ucd.brackets"], apart := false, laid := [("colophon/ucd.brackets", laid_colophon_ucd_brackets)] }
def LevelsParagraphSaid : Prop := levelsParagraphRow.holds Tryz.pinned (OpenSpec.ofChange levelsParagraphSpec)

/-- ITS FALSE NEIGHBOUR: 'it returns false'. Refute it at one input. -/
def levelsParagraphWrong : ChangeSpec := { name := "levelsParagraph", fn := fun _ => fun
  | [d1, d2] => { results := [.lit (.bool false)], args := [d1, d2] }
  | _ => none }
def LevelsParagraphWrongFalsely : Prop := levelsParagraphRow.holds Tryz.pinned (OpenSpec.ofChange levelsParagraphWrong)

/-- 'colophonlaw12.LevelsClasses': WHATEVER THE INPUT: true; the input reads as it did. -/
def levelsClassesSpec : ChangeSpec := { name := "levelsClasses", fn := fun _ => fun
  | [d] => { results := [.lit (.bool true)], args := [d] }
  | _ => none }
def levelsClassesRow : OpenClaim := { program := "ytfadjgaledddjaagreatdoor", sum := "6c5533e224812ecf26ac469bdb59217eb544513d57c472e194d3659092350768", func := "colophon/colophonlaw12.LevelsClasses", spec := "levelsClasses", unfollowed := true, recurses := true, named := ["colophon/ucd.brackets"], apart := false, laid := [("colophon/ucd.brackets", laid_colophon_ucd_brackets)] }
def LevelsClassesSaid : Prop := levelsClassesRow.holds Tryz.pinned (OpenSpec.ofChange levelsClassesSpec)

/-- ITS FALSE NEIGHBOUR: 'it returns false'. Refute it at one input. -/
def levelsClassesWrong : ChangeSpec := { name := "levelsClasses", fn := fun _ => fun
  | [d] => { results := [.lit (.bool false)], args := [d] }
  | _ => none }
def LevelsClassesWrongFalsely : Prop := levelsClassesRow.holds Tryz.pinned (OpenSpec.ofChange levelsClassesWrong)

/-- 'colophonlaw12.LevelsRange': WHATEVER THE INPUT: true; the input reads as it did. -/
def levelsRangeSpec : ChangeSpec := { name := "levelsRange", fn := fun _ => fun
  | [d1, d2] => { results := [.lit (.bool true)], args := [d1, d2] }
  | _ => none }
def levelsRangeRow : OpenClaim := { program := "ytfadjgaledddjaagreatdoor", sum := "6c5533e224812ecf26ac469bdb59217eb544513d57c472e194d3659092350768", func := "colophon/colophonlaw12.LevelsRange", spec := "levelsRange", unfollowed := true, recurses := true, named := ["colophon/ucd.brackets"], apart := false, laid := [("colophon/ucd.brackets", laid_colophon_ucd_brackets)] }
def LevelsRangeSaid : Prop := levelsRangeRow.holds Tryz.pinned (OpenSpec.ofChange levelsRangeSpec)

/-- ITS FALSE NEIGHBOUR: 'it returns false'. Refute it at one input. -/
def levelsRangeWrong : ChangeSpec := { name := "levelsRange", fn := fun _ => fun
  | [d1, d2] => { results := [.lit (.bool false)], args := [d1, d2] }
  | _ => none }
def LevelsRangeWrongFalsely : Prop := levelsRangeRow.holds Tryz.pinned (OpenSpec.ofChange levelsRangeWrong)

/-- 'colophonlaw12.LevelsDeaf': WHATEVER THE INPUT: true; the input reads as it did. -/
def levelsDeafSpec : ChangeSpec := { name := "levelsDeaf", fn := fun _ => fun
  | [d1, d2, d3] => { results := [.lit (.bool true)], args := [d1, d2, d3] }
  | _ => none }
def levelsDeafRow : OpenClaim := { program := "ytfadjgaledddjaagreatdoor", sum := "6c5533e224812ecf26ac469bdb59217eb544513d57c472e194d3659092350768", func := "colophon/colophonlaw12.LevelsDeaf", spec := "levelsDeaf", unfollowed := true, recurses := true, named := ["colophon/ucd.brackets"], apart := false, laid := [("colophon/ucd.brackets", laid_colophon_ucd_brackets)] }
def LevelsDeafSaid : Prop := levelsDeafRow.holds Tryz.pinned (OpenSpec.ofChange levelsDeafSpec)

/-- ITS FALSE NEIGHBOUR: 'it returns false'. Refute it at one input. -/
def levelsDeafWrong : ChangeSpec := { name := "levelsDeaf", fn := fun _ => fun
  | [d1, d2, d3] => { results := [.lit (.bool false)], args := [d1, d2, d3] }
  | _ => none }
def LevelsDeafWrongFalsely : Prop := levelsDeafRow.holds Tryz.pinned (OpenSpec.ofChange levelsDeafWrong)

/-- 'colophonlaw12.LevelsHides': WHATEVER THE INPUT: true; the input reads as it did. -/
def levelsHidesSpec : ChangeSpec := { name := "levelsHides", fn := fun _ => fun
  | [d1, d2, d3, d4] => { results := [.lit (.bool true)], args := [d1, d2, d3, d4] }
  | _ => none }
def levelsHidesRow : OpenClaim := { program := "ytfadjgaledddjaagreatdoor", sum := "6c5533e224812ecf26ac469bdb59217eb544513d57c472e194d3659092350768", func := "colophon/colophonlaw12.LevelsHides", spec := "levelsHides", unfollowed := true, recurses := true, named := ["colophon/ucd.brackets"], apart := false, laid := [("colophon/ucd.brackets", laid_colophon_ucd_brackets)] }
def LevelsHidesSaid : Prop := levelsHidesRow.holds Tryz.pinned (OpenSpec.ofChange levelsHidesSpec)

/-- ITS FALSE NEIGHBOUR: 'it returns false'. Refute it at one input. -/
def levelsHidesWrong : ChangeSpec := { name := "levelsHides", fn := fun _ => fun
  | [d1, d2, d3, d4] => { results := [.lit (.bool false)], args := [d1, d2, d3, d4] }
  | _ => none }
def LevelsHidesWrongFalsely : Prop := levelsHidesRow.holds Tryz.pinned (OpenSpec.ofChange levelsHidesWrong)

/-- 'colophonlaw12.LevelsPlain': WHATEVER THE INPUT: true; the input reads as it did. -/
def levelsPlainSpec : ChangeSpec := { name := "levelsPlain", fn := fun _ => fun
  | [d1, d2] => { results := [.lit (.bool true)], args := [d1, d2] }
  | _ => none }
def levelsPlainRow : OpenClaim := { program := "ytfadjgaledddjaagreatdoor", sum := "6c5533e224812ecf26ac469bdb59217eb544513d57c472e194d3659092350768", func := "colophon/colophonlaw12.LevelsPlain", spec := "levelsPlain", unfollowed := true, recurses := true, named := ["colophon/ucd.brackets"], apart := false, laid := [("colophon/ucd.brackets", laid_colophon_ucd_brackets)] }
def LevelsPlainSaid : Prop := levelsPlainRow.holds Tryz.pinned (OpenSpec.ofChange levelsPlainSpec)

/-- ITS FALSE NEIGHBOUR: 'it returns false'. Refute it at one input. -/
def levelsPlainWrong : ChangeSpec := { name := "levelsPlain", fn := fun _ => fun
  | [d1, d2] => { results := [.lit (.bool false)], args := [d1, d2] }
  | _ => none }
def LevelsPlainWrongFalsely : Prop := levelsPlainRow.holds Tryz.pinned (OpenSpec.ofChange levelsPlainWrong)

/- THE SECOND FORM. 'bulk': how many values and letters a reading holds, each counted each time it is reached (what is shared counts as often as it is met; a slice's spare places count too). A statement '..UptoSaid' is the law's where the arguments, and the package variables that the reading takes, are together of bulk at most 1048576: NARROWER than '..Said'. Prove '..Said' where nothing that the law and all that it calls make is longer than what came in: it says more and counts as full. Else prove '..UptoSaid'. A law counts once. -/
mutual
def uptoBulk {H : Type} : DataW H → Nat
  | .lit (.string bytes) => bytes.length + 1
  | .lit _ => 1
  | .nil => 1
  | .ptr d => uptoBulk d + 1
  | .slice elems spare => uptoBulkAll elems + uptoBulkAll spare + 1
  | .agg parts => uptoBulkAll parts + 1
  | .iface _ d => uptoBulk d + 1
  | .map entries => uptoBulkEntries entries + 1
  | .held _ => 1
def uptoBulkAll {H : Type} : List (DataW H) → Nat
  | [] => 0
  | d :: r => uptoBulk d + uptoBulkAll r
def uptoBulkEntries {H : Type} : List (Lit × DataW H) → Nat
  | [] => 0
  | x :: r => uptoBulkEntry x + uptoBulkEntries r
def uptoBulkEntry {H : Type} : Lit × DataW H → Nat
  | (.string bytes, d) => bytes.length + uptoBulk d + 1
  | (_, d) => uptoBulk d + 1
 end
def uptoSmall : (H : Type) → List (DataW H) → Bool := fun _ ds => decide (uptoBulkAll ds ≤ 1048576)
def OpenSpec.upto (s : _root_.Go.ChangeSpec) : _root_.Go.OpenSpec := { _root_.Go.OpenSpec.ofChange s with cond := some uptoSmall }

/-- 'colophonlaw12.LevelsParagraph', WHERE WHAT IT READS IS OF BULK AT MOST 1048576: true; the input reads as it did. -/
def levelsParagraphUptoRow : OpenClaim := { program := "ytfadjgaledddjaagreatdoor", sum := "6c5533e224812ecf26ac469bdb59217eb544513d57c472e194d3659092350768", func := "colophon/colophonlaw12.LevelsParagraph", spec := "levelsParagraph", unfollowed := true, recurses := true, named := ["colophon/ucd.brackets"], apart := false, laid := [("colophon/ucd.brackets", laid_colophon_ucd_brackets)], narrowed := true }
def LevelsParagraphUptoSaid : Prop := levelsParagraphUptoRow.holds Tryz.pinned (OpenSpec.upto levelsParagraphSpec)

/-- 'colophonlaw12.LevelsClasses', WHERE WHAT IT READS IS OF BULK AT MOST 1048576: true; the input reads as it did. -/
def levelsClassesUptoRow : OpenClaim := { program := "ytfadjgaledddjaagreatdoor", sum := "6c5533e224812ecf26ac469bdb59217eb544513d57c472e194d3659092350768", func := "colophon/colophonlaw12.LevelsClasses", spec := "levelsClasses", unfollowed := true, recurses := true, named := ["colophon/ucd.brackets"], apart := false, laid := [("colophon/ucd.brackets", laid_colophon_ucd_brackets)], narrowed := true }
def LevelsClassesUptoSaid : Prop := levelsClassesUptoRow.holds Tryz.pinned (OpenSpec.upto levelsClassesSpec)

/-- 'colophonlaw12.LevelsRange', WHERE WHAT IT READS IS OF BULK AT MOST 1048576: true; the input reads as it did. -/
def levelsRangeUptoRow : OpenClaim := { program := "ytfadjgaledddjaagreatdoor", sum := "6c5533e224812ecf26ac469bdb59217eb544513d57c472e194d3659092350768", func := "colophon/colophonlaw12.LevelsRange", spec := "levelsRange", unfollowed := true, recurses := true, named := ["colophon/ucd.brackets"], apart := false, laid := [("colophon/ucd.brackets", laid_colophon_ucd_brackets)], narrowed := true }
def LevelsRangeUptoSaid : Prop := levelsRangeUptoRow.holds Tryz.pinned (OpenSpec.upto levelsRangeSpec)

/-- 'colophonlaw12.LevelsDeaf', WHERE WHAT IT READS IS OF BULK AT MOST 1048576: true; the input reads as it did. -/
def levelsDeafUptoRow : OpenClaim := { program := "ytfadjgaledddjaagreatdoor", sum := "6c5533e224812ecf26ac469bdb59217eb544513d57c472e194d3659092350768", func := "colophon/colophonlaw12.LevelsDeaf", spec := "levelsDeaf", unfollowed := true, recurses := true, named := ["colophon/ucd.brackets"], apart := false, laid := [("colophon/ucd.brackets", laid_colophon_ucd_brackets)], narrowed := true }
def LevelsDeafUptoSaid : Prop := levelsDeafUptoRow.holds Tryz.pinned (OpenSpec.upto levelsDeafSpec)

/-- 'colophonlaw12.LevelsHides', WHERE WHAT IT READS IS OF BULK AT MOST 1048576: true; the input reads as it did. -/
def levelsHidesUptoRow : OpenClaim := { program := "ytfadjgaledddjaagreatdoor", sum := "6c5533e224812ecf26ac469bdb59217eb544513d57c472e194d3659092350768", func := "colophon/colophonlaw12.LevelsHides", spec := "levelsHides", unfollowed := true, recurses := true, named := ["colophon/ucd.brackets"], apart := false, laid := [("colophon/ucd.brackets", laid_colophon_ucd_brackets)], narrowed := true }
def LevelsHidesUptoSaid : Prop := levelsHidesUptoRow.holds Tryz.pinned (OpenSpec.upto levelsHidesSpec)

/-- 'colophonlaw12.LevelsPlain', WHERE WHAT IT READS IS OF BULK AT MOST 1048576: true; the input reads as it did. -/
def levelsPlainUptoRow : OpenClaim := { program := "ytfadjgaledddjaagreatdoor", sum := "6c5533e224812ecf26ac469bdb59217eb544513d57c472e194d3659092350768", func := "colophon/colophonlaw12.LevelsPlain", spec := "levelsPlain", unfollowed := true, recurses := true, named := ["colophon/ucd.brackets"], apart := false, laid := [("colophon/ucd.brackets", laid_colophon_ucd_brackets)], narrowed := true }
def LevelsPlainUptoSaid : Prop := levelsPlainUptoRow.holds Tryz.pinned (OpenSpec.upto levelsPlainSpec)

end Rows
end Go.Proofs.YtfadjgaledddjaaGreatDoor
