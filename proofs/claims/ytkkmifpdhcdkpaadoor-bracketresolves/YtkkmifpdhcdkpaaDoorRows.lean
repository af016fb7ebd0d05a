/-
  NARROWER THAN 'FOR EVERY INPUT', by the rows' own cells (each row's printed sentence says how): BracketPairs: laid · BracketResolves: laid · BracketNest: laid · BracketKeeps: laid · BracketDeep: laid · BracketInside: laid.
  DERIVED. THE GIVEN ROWS OF THIS SEAT. 6 by the template 'for every input the law returns true; each argument reads behind the call as it read before'; 0 by the template 'total and deterministic' (their statements: YtkkmifpdhcdkpaaDoorTotals.lean).
  GIVEN WITH THE SEED: the statements are not yours to turn. If you find one false, say at which input.
  Laid BY PROGRAM, IN A SANDBOX (cutbox-rows.mjs): the forced cells as the released guide's own fill.sh prints them over the translation 1c8fc0e21711dcab… (all of the seat's roots in one cut). By AI agents, Wed Nov 11 2026. No macro, syntax, notation, axiom, sorry.
-/
import Derived.Test.YtkkmifpdhcdkpaaDoorChecked
import GoSem.Claim
import GoSem.ClaimJoined
import GoSem.ClaimMapViews
import Derived.JoinedTies
import Derived.KernelRfl
namespace Go.Proofs.YtkkmifpdhcdkpaaDoor
/- THE CELL 'sum', in the pinned program and in every row, IS THE sha256 OF THE DUMP (.gsa) THAT YtkkmifpdhcdkpaaDoorProg.lean LOADS. Nothing in Lean hashes anything: it is a label: what it is worth is what the hold of that sum in a sandbox is worth. -/
noncomputable def Tryd.pinned : Pinned := { name := "ytkkmifpdhcdkpaadoor", sum := "1c8fc0e21711dcabb8930feaab0911faa6a5b3ec684979b57ec15c7bb658c0f3", checked := Tryd.checked }
namespace Rows
def none {H : Type} : Left H := { results := [], args := [] }

/- WHAT THE LISTED PACKAGE-LEVEL VARIABLES READ AS WHEN THE CALL BEGINS. Each datum BY PROGRAM (the guide's laid-datum.mjs) off the statement by which the dump's own 'gosem.cut.vars' lays the variable. In a bare row this is a premise. The card (YtkkmifpdhcdkpaaDoorCards.lean) ties it to the program's text. -/
def laid_colophon_ucd_brackets {H : Type} : DataW H := .agg [.agg [.lit (.int .i32 40), .lit (.int .i32 41)], .agg [.lit (.int .i32 91), .lit (.int .i32 93)], .agg [.lit (.int .i32 123), .lit (.int .i32 125)], .agg [.lit (.int .i32 8261), .lit (.int .i32 8262)], .agg [.lit (.int .i32 8317), .lit (.int .i32 8318)], .agg [.lit (.int .i32 8333), .lit (.int .i32 8334)], .agg [.lit (.int .i32 9001), .lit (.int .i32 9002)], .agg [.lit (.int .i32 10214), .lit (.int .i32 10215)], .agg [.lit (.int .i32 10216), .lit (.int .i32 10217)], .agg [.lit (.int .i32 10218), .lit (.int .i32 10219)], .agg [.lit (.int .i32 10220), .lit (.int .i32 10221)], .agg [.lit (.int .i32 10222), .lit (.int .i32 10223)], .agg [.lit (.int .i32 12296), .lit (.int .i32 12297)], .agg [.lit (.int .i32 12298), .lit (.int .i32 12299)], .agg [.lit (.int .i32 12300), .lit (.int .i32 12301)], .agg [.lit (.int .i32 12302), .lit (.int .i32 12303)], .agg [.lit (.int .i32 12304), .lit (.int .i32 12305)], .agg [.lit (.int .i32 12308), .lit (.int .i32 12309)], .agg [.lit (.int .i32 12310), .lit (.int .i32 12311)], .agg [.lit (.int .i32 12312), .lit (.int .i32 12313)], .agg [.lit (.int .i32 12314), .lit (.int .i32 12315)]]

/-- 'colophonlaw10.BracketPairs': WHATEVER THE INPUT: true; the input reads as it did. -/
def bracketPairsSpec : ChangeSpec := { name := "bracketPairs", fn := fun _ => fun
  | [d1, d2] => { results := [.lit (.bool true)], args := [d1, d2] }
  | _ => none }
def bracketPairsRow : OpenClaim := { program := "ytkkmifpdhcdkpaadoor", sum := "1c8fc0e21711dcabb8930feaab0911faa6a5b3ec684979b57ec15c7bb658c0f3", func := "colophon/colophonlaw10.BracketPairs", spec := "bracketPairs", unfollowed := true, recurses := true, named := ["colophon/ucd.brackets"], apart := false, laid := [("colophon/ucd.brackets", laid_colophon_ucd_brackets)] }
def BracketPairsSaid : Prop := bracketPairsRow.holds Tryd.pinned (OpenSpec.ofChange bracketPairsSpec)

/-- ITS FALSE NEIGHBOUR: 'it returns false'. Refute it at one input. -/
def bracketPairsWrong : ChangeSpec := { name := "bracketPairs", fn := fun _ => fun
  | [d1, d2] => { results := [.lit (.bool false)], args := [d1, d2] }
  | _ => none }
def BracketPairsWrongFalsely : Prop := bracketPairsRow.holds Tryd.pinned (OpenSpec.ofChange bracketPairsWrong)

/-- 'colophonlaw10.BracketResolves': WHATEVER THE INPUT: true; the input reads as it did. -/
def bracketResolvesSpec : ChangeSpec := { name := "bracketResolves", fn := fun _ => fun
  | [d1, d2, d3] => { results := [.lit (.bool true)], args := [d1, d2, d3] }
  | _ => none }
def bracketResolvesRow : OpenClaim := { program := "ytkkmifpdhcdkpaadoor", sum := "1c8fc0e21711dcabb8930feaab0911faa6a5b3ec684979b57ec15c7bb658c0f3", func := "colophon/colophonlaw10.BracketResolves", spec := "bracketResolves", unfollowed := true, recurses := true, named := ["colophon/ucd.brackets"], apart := false, laid := [("colophon/ucd.brackets", laid_colophon_ucd_brackets)] }
def BracketResolvesSaid : Prop := bracketResolvesRow.holds Tryd.pinned (OpenSpec.ofChange bracketResolvesSpec)

/-- ITS FALSE NEIGHBOUR: 'it returns false'. Refute it at one input. -/
def bracketResolvesWrong : ChangeSpec := { name := "bracketResolves", fn := fun _ => fun
  | [d1, d2, d3] => { results := [.lit (.bool false)], args := [d1, d2, d3] }
  | _ => none }
def BracketResolvesWrongFalsely : Prop := bracketResolvesRow.holds Tryd.pinned (OpenSpec.ofChange bracketResolvesWrong)

/-- 'colophonlaw10.BracketNest': WHATEVER THE INPUT: true; the input reads as it did. -/
def bracketNestSpec : ChangeSpec := { name := "bracketNest", fn := fun _ => fun
  | [d1, d2] => { results := [.lit (.bool true)], args := [d1, d2] }
  | _ => none }
def bracketNestRow : OpenClaim := { program := "ytkkmifpdhcdkpaadoor", sum := "1c8fc0e21711dcabb8930feaab0911faa6a5b3ec684979b57ec15c7bb658c0f3", func := "colophon/colophonlaw10.BracketNest", spec := "bracketNest", unfollowed := true, recurses := true, named := ["colophon/ucd.brackets"], apart := false, laid := [("colophon/ucd.brackets", laid_colophon_ucd_brackets)] }
def BracketNestSaid : Prop := bracketNestRow.holds Tryd.pinned (OpenSpec.ofChange bracketNestSpec)

/-- ITS FALSE NEIGHBOUR: 'it returns false'. Refute it at one input. -/
def bracketNestWrong : ChangeSpec := { name := "bracketNest", fn := fun _ => fun
  | [d1, d2] => { results := [.lit (.bool false)], args := [d1, d2] }
  | _ => none }
def BracketNestWrongFalsely : Prop := bracketNestRow.holds Tryd.pinned (OpenSpec.ofChange bracketNestWrong)

/-- 'colophonlaw10.BracketKeeps': WHATEVER THE INPUT: true; the input reads as it did. -/
def bracketKeepsSpec : ChangeSpec := { name := "bracketKeeps", fn := fun _ => fun
  | [d1, d2, d3] => { results := [.lit (.bool true)], args := [d1, d2, d3] }
  | _ => none }
def bracketKeepsRow : OpenClaim := { program := "ytkkmifpdhcdkpaadoor", sum := "1c8fc0e21711dcabb8930feaab0911faa6a5b3ec684979b57ec15c7bb658c0f3", func := "colophon/colophonlaw10.BracketKeeps", spec := "bracketKeeps", unfollowed := true, recurses := true, named := ["colophon/ucd.brackets"], apart := false, laid := [("colophon/ucd.brackets", laid_colophon_ucd_brackets)] }
def BracketKeepsSaid : Prop := bracketKeepsRow.holds Tryd.pinned (OpenSpec.ofChange bracketKeepsSpec)

/-- ITS FALSE NEIGHBOUR: 'it returns false'. Refute it at one input. -/
def bracketKeepsWrong : ChangeSpec := { name := "bracketKeeps", fn := fun _ => fun
  | [d1, d2, d3] => { results := [.lit (.bool false)], args := [d1, d2, d3] }
  | _ => none }
def BracketKeepsWrongFalsely : Prop := bracketKeepsRow.holds Tryd.pinned (OpenSpec.ofChange bracketKeepsWrong)

/-- 'colophonlaw10.BracketDeep': WHATEVER THE INPUT: true; the input reads as it did. -/
def bracketDeepSpec : ChangeSpec := { name := "bracketDeep", fn := fun _ => fun
  | [d1, d2] => { results := [.lit (.bool true)], args := [d1, d2] }
  | _ => none }
def bracketDeepRow : OpenClaim := { program := "ytkkmifpdhcdkpaadoor", sum := "1c8fc0e21711dcabb8930feaab0911faa6a5b3ec684979b57ec15c7bb658c0f3", func := "colophon/colophonlaw10.BracketDeep", spec := "bracketDeep", unfollowed := true, recurses := true, named := ["colophon/ucd.brackets"], apart := false, laid := [("colophon/ucd.brackets", laid_colophon_ucd_brackets)] }
def BracketDeepSaid : Prop := bracketDeepRow.holds Tryd.pinned (OpenSpec.ofChange bracketDeepSpec)

/-- ITS FALSE NEIGHBOUR: 'it returns false'. Refute it at one input. -/
def bracketDeepWrong : ChangeSpec := { name := "bracketDeep", fn := fun _ => fun
  | [d1, d2] => { results := [.lit (.bool false)], args := [d1, d2] }
  | _ => none }
def BracketDeepWrongFalsely : Prop := bracketDeepRow.holds Tryd.pinned (OpenSpec.ofChange bracketDeepWrong)

/-- 'colophonlaw10.BracketInside': WHATEVER THE INPUT: true; the input reads as it did. -/
def bracketInsideSpec : ChangeSpec := { name := "bracketInside", fn := fun _ => fun
  | [d1, d2, d3] => { results := [.lit (.bool true)], args := [d1, d2, d3] }
  | _ => none }
def bracketInsideRow : OpenClaim := { program := "ytkkmifpdhcdkpaadoor", sum := "1c8fc0e21711dcabb8930feaab0911faa6a5b3ec684979b57ec15c7bb658c0f3", func := "colophon/colophonlaw10.BracketInside", spec := "bracketInside", unfollowed := true, recurses := true, named := ["colophon/ucd.brackets"], apart := false, laid := [("colophon/ucd.brackets", laid_colophon_ucd_brackets)] }
def BracketInsideSaid : Prop := bracketInsideRow.holds Tryd.pinned (OpenSpec.ofChange bracketInsideSpec)

/-- ITS FALSE NEIGHBOUR: 'it returns false'. Refute it at one input. -/
def bracketInsideWrong : ChangeSpec := { name := "bracketInside", fn := fun _ => fun
  | [d1, d2, d3] => { results := [.lit (.bool false)], args := [d1, d2, d3] }
  | _ => none }
def BracketInsideWrongFalsely : Prop := bracketInsideRow.holds Tryd.pinned (OpenSpec.ofChange bracketInsideWrong)

/- THE SECOND FORM. 'bulk': how many values and letters a reading holds, each counted each time it is reached (what is shared counts as often as it is met; a slice's spare places count too). A statement '..UptoSaid' is the law's where the arguments, and the package variables that the reading takes, are together of bulk at most 1048576: NARROWER than '..Said'. Prove '..Said' where nothing that the law and all that it calls make is longer than what came in: it says more and counts as full. Else prove '..UptoSaid'. A law counts once. -/
mutual
def uptoBulk {H : Type} : DataW H → Nat
  | .lit (.string bytes) => bytes.length + 1
  | .lit _ => 1
  | .nil => 1
  | .ptr d => uptoBulk d + 1
  | .slice elems spare => uptoBulkAll elems + uptoBulkAll spare + 1
  | .agg parts => uptoBulkAll parts + 1
  | .iface _ d => uptoBulk d + 1
  | .map entries => uptoBulkEntries entries + 1
  | .held _ => 1
def uptoBulkAll {H : Type} : List (DataW H) → Nat
  | [] => 0
  | d :: r => uptoBulk d + uptoBulkAll r
def uptoBulkEntries {H : Type} : List (Lit × DataW H) → Nat
  | [] => 0
  | x :: r => uptoBulkEntry x + uptoBulkEntries r
def uptoBulkEntry {H : Type} : Lit × DataW H → Nat
  | (.string bytes, d) => bytes.length + uptoBulk d + 1
  | (_, d) => uptoBulk d + 1
 end
def uptoSmall : (H : Type) → List (DataW H) → Bool := fun _ ds => decide (uptoBulkAll ds ≤ 1048576)
def OpenSpec.upto (s : _root_.Go.ChangeSpec) : _root_.Go.OpenSpec := { _root_.Go.OpenSpec.ofChange s with cond := some uptoSmall }

/-- 'colophonlaw10.BracketPairs', WHERE WHAT IT READS IS OF BULK AT MOST 1048576: true; the input reads as it did. -/
def bracketPairsUptoRow : OpenClaim := { program := "ytkkmifpdhcdkpaadoor", sum := "1c8fc0e21711dcabb8930feaab0911faa6a5b3ec684979b57ec15c7bb658c0f3", func := "colophon/colophonlaw10.BracketPairs", spec := "bracketPairs", unfollowed := true, recurses := true, named := ["colophon/ucd.brackets"], apart := false, laid := [("colophon/ucd.brackets", laid_colophon_ucd_brackets)], narrowed := true }
def BracketPairsUptoSaid : Prop := bracketPairsUptoRow.holds Tryd.pinned (OpenSpec.upto bracketPairsSpec)

/-- 'colophonlaw10.BracketResolves', WHERE WHAT IT READS IS OF BULK AT MOST 1048576: true; the input reads as it did. -/
def bracketResolvesUptoRow : OpenClaim := { program := "ytkkmifpdhcdkpaadoor", sum := "1c8fc0e21711dcabb8930feaab0911faa6a5b3ec684979b57ec15c7bb658c0f3", func := "colophon/colophonlaw10.BracketResolves", spec := "bracketResolves", unfollowed := true, recurses := true, named := ["colophon/ucd.brackets"], apart := false, laid := [("colophon/ucd.brackets", laid_colophon_ucd_brackets)], narrowed := true }
def BracketResolvesUptoSaid : Prop := bracketResolvesUptoRow.holds Tryd.pinned (OpenSpec.upto bracketResolvesSpec)

/-- 'colophonlaw10.BracketNest', WHERE WHAT IT READS IS OF BULK AT MOST 1048576: true; the input reads as it did. -/
def bracketNestUptoRow : OpenClaim := { program := "ytkkmifpdhcdkpaadoor", sum := "1c8fc0e21711dcabb8930feaab0911faa6a5b3ec684979b57ec15c7bb658c0f3", func := "colophon/colophonlaw10.BracketNest", spec := "bracketNest", unfollowed := true, recurses := true, named := ["colophon/ucd.brackets"], apart := false, laid := [("colophon/ucd.brackets", laid_colophon_ucd_brackets)], narrowed := true }
def BracketNestUptoSaid : Prop := bracketNestUptoRow.holds Tryd.pinned (OpenSpec.upto bracketNestSpec)

/-- 'colophonlaw10.BracketKeeps', WHERE WHAT IT READS IS OF BULK AT MOST 1048576: true; the input reads as it did. -/
def bracketKeepsUptoRow : OpenClaim := { program := "ytkkmifpdhcdkpaadoor", sum := "1c8fc0e21711dcabb8930feaab0911faa6a5b3ec684979b57ec15c7bb658c0f3", func := "colophon/colophonlaw10.BracketKeeps", spec := "bracketKeeps", unfollowed := true, recurses := true, named := ["colophon/ucd.brackets"], apart := false, laid := [("colophon/ucd.brackets", laid_colophon_ucd_brackets)], narrowed := true }
def BracketKeepsUptoSaid : Prop := bracketKeepsUptoRow.holds Tryd.pinned (OpenSpec.upto bracketKeepsSpec)

/-- 'colophonlaw10.BracketDeep', WHERE WHAT IT READS IS OF BULK AT MOST 1048576: true; the input reads as it did. -/
def bracketDeepUptoRow : OpenClaim := { program := "ytkkmifpdhcdkpaadoor", sum := "1c8fc0e21711dcabb8930feaab0911faa6a5b3ec684979b57ec15c7bb658c0f3", func := "colophon/colophonlaw10.BracketDeep", spec := "bracketDeep", unfollowed := true, recurses := true, named := ["colophon/ucd.brackets"], apart := false, laid := [("colophon/ucd.brackets", laid_colophon_ucd_brackets)], narrowed := true }
def BracketDeepUptoSaid : Prop := bracketDeepUptoRow.holds Tryd.pinned (OpenSpec.upto bracketDeepSpec)

/-- 'colophonlaw10.BracketInside', WHERE WHAT IT READS IS OF BULK AT MOST 1048576: true; the input reads as it did. -/
def bracketInsideUptoRow : OpenClaim := { program := "ytkkmifpdhcdkpaadoor", sum := "1c8fc0e21711dcabb8930feaab0911faa6a5b3ec684979b57ec15c7bb658c0f3", func := "colophon/colophonlaw10.BracketInside", spec := "bracketInside", unfollowed := true, recurses := true, named := ["colophon/ucd.brackets"], apart := false, laid := [("colophon/ucd.brackets", laid_colophon_ucd_brackets)], narrowed := true }
def BracketInsideUptoSaid : Prop := bracketInsideUptoRow.holds Tryd.pinned (OpenSpec.upto bracketInsideSpec)

end Rows
end Go.Proofs.YtkkmifpdhcdkpaaDoor
