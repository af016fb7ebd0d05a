/-
  NARROWER THAN 'FOR EVERY INPUT', by the rows' own cells (each row's printed sentence says how): TopPicks: laid.
  DERIVED. THE GIVEN ROWS OF THIS SEAT. 1 by the template 'for every input the law returns true; each argument reads behind the call as it read before'; 0 by the template 'total and deterministic' (their statements: YtmdmehopefgndaaGreatDoorTotals.lean).
  GIVEN WITH THE SEED: the statements are not yours to turn. If you find one false, say at which input.
  Laid BY PROGRAM, IN A SANDBOX (cutbox-rows.mjs): the forced cells as the released guide's own fill.sh prints them over the translation a7e2208f5b5ea804… (all of the seat's roots in one cut). By AI agents, Wed Nov 11 2026. No macro, syntax, notation, axiom, sorry.
-/
import Derived.Test.YtmdmehopefgndaaGreatDoorChecked
import GoSem.Claim
import GoSem.ClaimJoined
import GoSem.ClaimMapViews
import Derived.JoinedTies
import Derived.KernelRfl
namespace Go.Proofs.YtmdmehopefgndaaGreatDoor
/- THE CELL 'sum', in the pinned program and in every row, IS THE sha256 OF THE DUMP (.gsa) THAT YtmdmehopefgndaaGreatDoorProg.lean LOADS. Nothing in Lean hashes anything: it is a label: what it is worth is what the hold of that sum in a sandbox is worth. -/
noncomputable def Tryz.pinned : Pinned := { name := "ytmdmehopefgndaagreatdoor", sum := "a7e2208f5b5ea804dedc9c43389cb0844b9e50f317199b767623886c0128e4af", checked := Tryz.checked }
namespace Rows
def none {H : Type} : Left H := { results := [], args := [] }

/- WHAT THE LISTED PACKAGE-LEVEL VARIABLES READ AS WHEN THE CALL BEGINS. Each datum BY PROGRAM (the guide's laid-datum.mjs) off the statement by which the dump's own 'gosem.cut.vars' lays the variable. In a bare row this is a premise. The card (YtmdmehopefgndaaGreatDoorCards.lean) ties it to the program's text. -/
def laid_colophon_ucd_brackets {H : Type} : DataW H := .agg [.agg [.lit (.int .i32 40), .lit (.int .i32 41)], .agg [.lit (.int .i32 91), .lit (.int .i32 93)], .agg [.lit (.int .i32 123), .lit (.int .i32 125)], .agg [.lit (.int .i32 8261), .lit (.int .i32 8262)], .agg [.lit (.int .i32 8317), .lit (.int .i32 8318)], .agg [.lit (.int .i32 8333), .lit (.int .i32 8334)], .agg [.lit (.int .i32 9001), .lit (.int .i32 9002)], .agg [.lit (.int .i32 10214), .lit (.int .i32 10215)], .agg [.lit (.int .i32 10216), .lit (.int .i32 10217)], .agg [.lit (.int .i32 10218), .lit (.int .i32 10219)], .agg [.lit (.int .i32 10220), .lit (.int .i32 10221)], .agg [.lit (.int .i32 10222), .lit (.int .i32 10223)], .agg [.lit (.int .i32 12296), .lit (.int .i32 12297)], .agg [.lit (.int .i32 12298), .lit (.int .i32 12299)], .agg [.lit (.int .i32 12300), .lit (.int .i32 12301)], .agg [.lit (.int .i32 12302), .lit (.int .i32 12303)], .agg [.lit (.int .i32 12304), .lit (.int .i32 12305)], .agg [.lit (.int .i32 12308), .lit (.int .i32 12309)], .agg [.lit (.int .i32 12310), .lit (.int .i32 12311)], .agg [.lit (.int .i32 12312), .lit (.int .i32 12313)], .agg [.lit (.int .i32 12314), .lit (.int .i32 12315)]]
def laid_colophon_ucd_mirrored {H : Type} : DataW H := .agg [.agg [.lit (.int .i32 60), .lit (.int .i32 62)], .agg [.lit (.int .i32 171), .lit (.int .i32 187)], .agg [.lit (.int .i32 8249), .lit (.int .i32 8250)], .agg [.lit (.int .i32 8712), .lit (.int .i32 8715)], .agg [.lit (.int .i32 8804), .lit (.int .i32 8805)], .agg [.lit (.int .i32 8806), .lit (.int .i32 8807)], .agg [.lit (.int .i32 8810), .lit (.int .i32 8811)], .agg [.lit (.int .i32 8822), .lit (.int .i32 8823)], .agg [.lit (.int .i32 8834), .lit (.int .i32 8835)], .agg [.lit (.int .i32 8838), .lit (.int .i32 8839)]]

/-- 'colophontop.TopPicks': WHATEVER THE INPUT: true; the input reads as it did. -/
def topPicksSpec : ChangeSpec := { name := "topPicks", fn := fun _ => fun
  | [d1, d2, d3] => { results := [.lit (.bool true)], args := [d1, d2, d3] }
  | _ => none }
def topPicksRow : OpenClaim := { program := "ytmdmehopefgndaagreatdoor", sum := "a7e2208f5b5ea804dedc9c43389cb0844b9e50f317199b767623886c0128e4af", func := "colophon/colophontop.TopPicks", spec := "topPicks", unfollowed := true, recurses := true, named := ["colophon/ucd.brackets", "colophon/ucd.mirrored"], apart := false, laid := [("colophon/ucd.brackets", laid_colophon_ucd_brackets), ("colophon/ucd.mirrored", laid_colophon_ucd_mirrored)] }
def TopPicksSaid : Prop := topPicksRow.holds Tryz.pinned (OpenSpec.ofChange topPicksSpec)

/-- ITS FALSE NEIGHBOUR: 'it returns false'. Refute it at one input. -/
def topPicksWrong : ChangeSpec := { name := "topPicks", fn := fun _ => fun
  | [d1, d2, d3] => { results := [.lit (.bool false)], args := [d1, d2, d3] }
  | _ => none }
def TopPicksWrongFalsely : Prop := topPicksRow.holds Tryz.pinned (OpenSpec.ofChange topPicksWrong)

/- THE SECOND FORM. 'bulk': how many values and letters a reading holds, each counted each time it is reached (what is shared counts as often as it is met; a slice's spare places count too). A statement '..UptoSaid' is the law's where the arguments, and the package variables that the reading takes, are together of bulk at most 1048576: NARROWER than '..Said'. Prove '..Said' where nothing that the law and all that it calls make is longer than what came in: it says more and counts as full. Else prove '..UptoSaid'. A law counts once. -/
mutual
def uptoBulk {H : Type} : DataW H → Nat
  | .lit (.string bytes) => bytes.length + 1
  | .lit _ => 1
  | .nil => 1
  | .ptr d => uptoBulk d + 1
  | .slice elems spare => uptoBulkAll elems + uptoBulkAll spare + 1
  | .agg parts => uptoBulkAll parts + 1
  | .iface _ d => uptoBulk d + 1
  | .map entries => uptoBulkEntries entries + 1
  | .held _ => 1
def uptoBulkAll {H : Type} : List (DataW H) → Nat
  | [] => 0
  | d :: r => uptoBulk d + uptoBulkAll r
def uptoBulkEntries {H : Type} : List (Lit × DataW H) → Nat
  | [] => 0
  | x :: r => uptoBulkEntry x + uptoBulkEntries r
def uptoBulkEntry {H : Type} : Lit × DataW H → Nat
  | (.string bytes, d) => bytes.length + uptoBulk d + 1
  | (_, d) => uptoBulk d + 1
 end
def uptoSmall : (H : Type) → List (DataW H) → Bool := fun _ ds => decide (uptoBulkAll ds ≤ 1048576)
def OpenSpec.upto (s : _root_.Go.ChangeSpec) : _root_.Go.OpenSpec := { _root_.Go.OpenSpec.ofChange s with cond := some uptoSmall }

/-- 'colophontop.TopPicks', WHERE WHAT IT READS IS OF BULK AT MOST 1048576: true; the input reads as it did. -/
def topPicksUptoRow : OpenClaim := { program := "ytmdmehopefgndaagreatdoor", sum := "a7e2208f5b5ea804dedc9c43389cb0844b9e50f317199b767623886c0128e4af", func := "colophon/colophontop.TopPicks", spec := "topPicks", unfollowed := true, recurses := true, named := ["colophon/ucd.brackets", "colophon/ucd.mirrored"], apart := false, laid := [("colophon/ucd.brackets", laid_colophon_ucd_brackets), ("colophon/ucd.mirrored", laid_colophon_ucd_mirrored)], narrowed := true }
def TopPicksUptoSaid : Prop := topPicksUptoRow.holds Tryz.pinned (OpenSpec.upto topPicksSpec)

end Rows
end Go.Proofs.YtmdmehopefgndaaGreatDoor
