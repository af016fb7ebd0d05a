/-
  No cell of these rows narrows 'for every input' (looked for: loops, veiled, ifaces, maps, wideKeys, modest, calm, conditions, laid).
  DERIVED. THE GIVEN ROWS OF THIS SEAT. 6 by the template 'for every input the law returns true; each argument reads behind the call as it read before'; 0 by the template 'total and deterministic' (their statements: YtbbhefiibcbbfaaTotals.lean).
  GIVEN WITH THE SEED: the statements are not yours to turn. If you find one false, say at which input.
  Laid BY PROGRAM, IN A SANDBOX (cutbox-rows.mjs): the forced cells as the released guide's own fill.sh prints them over the translation 6693ca6b8ca0d4ec… (all of the seat's roots in one cut). By AI agents, Wed Nov 11 2026. No macro, syntax, notation, axiom, sorry.
-/
import Derived.Test.YtbbhefiibcbbfaaChecked
import GoSem.Claim
import GoSem.ClaimJoined
import GoSem.ClaimMapViews
import Derived.JoinedTies
import Derived.KernelRfl
namespace Go.Proofs.Ytbbhefiibcbbfaa
/- THE CELL 'sum', in the pinned program and in every row, IS THE sha256 OF THE DUMP (.gsa) THAT YtbbhefiibcbbfaaProg.lean LOADS. Nothing in Lean hashes anything: it is a label: what it is worth is what the hold of that sum in a sandbox is worth. -/
noncomputable def Try.pinned : Pinned := { name := "ytbbhefiibcbbfaa", sum := "6693ca6b8ca0d4ecc8e5916eb9fef0b9aabdcea068aadccef1f84ba0df745a21", checked := Try.checked }
namespace Rows
def none {H : Type} : Left H := { results := [], args := [] }

/-- 'colophonlaw15.SpotPlaces': WHATEVER THE INPUT: true; the input reads as it did. -/
def spotPlacesSpec : ChangeSpec := { name := "spotPlaces", fn := fun _ => fun
  | [d1, d2] => { results := [.lit (.bool true)], args := [d1, d2] }
  | _ => none }
def spotPlacesRow : OpenClaim := { program := "ytbbhefiibcbbfaa", sum := "6693ca6b8ca0d4ecc8e5916eb9fef0b9aabdcea068aadccef1f84ba0df745a21", func := "colophon/colophonlaw15.SpotPlaces", spec := "spotPlaces", unfollowed := true, recurses := true, apart := false }
def SpotPlacesSaid : Prop := spotPlacesRow.holds Try.pinned (OpenSpec.ofChange spotPlacesSpec)

/-- ITS FALSE NEIGHBOUR: 'it returns false'. Refute it at one input. -/
def spotPlacesWrong : ChangeSpec := { name := "spotPlaces", fn := fun _ => fun
  | [d1, d2] => { results := [.lit (.bool false)], args := [d1, d2] }
  | _ => none }
def SpotPlacesWrongFalsely : Prop := spotPlacesRow.holds Try.pinned (OpenSpec.ofChange spotPlacesWrong)

/-- 'colophonlaw15.SpotSteps': WHATEVER THE INPUT: true; the input reads as it did. -/
def spotStepsSpec : ChangeSpec := { name := "spotSteps", fn := fun _ => fun
  | [d1, d2, d3, d4] => { results := [.lit (.bool true)], args := [d1, d2, d3, d4] }
  | _ => none }
def spotStepsRow : OpenClaim := { program := "ytbbhefiibcbbfaa", sum := "6693ca6b8ca0d4ecc8e5916eb9fef0b9aabdcea068aadccef1f84ba0df745a21", func := "colophon/colophonlaw15.SpotSteps", spec := "spotSteps", unfollowed := true, recurses := true, apart := false }
def SpotStepsSaid : Prop := spotStepsRow.holds Try.pinned (OpenSpec.ofChange spotStepsSpec)

/-- ITS FALSE NEIGHBOUR: 'it returns false'. Refute it at one input. -/
def spotStepsWrong : ChangeSpec := { name := "spotSteps", fn := fun _ => fun
  | [d1, d2, d3, d4] => { results := [.lit (.bool false)], args := [d1, d2, d3, d4] }
  | _ => none }
def SpotStepsWrongFalsely : Prop := spotStepsRow.holds Try.pinned (OpenSpec.ofChange spotStepsWrong)

/-- 'colophonlaw15.SpotBack': WHATEVER THE INPUT: true; the input reads as it did. -/
def spotBackSpec : ChangeSpec := { name := "spotBack", fn := fun _ => fun
  | [d1, d2, d3, d4] => { results := [.lit (.bool true)], args := [d1, d2, d3, d4] }
  | _ => none }
def spotBackRow : OpenClaim := { program := "ytbbhefiibcbbfaa", sum := "6693ca6b8ca0d4ecc8e5916eb9fef0b9aabdcea068aadccef1f84ba0df745a21", func := "colophon/colophonlaw15.SpotBack", spec := "spotBack", unfollowed := true, recurses := true, apart := false }
def SpotBackSaid : Prop := spotBackRow.holds Try.pinned (OpenSpec.ofChange spotBackSpec)

/-- ITS FALSE NEIGHBOUR: 'it returns false'. Refute it at one input. -/
def spotBackWrong : ChangeSpec := { name := "spotBack", fn := fun _ => fun
  | [d1, d2, d3, d4] => { results := [.lit (.bool false)], args := [d1, d2, d3, d4] }
  | _ => none }
def SpotBackWrongFalsely : Prop := spotBackRow.holds Try.pinned (OpenSpec.ofChange spotBackWrong)

/-- 'colophonlaw15.SpotColumns': WHATEVER THE INPUT: true; the input reads as it did. -/
def spotColumnsSpec : ChangeSpec := { name := "spotColumns", fn := fun _ => fun
  | [d1, d2] => { results := [.lit (.bool true)], args := [d1, d2] }
  | _ => none }
def spotColumnsRow : OpenClaim := { program := "ytbbhefiibcbbfaa", sum := "6693ca6b8ca0d4ecc8e5916eb9fef0b9aabdcea068aadccef1f84ba0df745a21", func := "colophon/colophonlaw15.SpotColumns", spec := "spotColumns", unfollowed := true, recurses := true, apart := false }
def SpotColumnsSaid : Prop := spotColumnsRow.holds Try.pinned (OpenSpec.ofChange spotColumnsSpec)

/-- ITS FALSE NEIGHBOUR: 'it returns false'. Refute it at one input. -/
def spotColumnsWrong : ChangeSpec := { name := "spotColumns", fn := fun _ => fun
  | [d1, d2] => { results := [.lit (.bool false)], args := [d1, d2] }
  | _ => none }
def SpotColumnsWrongFalsely : Prop := spotColumnsRow.holds Try.pinned (OpenSpec.ofChange spotColumnsWrong)

/-- 'colophonlaw15.SpotFlips': WHATEVER THE INPUT: true; the input reads as it did. -/
def spotFlipsSpec : ChangeSpec := { name := "spotFlips", fn := fun _ => fun
  | [d1, d2, d3, d4] => { results := [.lit (.bool true)], args := [d1, d2, d3, d4] }
  | _ => none }
def spotFlipsRow : OpenClaim := { program := "ytbbhefiibcbbfaa", sum := "6693ca6b8ca0d4ecc8e5916eb9fef0b9aabdcea068aadccef1f84ba0df745a21", func := "colophon/colophonlaw15.SpotFlips", spec := "spotFlips", unfollowed := true, recurses := true, apart := false }
def SpotFlipsSaid : Prop := spotFlipsRow.holds Try.pinned (OpenSpec.ofChange spotFlipsSpec)

/-- ITS FALSE NEIGHBOUR: 'it returns false'. Refute it at one input. -/
def spotFlipsWrong : ChangeSpec := { name := "spotFlips", fn := fun _ => fun
  | [d1, d2, d3, d4] => { results := [.lit (.bool false)], args := [d1, d2, d3, d4] }
  | _ => none }
def SpotFlipsWrongFalsely : Prop := spotFlipsRow.holds Try.pinned (OpenSpec.ofChange spotFlipsWrong)

/-- 'colophonlaw15.SpotLeans': WHATEVER THE INPUT: true; the input reads as it did. -/
def spotLeansSpec : ChangeSpec := { name := "spotLeans", fn := fun _ => fun
  | [d1, d2] => { results := [.lit (.bool true)], args := [d1, d2] }
  | _ => none }
def spotLeansRow : OpenClaim := { program := "ytbbhefiibcbbfaa", sum := "6693ca6b8ca0d4ecc8e5916eb9fef0b9aabdcea068aadccef1f84ba0df745a21", func := "colophon/colophonlaw15.SpotLeans", spec := "spotLeans", unfollowed := true, recurses := true, apart := false }
def SpotLeansSaid : Prop := spotLeansRow.holds Try.pinned (OpenSpec.ofChange spotLeansSpec)

/-- ITS FALSE NEIGHBOUR: 'it returns false'. Refute it at one input. -/
def spotLeansWrong : ChangeSpec := { name := "spotLeans", fn := fun _ => fun
  | [d1, d2] => { results := [.lit (.bool false)], args := [d1, d2] }
  | _ => none }
def SpotLeansWrongFalsely : Prop := spotLeansRow.holds Try.pinned (OpenSpec.ofChange spotLeansWrong)

/- THE SECOND FORM. 'bulk': how many values and letters a reading holds, each counted each time it is reached (what is shared counts as often as it is met; a slice's spare places count too). A statement '..UptoSaid' is the law's where the arguments, and the package variables that the reading takes, are together of bulk at most 1048576: NARROWER than '..Said'. Prove '..Said' where nothing that the law and all that it calls make is longer than what came in: it says more and counts as full. Else prove '..UptoSaid'. A law counts once. -/
mutual
def uptoBulk {H : Type} : DataW H → Nat
  | .lit (.string bytes) => bytes.length + 1
  | .lit _ => 1
  | .nil => 1
  | .ptr d => uptoBulk d + 1
  | .slice elems spare => uptoBulkAll elems + uptoBulkAll spare + 1
  | .agg parts => uptoBulkAll parts + 1
  | .iface _ d => uptoBulk d + 1
  | .map entries => uptoBulkEntries entries + 1
  | .held _ => 1
def uptoBulkAll {H : Type} : List (DataW H) → Nat
  | [] => 0
  | d :: r => uptoBulk d + uptoBulkAll r
def uptoBulkEntries {H : Type} : List (Lit × DataW H) → Nat
  | [] => 0
  | x :: r => uptoBulkEntry x + uptoBulkEntries r
def uptoBulkEntry {H : Type} : Lit × DataW H → Nat
  | (.string bytes, d) => bytes.length + uptoBulk d + 1
  | (_, d) => uptoBulk d + 1
 end
def uptoSmall : (H : Type) → List (DataW H) → Bool := fun _ ds => decide (uptoBulkAll ds ≤ 1048576)
def OpenSpec.upto (s : _root_.Go.ChangeSpec) : _root_.Go.OpenSpec := { _root_.Go.OpenSpec.ofChange s with cond := some uptoSmall }

/-- 'colophonlaw15.SpotPlaces', WHERE WHAT IT READS IS OF BULK AT MOST 1048576: true; the input reads as it did. -/
def spotPlacesUptoRow : OpenClaim := { program := "ytbbhefiibcbbfaa", sum := "6693ca6b8ca0d4ecc8e5916eb9fef0b9aabdcea068aadccef1f84ba0df745a21", func := "colophon/colophonlaw15.SpotPlaces", spec := "spotPlaces", unfollowed := true, recurses := true, apart := false, narrowed := true }
def SpotPlacesUptoSaid : Prop := spotPlacesUptoRow.holds Try.pinned (OpenSpec.upto spotPlacesSpec)

/-- 'colophonlaw15.SpotSteps', WHERE WHAT IT READS IS OF BULK AT MOST 1048576: true; the input reads as it did. -/
def spotStepsUptoRow : OpenClaim := { program := "ytbbhefiibcbbfaa", sum := "6693ca6b8ca0d4ecc8e5916eb9fef0b9aabdcea068aadccef1f84ba0df745a21", func := "colophon/colophonlaw15.SpotSteps", spec := "spotSteps", unfollowed := true, recurses := true, apart := false, narrowed := true }
def SpotStepsUptoSaid : Prop := spotStepsUptoRow.holds Try.pinned (OpenSpec.upto spotStepsSpec)

/-- 'colophonlaw15.SpotBack', WHERE WHAT IT READS IS OF BULK AT MOST 1048576: true; the input reads as it did. -/
def spotBackUptoRow : OpenClaim := { program := "ytbbhefiibcbbfaa", sum := "6693ca6b8ca0d4ecc8e5916eb9fef0b9aabdcea068aadccef1f84ba0df745a21", func := "colophon/colophonlaw15.SpotBack", spec := "spotBack", unfollowed := true, recurses := true, apart := false, narrowed := true }
def SpotBackUptoSaid : Prop := spotBackUptoRow.holds Try.pinned (OpenSpec.upto spotBackSpec)

/-- 'colophonlaw15.SpotColumns', WHERE WHAT IT READS IS OF BULK AT MOST 1048576: true; the input reads as it did. -/
def spotColumnsUptoRow : OpenClaim := { program := "ytbbhefiibcbbfaa", sum := "6693ca6b8ca0d4ecc8e5916eb9fef0b9aabdcea068aadccef1f84ba0df745a21", func := "colophon/colophonlaw15.SpotColumns", spec := "spotColumns", unfollowed := true, recurses := true, apart := false, narrowed := true }
def SpotColumnsUptoSaid : Prop := spotColumnsUptoRow.holds Try.pinned (OpenSpec.upto spotColumnsSpec)

/-- 'colophonlaw15.SpotFlips', WHERE WHAT IT READS IS OF BULK AT MOST 1048576: true; the input reads as it did. -/
def spotFlipsUptoRow : OpenClaim := { program := "ytbbhefiibcbbfaa", sum := "6693ca6b8ca0d4ecc8e5916eb9fef0b9aabdcea068aadccef1f84ba0df745a21", func := "colophon/colophonlaw15.SpotFlips", spec := "spotFlips", unfollowed := true, recurses := true, apart := false, narrowed := true }
def SpotFlipsUptoSaid : Prop := spotFlipsUptoRow.holds Try.pinned (OpenSpec.upto spotFlipsSpec)

/-- 'colophonlaw15.SpotLeans', WHERE WHAT IT READS IS OF BULK AT MOST 1048576: true; the input reads as it did. -/
def spotLeansUptoRow : OpenClaim := { program := "ytbbhefiibcbbfaa", sum := "6693ca6b8ca0d4ecc8e5916eb9fef0b9aabdcea068aadccef1f84ba0df745a21", func := "colophon/colophonlaw15.SpotLeans", spec := "spotLeans", unfollowed := true, recurses := true, apart := false, narrowed := true }
def SpotLeansUptoSaid : Prop := spotLeansUptoRow.holds Try.pinned (OpenSpec.upto spotLeansSpec)

end Rows
end Go.Proofs.Ytbbhefiibcbbfaa
