/-
  No cell of these rows narrows 'for every input' (looked for: loops, veiled, ifaces, maps, wideKeys, modest, calm, conditions, laid).
  DERIVED. THE GIVEN ROWS OF THIS SEAT. 6 by the template 'for every input the law returns true; each argument reads behind the call as it read before'; 0 by the template 'total and deterministic' (their statements: YtmcbldllbnjipaaTotals.lean).
  GIVEN WITH THE SEED: the statements are not yours to turn. If you find one false, say at which input.
  Laid BY PROGRAM, IN A SANDBOX (cutbox-rows.mjs): the forced cells as the released guide's own fill.sh prints them over the translation 915e60d11ba47724… (all of the seat's roots in one cut). By AI agents, Wed Nov 11 2026. No macro, syntax, notation, axiom, sorry.
-/
import Derived.Test.YtmcbldllbnjipaaChecked
import GoSem.Claim
import GoSem.ClaimJoined
import GoSem.ClaimMapViews
import Derived.JoinedTies
import Derived.KernelRfl
namespace Go.Proofs.Ytmcbldllbnjipaa
/- THE CELL 'sum', in the pinned program and in every row, IS THE sha256 OF THE DUMP (.gsa) THAT YtmcbldllbnjipaaProg.lean LOADS. Nothing in Lean hashes anything: it is a label: what it is worth is what the hold of that sum in a sandbox is worth. -/
noncomputable def Try.pinned : Pinned := { name := "ytmcbldllbnjipaa", sum := "915e60d11ba477247e254defa26aa3dc9fb3873a0f485886db3244e2434611c8", checked := Try.checked }
namespace Rows
def none {H : Type} : Left H := { results := [], args := [] }

/-- 'colophonlaw16.PickRuns': WHATEVER THE INPUT: true; the input reads as it did. -/
def pickRunsSpec : ChangeSpec := { name := "pickRuns", fn := fun _ => fun
  | [d1, d2, d3] => { results := [.lit (.bool true)], args := [d1, d2, d3] }
  | _ => none }
def pickRunsRow : OpenClaim := { program := "ytmcbldllbnjipaa", sum := "915e60d11ba477247e254defa26aa3dc9fb3873a0f485886db3244e2434611c8", func := "colophon/colophonlaw16.PickRuns", spec := "pickRuns", unfollowed := true, recurses := true, apart := false }
def PickRunsSaid : Prop := pickRunsRow.holds Try.pinned (OpenSpec.ofChange pickRunsSpec)

/-- ITS FALSE NEIGHBOUR: 'it returns false'. Refute it at one input. -/
def pickRunsWrong : ChangeSpec := { name := "pickRuns", fn := fun _ => fun
  | [d1, d2, d3] => { results := [.lit (.bool false)], args := [d1, d2, d3] }
  | _ => none }
def PickRunsWrongFalsely : Prop := pickRunsRow.holds Try.pinned (OpenSpec.ofChange pickRunsWrong)

/-- 'colophonlaw16.PickPlaces': WHATEVER THE INPUT: true; the input reads as it did. -/
def pickPlacesSpec : ChangeSpec := { name := "pickPlaces", fn := fun _ => fun
  | [d1, d2] => { results := [.lit (.bool true)], args := [d1, d2] }
  | _ => none }
def pickPlacesRow : OpenClaim := { program := "ytmcbldllbnjipaa", sum := "915e60d11ba477247e254defa26aa3dc9fb3873a0f485886db3244e2434611c8", func := "colophon/colophonlaw16.PickPlaces", spec := "pickPlaces", unfollowed := true, recurses := true, apart := false }
def PickPlacesSaid : Prop := pickPlacesRow.holds Try.pinned (OpenSpec.ofChange pickPlacesSpec)

/-- ITS FALSE NEIGHBOUR: 'it returns false'. Refute it at one input. -/
def pickPlacesWrong : ChangeSpec := { name := "pickPlaces", fn := fun _ => fun
  | [d1, d2] => { results := [.lit (.bool false)], args := [d1, d2] }
  | _ => none }
def PickPlacesWrongFalsely : Prop := pickPlacesRow.holds Try.pinned (OpenSpec.ofChange pickPlacesWrong)

/-- 'colophonlaw16.PickImage': WHATEVER THE INPUT: true; the input reads as it did. -/
def pickImageSpec : ChangeSpec := { name := "pickImage", fn := fun _ => fun
  | [d1, d2, d3] => { results := [.lit (.bool true)], args := [d1, d2, d3] }
  | _ => none }
def pickImageRow : OpenClaim := { program := "ytmcbldllbnjipaa", sum := "915e60d11ba477247e254defa26aa3dc9fb3873a0f485886db3244e2434611c8", func := "colophon/colophonlaw16.PickImage", spec := "pickImage", unfollowed := true, recurses := true, apart := false }
def PickImageSaid : Prop := pickImageRow.holds Try.pinned (OpenSpec.ofChange pickImageSpec)

/-- ITS FALSE NEIGHBOUR: 'it returns false'. Refute it at one input. -/
def pickImageWrong : ChangeSpec := { name := "pickImage", fn := fun _ => fun
  | [d1, d2, d3] => { results := [.lit (.bool false)], args := [d1, d2, d3] }
  | _ => none }
def PickImageWrongFalsely : Prop := pickImageRow.holds Try.pinned (OpenSpec.ofChange pickImageWrong)

/-- 'colophonlaw16.PickApart': WHATEVER THE INPUT: true; the input reads as it did. -/
def pickApartSpec : ChangeSpec := { name := "pickApart", fn := fun _ => fun
  | [d1, d2, d3] => { results := [.lit (.bool true)], args := [d1, d2, d3] }
  | _ => none }
def pickApartRow : OpenClaim := { program := "ytmcbldllbnjipaa", sum := "915e60d11ba477247e254defa26aa3dc9fb3873a0f485886db3244e2434611c8", func := "colophon/colophonlaw16.PickApart", spec := "pickApart", unfollowed := true, recurses := true, apart := false }
def PickApartSaid : Prop := pickApartRow.holds Try.pinned (OpenSpec.ofChange pickApartSpec)

/-- ITS FALSE NEIGHBOUR: 'it returns false'. Refute it at one input. -/
def pickApartWrong : ChangeSpec := { name := "pickApart", fn := fun _ => fun
  | [d1, d2, d3] => { results := [.lit (.bool false)], args := [d1, d2, d3] }
  | _ => none }
def PickApartWrongFalsely : Prop := pickApartRow.holds Try.pinned (OpenSpec.ofChange pickApartWrong)

/-- 'colophonlaw16.PickWhole': WHATEVER THE INPUT: true; the input reads as it did. -/
def pickWholeSpec : ChangeSpec := { name := "pickWhole", fn := fun _ => fun
  | [d1, d2] => { results := [.lit (.bool true)], args := [d1, d2] }
  | _ => none }
def pickWholeRow : OpenClaim := { program := "ytmcbldllbnjipaa", sum := "915e60d11ba477247e254defa26aa3dc9fb3873a0f485886db3244e2434611c8", func := "colophon/colophonlaw16.PickWhole", spec := "pickWhole", unfollowed := true, recurses := true, apart := false }
def PickWholeSaid : Prop := pickWholeRow.holds Try.pinned (OpenSpec.ofChange pickWholeSpec)

/-- ITS FALSE NEIGHBOUR: 'it returns false'. Refute it at one input. -/
def pickWholeWrong : ChangeSpec := { name := "pickWhole", fn := fun _ => fun
  | [d1, d2] => { results := [.lit (.bool false)], args := [d1, d2] }
  | _ => none }
def PickWholeWrongFalsely : Prop := pickWholeRow.holds Try.pinned (OpenSpec.ofChange pickWholeWrong)

/-- 'colophonlaw16.PickSplits': WHATEVER THE INPUT: true; the input reads as it did. -/
def pickSplitsSpec : ChangeSpec := { name := "pickSplits", fn := fun _ => fun
  | [d1, d2, d3, d4] => { results := [.lit (.bool true)], args := [d1, d2, d3, d4] }
  | _ => none }
def pickSplitsRow : OpenClaim := { program := "ytmcbldllbnjipaa", sum := "915e60d11ba477247e254defa26aa3dc9fb3873a0f485886db3244e2434611c8", func := "colophon/colophonlaw16.PickSplits", spec := "pickSplits", unfollowed := true, recurses := true, apart := false }
def PickSplitsSaid : Prop := pickSplitsRow.holds Try.pinned (OpenSpec.ofChange pickSplitsSpec)

/-- ITS FALSE NEIGHBOUR: 'it returns false'. Refute it at one input. -/
def pickSplitsWrong : ChangeSpec := { name := "pickSplits", fn := fun _ => fun
  | [d1, d2, d3, d4] => { results := [.lit (.bool false)], args := [d1, d2, d3, d4] }
  | _ => none }
def PickSplitsWrongFalsely : Prop := pickSplitsRow.holds Try.pinned (OpenSpec.ofChange pickSplitsWrong)

/- THE SECOND FORM. 'bulk': how many values and letters a reading holds, each counted each time it is reached (what is shared counts as often as it is met; a slice's spare places count too). A statement '..UptoSaid' is the law's where the arguments, and the package variables that the reading takes, are together of bulk at most 1048576: NARROWER than '..Said'. Prove '..Said' where nothing that the law and all that it calls make is longer than what came in: it says more and counts as full. Else prove '..UptoSaid'. A law counts once. -/
mutual
def uptoBulk {H : Type} : DataW H → Nat
  | .lit (.string bytes) => bytes.length + 1
  | .lit _ => 1
  | .nil => 1
  | .ptr d => uptoBulk d + 1
  | .slice elems spare => uptoBulkAll elems + uptoBulkAll spare + 1
  | .agg parts => uptoBulkAll parts + 1
  | .iface _ d => uptoBulk d + 1
  | .map entries => uptoBulkEntries entries + 1
  | .held _ => 1
def uptoBulkAll {H : Type} : List (DataW H) → Nat
  | [] => 0
  | d :: r => uptoBulk d + uptoBulkAll r
def uptoBulkEntries {H : Type} : List (Lit × DataW H) → Nat
  | [] => 0
  | x :: r => uptoBulkEntry x + uptoBulkEntries r
def uptoBulkEntry {H : Type} : Lit × DataW H → Nat
  | (.string bytes, d) => bytes.length + uptoBulk d + 1
  | (_, d) => uptoBulk d + 1
 end
def uptoSmall : (H : Type) → List (DataW H) → Bool := fun _ ds => decide (uptoBulkAll ds ≤ 1048576)
def OpenSpec.upto (s : _root_.Go.ChangeSpec) : _root_.Go.OpenSpec := { _root_.Go.OpenSpec.ofChange s with cond := some uptoSmall }

/-- 'colophonlaw16.PickRuns', WHERE WHAT IT READS IS OF BULK AT MOST 1048576: true; the input reads as it did. -/
def pickRunsUptoRow : OpenClaim := { program := "ytmcbldllbnjipaa", sum := "915e60d11ba477247e254defa26aa3dc9fb3873a0f485886db3244e2434611c8", func := "colophon/colophonlaw16.PickRuns", spec := "pickRuns", unfollowed := true, recurses := true, apart := false, narrowed := true }
def PickRunsUptoSaid : Prop := pickRunsUptoRow.holds Try.pinned (OpenSpec.upto pickRunsSpec)

/-- 'colophonlaw16.PickPlaces', WHERE WHAT IT READS IS OF BULK AT MOST 1048576: true; the input reads as it did. -/
def pickPlacesUptoRow : OpenClaim := { program := "ytmcbldllbnjipaa", sum := "915e60d11ba477247e254defa26aa3dc9fb3873a0f485886db3244e2434611c8", func := "colophon/colophonlaw16.PickPlaces", spec := "pickPlaces", unfollowed := true, recurses := true, apart := false, narrowed := true }
def PickPlacesUptoSaid : Prop := pickPlacesUptoRow.holds Try.pinned (OpenSpec.upto pickPlacesSpec)

/-- 'colophonlaw16.PickImage', WHERE WHAT IT READS IS OF BULK AT MOST 1048576: true; the input reads as it did. -/
def pickImageUptoRow : OpenClaim := { program := "ytmcbldllbnjipaa", sum := "915e60d11ba477247e254defa26aa3dc9fb3873a0f485886db3244e2434611c8", func := "colophon/colophonlaw16.PickImage", spec := "pickImage", unfollowed := true, recurses := true, apart := false, narrowed := true }
def PickImageUptoSaid : Prop := pickImageUptoRow.holds Try.pinned (OpenSpec.upto pickImageSpec)

/-- 'colophonlaw16.PickApart', WHERE WHAT IT READS IS OF BULK AT MOST 1048576: true; the input reads as it did. -/
def pickApartUptoRow : OpenClaim := { program := "ytmcbldllbnjipaa", sum := "915e60d11ba477247e254defa26aa3dc9fb3873a0f485886db3244e2434611c8", func := "colophon/colophonlaw16.PickApart", spec := "pickApart", unfollowed := true, recurses := true, apart := false, narrowed := true }
def PickApartUptoSaid : Prop := pickApartUptoRow.holds Try.pinned (OpenSpec.upto pickApartSpec)

/-- 'colophonlaw16.PickWhole', WHERE WHAT IT READS IS OF BULK AT MOST 1048576: true; the input reads as it did. -/
def pickWholeUptoRow : OpenClaim := { program := "ytmcbldllbnjipaa", sum := "915e60d11ba477247e254defa26aa3dc9fb3873a0f485886db3244e2434611c8", func := "colophon/colophonlaw16.PickWhole", spec := "pickWhole", unfollowed := true, recurses := true, apart := false, narrowed := true }
def PickWholeUptoSaid : Prop := pickWholeUptoRow.holds Try.pinned (OpenSpec.upto pickWholeSpec)

/-- 'colophonlaw16.PickSplits', WHERE WHAT IT READS IS OF BULK AT MOST 1048576: true; the input reads as it did. -/
def pickSplitsUptoRow : OpenClaim := { program := "ytmcbldllbnjipaa", sum := "915e60d11ba477247e254defa26aa3dc9fb3873a0f485886db3244e2434611c8", func := "colophon/colophonlaw16.PickSplits", spec := "pickSplits", unfollowed := true, recurses := true, apart := false, narrowed := true }
def PickSplitsUptoSaid : Prop := pickSplitsUptoRow.holds Try.pinned (OpenSpec.upto pickSplitsSpec)

end Rows
end Go.Proofs.Ytmcbldllbnjipaa
