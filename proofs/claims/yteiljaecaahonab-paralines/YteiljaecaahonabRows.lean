/-
  No cell of these rows narrows 'for every input' (looked for: loops, veiled, ifaces, maps, wideKeys, modest, calm, conditions, laid).
  DERIVED. THE GIVEN ROWS OF THIS SEAT. 5 by the template 'for every input the law returns true; each argument reads behind the call as it read before'; 0 by the template 'total and deterministic' (their statements: YteiljaecaahonabTotals.lean).
  GIVEN WITH THE SEED: the statements are not yours to turn. If you find one false, say at which input.
  Laid BY PROGRAM, IN A SANDBOX (cutbox-rows.mjs): the forced cells as the released guide's own fill.sh prints them over the translation 4dc269316e3bd59a… (all of the seat's roots in one cut). By AI agents, Wed Nov 11 2026. No macro, syntax, notation, axiom, sorry.
-/
import Derived.Test.YteiljaecaahonabChecked
import GoSem.Claim
import GoSem.ClaimJoined
import GoSem.ClaimMapViews
import Derived.JoinedTies
import Derived.KernelRfl
namespace Go.Proofs.Yteiljaecaahonab
/- THE CELL 'sum', in the pinned program and in every row, IS THE sha256 OF THE DUMP (.gsa) THAT YteiljaecaahonabProg.lean LOADS. Nothing in Lean hashes anything: it is a label: what it is worth is what the hold of that sum in a sandbox is worth. -/
noncomputable def Try.pinned : Pinned := { name := "yteiljaecaahonab", sum := "4dc269316e3bd59aac958fe2272652ad93cb1ff2df096eda733a6cb3793254c3", checked := Try.checked }
namespace Rows
def none {H : Type} : Left H := { results := [], args := [] }

/-- 'colophonlaw05.ParaLines': WHATEVER THE INPUT: true; the input reads as it did. -/
def paraLinesSpec : ChangeSpec := { name := "paraLines", fn := fun _ => fun
  | [d1, d2, d3] => { results := [.lit (.bool true)], args := [d1, d2, d3] }
  | _ => none }
def paraLinesRow : OpenClaim := { program := "yteiljaecaahonab", sum := "4dc269316e3bd59aac958fe2272652ad93cb1ff2df096eda733a6cb3793254c3", func := "colophon/colophonlaw05.ParaLines", spec := "paraLines", apart := false }
def ParaLinesSaid : Prop := paraLinesRow.holds Try.pinned (OpenSpec.ofChange paraLinesSpec)

/-- ITS FALSE NEIGHBOUR: 'it returns false'. Refute it at one input. -/
def paraLinesWrong : ChangeSpec := { name := "paraLines", fn := fun _ => fun
  | [d1, d2, d3] => { results := [.lit (.bool false)], args := [d1, d2, d3] }
  | _ => none }
def ParaLinesWrongFalsely : Prop := paraLinesRow.holds Try.pinned (OpenSpec.ofChange paraLinesWrong)

/-- 'colophonlaw05.ParaCovers': WHATEVER THE INPUT: true; the input reads as it did. -/
def paraCoversSpec : ChangeSpec := { name := "paraCovers", fn := fun _ => fun
  | [d] => { results := [.lit (.bool true)], args := [d] }
  | _ => none }
def paraCoversRow : OpenClaim := { program := "yteiljaecaahonab", sum := "4dc269316e3bd59aac958fe2272652ad93cb1ff2df096eda733a6cb3793254c3", func := "colophon/colophonlaw05.ParaCovers", spec := "paraCovers", unfollowed := true, recurses := true, apart := false }
def ParaCoversSaid : Prop := paraCoversRow.holds Try.pinned (OpenSpec.ofChange paraCoversSpec)

/-- ITS FALSE NEIGHBOUR: 'it returns false'. Refute it at one input. -/
def paraCoversWrong : ChangeSpec := { name := "paraCovers", fn := fun _ => fun
  | [d] => { results := [.lit (.bool false)], args := [d] }
  | _ => none }
def ParaCoversWrongFalsely : Prop := paraCoversRow.holds Try.pinned (OpenSpec.ofChange paraCoversWrong)

/-- 'colophonlaw05.ParaOrder': WHATEVER THE INPUT: true; the input reads as it did. -/
def paraOrderSpec : ChangeSpec := { name := "paraOrder", fn := fun _ => fun
  | [d1, d2] => { results := [.lit (.bool true)], args := [d1, d2] }
  | _ => none }
def paraOrderRow : OpenClaim := { program := "yteiljaecaahonab", sum := "4dc269316e3bd59aac958fe2272652ad93cb1ff2df096eda733a6cb3793254c3", func := "colophon/colophonlaw05.ParaOrder", spec := "paraOrder", unfollowed := true, recurses := true, apart := false }
def ParaOrderSaid : Prop := paraOrderRow.holds Try.pinned (OpenSpec.ofChange paraOrderSpec)

/-- ITS FALSE NEIGHBOUR: 'it returns false'. Refute it at one input. -/
def paraOrderWrong : ChangeSpec := { name := "paraOrder", fn := fun _ => fun
  | [d1, d2] => { results := [.lit (.bool false)], args := [d1, d2] }
  | _ => none }
def ParaOrderWrongFalsely : Prop := paraOrderRow.holds Try.pinned (OpenSpec.ofChange paraOrderWrong)

/-- 'colophonlaw05.ParaBack': WHATEVER THE INPUT: true; the input reads as it did. -/
def paraBackSpec : ChangeSpec := { name := "paraBack", fn := fun _ => fun
  | [d] => { results := [.lit (.bool true)], args := [d] }
  | _ => none }
def paraBackRow : OpenClaim := { program := "yteiljaecaahonab", sum := "4dc269316e3bd59aac958fe2272652ad93cb1ff2df096eda733a6cb3793254c3", func := "colophon/colophonlaw05.ParaBack", spec := "paraBack", unfollowed := true, recurses := true, apart := false }
def ParaBackSaid : Prop := paraBackRow.holds Try.pinned (OpenSpec.ofChange paraBackSpec)

/-- ITS FALSE NEIGHBOUR: 'it returns false'. Refute it at one input. -/
def paraBackWrong : ChangeSpec := { name := "paraBack", fn := fun _ => fun
  | [d] => { results := [.lit (.bool false)], args := [d] }
  | _ => none }
def ParaBackWrongFalsely : Prop := paraBackRow.holds Try.pinned (OpenSpec.ofChange paraBackWrong)

/-- 'colophonlaw05.ParaEdits': WHATEVER THE INPUT: true; the input reads as it did. -/
def paraEditsSpec : ChangeSpec := { name := "paraEdits", fn := fun _ => fun
  | [d1, d2, d3, d4] => { results := [.lit (.bool true)], args := [d1, d2, d3, d4] }
  | _ => none }
def paraEditsRow : OpenClaim := { program := "yteiljaecaahonab", sum := "4dc269316e3bd59aac958fe2272652ad93cb1ff2df096eda733a6cb3793254c3", func := "colophon/colophonlaw05.ParaEdits", spec := "paraEdits", unfollowed := true, recurses := true, apart := false }
def ParaEditsSaid : Prop := paraEditsRow.holds Try.pinned (OpenSpec.ofChange paraEditsSpec)

/-- ITS FALSE NEIGHBOUR: 'it returns false'. Refute it at one input. -/
def paraEditsWrong : ChangeSpec := { name := "paraEdits", fn := fun _ => fun
  | [d1, d2, d3, d4] => { results := [.lit (.bool false)], args := [d1, d2, d3, d4] }
  | _ => none }
def ParaEditsWrongFalsely : Prop := paraEditsRow.holds Try.pinned (OpenSpec.ofChange paraEditsWrong)

/- THE SECOND FORM. 'bulk': how many values and letters a reading holds, each counted each time it is reached (what is shared counts as often as it is met; a slice's spare places count too). A statement '..UptoSaid' is the law's where the arguments, and the package variables that the reading takes, are together of bulk at most 1048576: NARROWER than '..Said'. Prove '..Said' where nothing that the law and all that it calls make is longer than what came in: it says more and counts as full. Else prove '..UptoSaid'. A law counts once. -/
mutual
def uptoBulk {H : Type} : DataW H → Nat
  | .lit (.string bytes) => bytes.length + 1
  | .lit _ => 1
  | .nil => 1
  | .ptr d => uptoBulk d + 1
  | .slice elems spare => uptoBulkAll elems + uptoBulkAll spare + 1
  | .agg parts => uptoBulkAll parts + 1
  | .iface _ d => uptoBulk d + 1
  | .map entries => uptoBulkEntries entries + 1
  | .held _ => 1
def uptoBulkAll {H : Type} : List (DataW H) → Nat
  | [] => 0
  | d :: r => uptoBulk d + uptoBulkAll r
def uptoBulkEntries {H : Type} : List (Lit × DataW H) → Nat
  | [] => 0
  | x :: r => uptoBulkEntry x + uptoBulkEntries r
def uptoBulkEntry {H : Type} : Lit × DataW H → Nat
  | (.string bytes, d) => bytes.length + uptoBulk d + 1
  | (_, d) => uptoBulk d + 1
 end
def uptoSmall : (H : Type) → List (DataW H) → Bool := fun _ ds => decide (uptoBulkAll ds ≤ 1048576)
def OpenSpec.upto (s : _root_.Go.ChangeSpec) : _root_.Go.OpenSpec := { _root_.Go.OpenSpec.ofChange s with cond := some uptoSmall }

/-- 'colophonlaw05.ParaLines', WHERE WHAT IT READS IS OF BULK AT MOST 1048576: true; the input reads as it did. -/
def paraLinesUptoRow : OpenClaim := { program := "yteiljaecaahonab", sum := "4dc269316e3bd59aac958fe2272652ad93cb1ff2df096eda733a6cb3793254c3", func := "colophon/colophonlaw05.ParaLines", spec := "paraLines", apart := false, narrowed := true }
def ParaLinesUptoSaid : Prop := paraLinesUptoRow.holds Try.pinned (OpenSpec.upto paraLinesSpec)

/-- 'colophonlaw05.ParaCovers', WHERE WHAT IT READS IS OF BULK AT MOST 1048576: true; the input reads as it did. -/
def paraCoversUptoRow : OpenClaim := { program := "yteiljaecaahonab", sum := "4dc269316e3bd59aac958fe2272652ad93cb1ff2df096eda733a6cb3793254c3", func := "colophon/colophonlaw05.ParaCovers", spec := "paraCovers", unfollowed := true, recurses := true, apart := false, narrowed := true }
def ParaCoversUptoSaid : Prop := paraCoversUptoRow.holds Try.pinned (OpenSpec.upto paraCoversSpec)

/-- 'colophonlaw05.ParaOrder', WHERE WHAT IT READS IS OF BULK AT MOST 1048576: true; the input reads as it did. -/
def paraOrderUptoRow : OpenClaim := { program := "yteiljaecaahonab", sum := "4dc269316e3bd59aac958fe2272652ad93cb1ff2df096eda733a6cb3793254c3", func := "colophon/colophonlaw05.ParaOrder", spec := "paraOrder", unfollowed := true, recurses := true, apart := false, narrowed := true }
def ParaOrderUptoSaid : Prop := paraOrderUptoRow.holds Try.pinned (OpenSpec.upto paraOrderSpec)

/-- 'colophonlaw05.ParaBack', WHERE WHAT IT READS IS OF BULK AT MOST 1048576: true; the input reads as it did. -/
def paraBackUptoRow : OpenClaim := { program := "yteiljaecaahonab", sum := "4dc269316e3bd59aac958fe2272652ad93cb1ff2df096eda733a6cb3793254c3", func := "colophon/colophonlaw05.ParaBack", spec := "paraBack", unfollowed := true, recurses := true, apart := false, narrowed := true }
def ParaBackUptoSaid : Prop := paraBackUptoRow.holds Try.pinned (OpenSpec.upto paraBackSpec)

/-- 'colophonlaw05.ParaEdits', WHERE WHAT IT READS IS OF BULK AT MOST 1048576: true; the input reads as it did. -/
def paraEditsUptoRow : OpenClaim := { program := "yteiljaecaahonab", sum := "4dc269316e3bd59aac958fe2272652ad93cb1ff2df096eda733a6cb3793254c3", func := "colophon/colophonlaw05.ParaEdits", spec := "paraEdits", unfollowed := true, recurses := true, apart := false, narrowed := true }
def ParaEditsUptoSaid : Prop := paraEditsUptoRow.holds Try.pinned (OpenSpec.upto paraEditsSpec)

end Rows
end Go.Proofs.Yteiljaecaahonab
