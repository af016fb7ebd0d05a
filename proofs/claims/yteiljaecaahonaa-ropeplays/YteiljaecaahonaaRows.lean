/-
  No cell of these rows narrows 'for every input' (looked for: loops, veiled, ifaces, maps, wideKeys, modest, calm, conditions, laid).
  DERIVED. THE GIVEN ROWS OF THIS SEAT. 6 by the template 'for every input the law returns true; each argument reads behind the call as it read before'; 0 by the template 'total and deterministic' (their statements: YteiljaecaahonaaTotals.lean).
  GIVEN WITH THE SEED: the statements are not yours to turn. If you find one false, say at which input.
  Laid BY PROGRAM, IN A SANDBOX (cutbox-rows.mjs): the forced cells as the released guide's own fill.sh prints them over the translation bf74da56b5747de1… (all of the seat's roots in one cut). By AI agents, Wed Nov 11 2026. No macro, syntax, notation, axiom, sorry.
-/
import Derived.Test.YteiljaecaahonaaChecked
import GoSem.Claim
import GoSem.ClaimJoined
import GoSem.ClaimMapViews
import Derived.JoinedTies
import Derived.KernelRfl
namespace Go.Proofs.Yteiljaecaahonaa
/- THE CELL 'sum', in the pinned program and in every row, IS THE sha256 OF THE DUMP (.gsa) THAT YteiljaecaahonaaProg.lean LOADS. Nothing in Lean hashes anything: it is a label: what it is worth is what the hold of that sum in a sandbox is worth. -/
noncomputable def Try.pinned : Pinned := { name := "yteiljaecaahonaa", sum := "bf74da56b5747de1e05ffbc312a4788da008c7943f0bf7c766cf11cacbe14944", checked := Try.checked }
namespace Rows
def none {H : Type} : Left H := { results := [], args := [] }

/-- 'colophonlaw04.RopePlays': WHATEVER THE INPUT: true; the input reads as it did. -/
def ropePlaysSpec : ChangeSpec := { name := "ropePlays", fn := fun _ => fun
  | [d1, d2] => { results := [.lit (.bool true)], args := [d1, d2] }
  | _ => none }
def ropePlaysRow : OpenClaim := { program := "yteiljaecaahonaa", sum := "bf74da56b5747de1e05ffbc312a4788da008c7943f0bf7c766cf11cacbe14944", func := "colophon/colophonlaw04.RopePlays", spec := "ropePlays", unfollowed := true, recurses := true, apart := false }
def RopePlaysSaid : Prop := ropePlaysRow.holds Try.pinned (OpenSpec.ofChange ropePlaysSpec)

/-- ITS FALSE NEIGHBOUR: 'it returns false'. Refute it at one input. -/
def ropePlaysWrong : ChangeSpec := { name := "ropePlays", fn := fun _ => fun
  | [d1, d2] => { results := [.lit (.bool false)], args := [d1, d2] }
  | _ => none }
def RopePlaysWrongFalsely : Prop := ropePlaysRow.holds Try.pinned (OpenSpec.ofChange ropePlaysWrong)

/-- 'colophonlaw04.RopeNobody': WHATEVER THE INPUT: true; the input reads as it did. -/
def ropeNobodySpec : ChangeSpec := { name := "ropeNobody", fn := fun _ => fun
  | [d1, d2, d3] => { results := [.lit (.bool true)], args := [d1, d2, d3] }
  | _ => none }
def ropeNobodyRow : OpenClaim := { program := "yteiljaecaahonaa", sum := "bf74da56b5747de1e05ffbc312a4788da008c7943f0bf7c766cf11cacbe14944", func := "colophon/colophonlaw04.RopeNobody", spec := "ropeNobody", unfollowed := true, recurses := true, apart := false }
def RopeNobodySaid : Prop := ropeNobodyRow.holds Try.pinned (OpenSpec.ofChange ropeNobodySpec)

/-- ITS FALSE NEIGHBOUR: 'it returns false'. Refute it at one input. -/
def ropeNobodyWrong : ChangeSpec := { name := "ropeNobody", fn := fun _ => fun
  | [d1, d2, d3] => { results := [.lit (.bool false)], args := [d1, d2, d3] }
  | _ => none }
def RopeNobodyWrongFalsely : Prop := ropeNobodyRow.holds Try.pinned (OpenSpec.ofChange ropeNobodyWrong)

/-- 'colophonlaw04.RopeBalanced': WHATEVER THE INPUT: true; the input reads as it did. -/
def ropeBalancedSpec : ChangeSpec := { name := "ropeBalanced", fn := fun _ => fun
  | [d1, d2] => { results := [.lit (.bool true)], args := [d1, d2] }
  | _ => none }
def ropeBalancedRow : OpenClaim := { program := "yteiljaecaahonaa", sum := "bf74da56b5747de1e05ffbc312a4788da008c7943f0bf7c766cf11cacbe14944", func := "colophon/colophonlaw04.RopeBalanced", spec := "ropeBalanced", unfollowed := true, recurses := true, apart := false }
def RopeBalancedSaid : Prop := ropeBalancedRow.holds Try.pinned (OpenSpec.ofChange ropeBalancedSpec)

/-- ITS FALSE NEIGHBOUR: 'it returns false'. Refute it at one input. -/
def ropeBalancedWrong : ChangeSpec := { name := "ropeBalanced", fn := fun _ => fun
  | [d1, d2] => { results := [.lit (.bool false)], args := [d1, d2] }
  | _ => none }
def RopeBalancedWrongFalsely : Prop := ropeBalancedRow.holds Try.pinned (OpenSpec.ofChange ropeBalancedWrong)

/-- 'colophonlaw04.RopeLeaves': WHATEVER THE INPUT: true; the input reads as it did. -/
def ropeLeavesSpec : ChangeSpec := { name := "ropeLeaves", fn := fun _ => fun
  | [d1, d2] => { results := [.lit (.bool true)], args := [d1, d2] }
  | _ => none }
def ropeLeavesRow : OpenClaim := { program := "yteiljaecaahonaa", sum := "bf74da56b5747de1e05ffbc312a4788da008c7943f0bf7c766cf11cacbe14944", func := "colophon/colophonlaw04.RopeLeaves", spec := "ropeLeaves", unfollowed := true, recurses := true, apart := false }
def RopeLeavesSaid : Prop := ropeLeavesRow.holds Try.pinned (OpenSpec.ofChange ropeLeavesSpec)

/-- ITS FALSE NEIGHBOUR: 'it returns false'. Refute it at one input. -/
def ropeLeavesWrong : ChangeSpec := { name := "ropeLeaves", fn := fun _ => fun
  | [d1, d2] => { results := [.lit (.bool false)], args := [d1, d2] }
  | _ => none }
def RopeLeavesWrongFalsely : Prop := ropeLeavesRow.holds Try.pinned (OpenSpec.ofChange ropeLeavesWrong)

/-- 'colophonlaw05.ParaBounds': WHATEVER THE INPUT: true; the input reads as it did. -/
def paraBoundsSpec : ChangeSpec := { name := "paraBounds", fn := fun _ => fun
  | [d1, d2] => { results := [.lit (.bool true)], args := [d1, d2] }
  | _ => none }
def paraBoundsRow : OpenClaim := { program := "yteiljaecaahonaa", sum := "bf74da56b5747de1e05ffbc312a4788da008c7943f0bf7c766cf11cacbe14944", func := "colophon/colophonlaw05.ParaBounds", spec := "paraBounds", unfollowed := true, recurses := true, apart := false }
def ParaBoundsSaid : Prop := paraBoundsRow.holds Try.pinned (OpenSpec.ofChange paraBoundsSpec)

/-- ITS FALSE NEIGHBOUR: 'it returns false'. Refute it at one input. -/
def paraBoundsWrong : ChangeSpec := { name := "paraBounds", fn := fun _ => fun
  | [d1, d2] => { results := [.lit (.bool false)], args := [d1, d2] }
  | _ => none }
def ParaBoundsWrongFalsely : Prop := paraBoundsRow.holds Try.pinned (OpenSpec.ofChange paraBoundsWrong)

/-- 'colophonlaw05.ParaMoves': WHATEVER THE INPUT: true; the input reads as it did. -/
def paraMovesSpec : ChangeSpec := { name := "paraMoves", fn := fun _ => fun
  | [d] => { results := [.lit (.bool true)], args := [d] }
  | _ => none }
def paraMovesRow : OpenClaim := { program := "yteiljaecaahonaa", sum := "bf74da56b5747de1e05ffbc312a4788da008c7943f0bf7c766cf11cacbe14944", func := "colophon/colophonlaw05.ParaMoves", spec := "paraMoves", apart := false }
def ParaMovesSaid : Prop := paraMovesRow.holds Try.pinned (OpenSpec.ofChange paraMovesSpec)

/-- ITS FALSE NEIGHBOUR: 'it returns false'. Refute it at one input. -/
def paraMovesWrong : ChangeSpec := { name := "paraMoves", fn := fun _ => fun
  | [d] => { results := [.lit (.bool false)], args := [d] }
  | _ => none }
def ParaMovesWrongFalsely : Prop := paraMovesRow.holds Try.pinned (OpenSpec.ofChange paraMovesWrong)

/- THE SECOND FORM. 'bulk': how many values and letters a reading holds, each counted each time it is reached (what is shared counts as often as it is met; a slice's spare places count too). A statement '..UptoSaid' is the law's where the arguments, and the package variables that the reading takes, are together of bulk at most 1048576: NARROWER than '..Said'. Prove '..Said' where nothing that the law and all that it calls make is longer than what came in: it says more and counts as full. Else prove '..UptoSaid'. A law counts once. -/
mutual
def uptoBulk {H : Type} : DataW H → Nat
  | .lit (.string bytes) => bytes.length + 1
  | .lit _ => 1
  | .nil => 1
  | .ptr d => uptoBulk d + 1
  | .slice elems spare => uptoBulkAll elems + uptoBulkAll spare + 1
  | .agg parts => uptoBulkAll parts + 1
  | .iface _ d => uptoBulk d + 1
  | .map entries => uptoBulkEntries entries + 1
  | .held _ => 1
def uptoBulkAll {H : Type} : List (DataW H) → Nat
  | [] => 0
  | d :: r => uptoBulk d + uptoBulkAll r
def uptoBulkEntries {H : Type} : List (Lit × DataW H) → Nat
  | [] => 0
  | x :: r => uptoBulkEntry x + uptoBulkEntries r
def uptoBulkEntry {H : Type} : Lit × DataW H → Nat
  | (.string bytes, d) => bytes.length + uptoBulk d + 1
  | (_, d) => uptoBulk d + 1
 end
def uptoSmall : (H : Type) → List (DataW H) → Bool := fun _ ds => decide (uptoBulkAll ds ≤ 1048576)
def OpenSpec.upto (s : _root_.Go.ChangeSpec) : _root_.Go.OpenSpec := { _root_.Go.OpenSpec.ofChange s with cond := some uptoSmall }

/-- 'colophonlaw04.RopePlays', WHERE WHAT IT READS IS OF BULK AT MOST 1048576: true; the input reads as it did. -/
def ropePlaysUptoRow : OpenClaim := { program := "yteiljaecaahonaa", sum := "bf74da56b5747de1e05ffbc312a4788da008c7943f0bf7c766cf11cacbe14944", func := "colophon/colophonlaw04.RopePlays", spec := "ropePlays", unfollowed := true, recurses := true, apart := false, narrowed := true }
def RopePlaysUptoSaid : Prop := ropePlaysUptoRow.holds Try.pinned (OpenSpec.upto ropePlaysSpec)

/-- 'colophonlaw04.RopeNobody', WHERE WHAT IT READS IS OF BULK AT MOST 1048576: true; the input reads as it did. -/
def ropeNobodyUptoRow : OpenClaim := { program := "yteiljaecaahonaa", sum := "bf74da56b5747de1e05ffbc312a4788da008c7943f0bf7c766cf11cacbe14944", func := "colophon/colophonlaw04.RopeNobody", spec := "ropeNobody", unfollowed := true, recurses := true, apart := false, narrowed := true }
def RopeNobodyUptoSaid : Prop := ropeNobodyUptoRow.holds Try.pinned (OpenSpec.upto ropeNobodySpec)

/-- 'colophonlaw04.RopeBalanced', WHERE WHAT IT READS IS OF BULK AT MOST 1048576: true; the input reads as it did. -/
def ropeBalancedUptoRow : OpenClaim := { program := "yteiljaecaahonaa", sum := "bf74da56b5747de1e05ffbc312a4788da008c7943f0bf7c766cf11cacbe14944", func := "colophon/colophonlaw04.RopeBalanced", spec := "ropeBalanced", unfollowed := true, recurses := true, apart := false, narrowed := true }
def RopeBalancedUptoSaid : Prop := ropeBalancedUptoRow.holds Try.pinned (OpenSpec.upto ropeBalancedSpec)

/-- 'colophonlaw04.RopeLeaves', WHERE WHAT IT READS IS OF BULK AT MOST 1048576: true; the input reads as it did. -/
def ropeLeavesUptoRow : OpenClaim := { program := "yteiljaecaahonaa", sum := "bf74da56b5747de1e05ffbc312a4788da008c7943f0bf7c766cf11cacbe14944", func := "colophon/colophonlaw04.RopeLeaves", spec := "ropeLeaves", unfollowed := true, recurses := true, apart := false, narrowed := true }
def RopeLeavesUptoSaid : Prop := ropeLeavesUptoRow.holds Try.pinned (OpenSpec.upto ropeLeavesSpec)

/-- 'colophonlaw05.ParaBounds', WHERE WHAT IT READS IS OF BULK AT MOST 1048576: true; the input reads as it did. -/
def paraBoundsUptoRow : OpenClaim := { program := "yteiljaecaahonaa", sum := "bf74da56b5747de1e05ffbc312a4788da008c7943f0bf7c766cf11cacbe14944", func := "colophon/colophonlaw05.ParaBounds", spec := "paraBounds", unfollowed := true, recurses := true, apart := false, narrowed := true }
def ParaBoundsUptoSaid : Prop := paraBoundsUptoRow.holds Try.pinned (OpenSpec.upto paraBoundsSpec)

/-- 'colophonlaw05.ParaMoves', WHERE WHAT IT READS IS OF BULK AT MOST 1048576: true; the input reads as it did. -/
def paraMovesUptoRow : OpenClaim := { program := "yteiljaecaahonaa", sum := "bf74da56b5747de1e05ffbc312a4788da008c7943f0bf7c766cf11cacbe14944", func := "colophon/colophonlaw05.ParaMoves", spec := "paraMoves", apart := false, narrowed := true }
def ParaMovesUptoSaid : Prop := paraMovesUptoRow.holds Try.pinned (OpenSpec.upto paraMovesSpec)

end Rows
end Go.Proofs.Yteiljaecaahonaa
