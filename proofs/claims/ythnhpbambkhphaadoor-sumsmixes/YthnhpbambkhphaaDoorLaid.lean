/- The table of halves as the row lists it, and a world in which it lies so. -/
import Derived.Test.YthnhpbambkhphaaDoorCards
import Derived.Test.YthnhpbambkhphaaDoorTie
import Derived.Test.YthnhpbambkhphaaDoorLeaf
import Derived.WalkKit
import Derived.ProofKit
import Derived.OpenShut
import Derived.Deep.DeepHandedRow
import Derived.Lib.LaidTab
namespace Go.Proofs.YthnhpbambkhphaaDoor
open Go.ChangeShapes Go.WideShapes Go.ChangeAt Go.RowKit
theorem gTab : Tryd.prog.globalNamed "colophon/sums.halves" = some 0 := by kernel_rfl
theorem gTabType : (Tryd.prog.globals[0]?).map (·.type) = some 43 := by kernel_rfl
theorem cellsTab : Tryd.prog.cellsOf 43 = 16 := by kernel_rfl
theorem cellsU32 : Tryd.prog.cellsOf 24 = 1 := by kernel_rfl
theorem tab_of {W : World} (h : laidMetH Tryd.prog [("colophon/sums.halves", Rows.laid_colophon_sums_halves)] W) : Tab W := by
  have ht : Lib.TabIs Tryd.prog W "colophon/sums.halves" .u32 Sums.tab :=
    Lib.tabIs_of_head (rest := []) gTab gTabType Tryd.underlying43 Tryd.underlying24 cellsU32 cellsTab h
  intro i hi
  exact ht.cell gTab i (by exact hi)
def laidOf (w : World) : World :=
  { w with heap := w.heap.modify 0 fun
      | .cells _ t frozen => .cells (Sums.tab.map (Value.int .u32)).toArray t frozen
      | o => o }
end Go.Proofs.YthnhpbambkhphaaDoor
