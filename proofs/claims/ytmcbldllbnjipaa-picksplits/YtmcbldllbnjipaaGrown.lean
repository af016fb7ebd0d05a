/- A row of ints that grows by one append a round. -/
import Derived.Test.YtmcbldllbnjipaaInts
namespace Go.Proofs.Ytmcbldllbnjipaa
open Go.RowKit
set_option linter.unusedVariables false
/-- A row that grows by one append a round. -/
structure RG (w : World) (zs : List Int) (k : Nat) (sv : Value) (wr : World) : Prop where
  own : wr.ownsRow w.heap.size 3 1 sv k (zs.map (Value.int .i64))
  bel : Below w.heap.size w wr
theorem RG.snoc {w : World} {zs ys : List Int} {k : Nat} {x : Int} {v2 : Value} {wr w2 : World} {o : Obj} (hw : Below w.heap.size w wr) (hb : Below w.heap.size (wr.alloc o) w2) (ho : w2.ownsRow w.heap.size 3 1 v2 (k + 1) (zs.map (Value.int .i64) ++ [x].map (Value.int .i64))) (hy : ys = zs ++ [x]) : RG w ys (k + 1) v2 w2 :=
  ⟨by rw [hy, List.map_append]; exact ho, Below.trans (Below.alloc hw hw.size _) hb⟩
theorem RG.snoc2 {w : World} {zs ys : List Int} {k : Nat} {x : Int} {v2 : Value} {X w2 : World} (hw : Below w.heap.size w X) (hb : Below w.heap.size X w2) (ho : w2.ownsRow w.heap.size 3 1 v2 (k + 1) (zs.map (Value.int .i64) ++ [x].map (Value.int .i64))) (hy : ys = zs ++ [x]) : RG w ys (k + 1) v2 w2 :=
  ⟨by rw [hy, List.map_append]; exact ho, Below.trans hw hb⟩
end Go.Proofs.Ytmcbldllbnjipaa
