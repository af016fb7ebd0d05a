/- A new row that a call makes and fills place by place: of whatever integers. -/
import Derived.Test.YthhfgcpflclflaaOwn
namespace Go.Proofs.Ythhfgcpflclflaa
open Go.RowKit
set_option linter.unusedVariables false
set_option maxHeartbeats 1000000
set_option maxRecDepth 100000
/-- The first k of n places have their values, the others 0. -/
def FL (f : Nat → Int) (n k : Nat) : List Int := (List.range n).map fun i => if i < k then f i else 0
theorem FL_len (f : Nat → Int) (n k : Nat) : (FL f n k).length = n := by simp [FL]
theorem FL_zero (f : Nat → Int) (n : Nat) : FL f n 0 = List.replicate n 0 := by
  refine List.ext_getElem (by simp [FL]) fun i h1 h2 => ?_
  simp [FL]
theorem FL_set (f : Nat → Int) (n k : Nat) : (FL f n k).set k (f k) = FL f n (k + 1) := by
  refine List.ext_getElem (by simp [FL]) fun i h1 h2 => ?_
  simp only [List.length_set, FL_len] at h1
  rw [List.getElem_set]
  simp only [FL, List.getElem_map, List.getElem_range]
  by_cases h : k = i
  · subst h; simp
  · rw [if_neg h]
    by_cases hlt : i < k
    · rw [if_pos hlt, if_pos (by omega)]
    · rw [if_neg hlt, if_neg (by omega)]
theorem FL_end (f : Nat → Int) (n : Nat) : FL f n n = (List.range n).map f := by
  unfold FL
  refine List.map_congr_left fun i hi => ?_
  rw [if_pos (List.mem_range.1 hi)]
/-- A row at the first new block. -/
structure NR (k : IntKind) (e : TypeId) (w : World) (n : Nat) (zs : List Int) (wr : World) : Prop where
  own : wr.ownsRow w.heap.size e 1 (.slice (some ⟨w.heap.size, 0, none⟩) n n) n (zs.map (Value.int k))
  bel : Below w.heap.size w wr
section
variable {k : IntKind} {e : TypeId} {w wr : World} {n : Nat} {zs : List Int}
theorem NR.set (h : NR k e w n zs wr) (j : Nat) (y : Int) : NR k e w n (zs.set j y) (wr.setCell ⟨w.heap.size, j, none⟩ (.int k y)) :=
  ⟨owns_set h.own j y, h.bel.setCell (p := ⟨w.heap.size, j, none⟩) (Nat.le_refl _) _⟩
theorem NR.keep (h : NR k e w n zs wr) {w2 : World} (hb : KO wr w2) : NR k e w n zs w2 := ⟨owns_below h.own hb, KO.on h.bel hb⟩
theorem NR.drewN (h : NR k e w n zs wr) (q : Nat) : NR k e w n zs (wr.drewN q) := h.keep (below_drewN wr q)
theorem NR.cell (h : NR k e w n zs wr) {j : Nat} (hj : j < n) : wr.cell? ⟨w.heap.size, j, none⟩ = some (.int k (zs.getD j 0)) := owns_cell h.own j hj
theorem NR.fz (h : NR k e w n zs wr) (j : Nat) : wr.frozen? ⟨w.heap.size, j, none⟩ = false := h.own.frozenAt j
theorem NR.row (h : NR k e w n zs wr) : Row k wr (some ⟨w.heap.size, 0, none⟩) n n zs := by
  obtain ⟨ao, c, e1, hr⟩ := row_of_owns h.own
  simp only [Value.slice.injEq] at e1
  obtain ⟨rfl, _, rfl⟩ := e1
  exact hr
/-- As make leaves it. -/
theorem NR.made (hown : wr.ownsRow w.heap.size e 1 (.slice (some ⟨w.heap.size, 0, none⟩) n n) n (madeCells #[.int k 0] n).toList) (hb : Below w.heap.size w wr) (f : Nat → Int) : NR k e w n (FL f n 0) wr := by
  refine ⟨?_, hb⟩
  have e2 : (madeCells #[Value.int k 0] n).toList = (FL f n 0).map (Value.int k) := by
    rw [FL_zero]
    simp [toList_madeCells_one]
  rw [← e2]
  exact hown
end
end Go.Proofs.Ythhfgcpflclflaa
