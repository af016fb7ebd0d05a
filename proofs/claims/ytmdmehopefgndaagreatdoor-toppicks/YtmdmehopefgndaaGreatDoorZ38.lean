import Derived.Test.YtmdmehopefgndaaGreatDoorCards
import Derived.Test.YtmdmehopefgndaaGreatDoorTie
import Derived.Test.YtmdmehopefgndaaGreatDoorZ20
import Derived.WalkKit
import Derived.ProofKit
import Derived.OpenShut
import Derived.Deep.DeepHandedRow
import Derived.Lib.LaidTab
/- The two listed tables as the rows list them, and a world in which they lie so. -/
namespace Go.Proofs.YtmdmehopefgndaaGreatDoor
open Go.ChangeShapes Go.WideShapes Go.ChangeAt Go.RowKit
def pairData {H : Type} (l : List (Int × Int)) : DataW H := .agg (l.map fun p => .agg [.lit (.int .i32 p.1), .lit (.int .i32 p.2)])
theorem cells_of_pairs {H : Type} {enc : TypeId × Value → H} {P : Program} {w : World} {base : Nat} {sp : Nat → Bool} {held : Bool} {fuel : Nat} {t e i : TypeId} {n : Nat} {cs : List Value} {l : List (Int × Int)} {p : List MemPlace}
    (ht : P.underlying t = some (.array n e)) (he : P.underlying e = some (.array 2 i)) (hi : P.underlying i = some (.int .i32)) (hci : P.cellsOf i = 1) (hce : P.cellsOf e = 2) (hct : P.cellsOf t = n * 2)
    (h : DataW.trod enc P w base sp held fuel t cs = some (pairData l, p)) : cs = (Ucd.flat2 l).map (Value.int .i32) := by
  cases fuel with
  | zero => simp [DataW.trod] at h
  | succ fuel =>
    simp only [DataW.trod, ht, hce, hct] at h
    split at h
    · rename_i hl
      obtain ⟨xs, hm, hx⟩ := Option.map_eq_some_iff.1 h
      have hxs : xs.map (·.1) = l.map fun p => (DataW.agg [.lit (.int .i32 p.1), .lit (.int .i32 p.2)] : DataW H) := by
        have := congrArg Prod.fst hx
        simpa [pairData] using this
      have hxl : xs.length = n := by simpa using Lib.mapM_length hm
      have hzl : l.length = n := by
        have := congrArg List.length hxs
        simp at this
        omega
      have hcl : cs.length = n * 2 := hl
      have key : ∀ k, k < n → (cs.drop (k * 2)).take 2 = [.int .i32 (l.getD k (0, 0)).1, .int .i32 (l.getD k (0, 0)).2] := by
        intro k hk
        obtain ⟨b, hb, hf⟩ := Lib.mapM_at hm k k (by simp [hk])
        have h2 : (xs.map (·.1))[k]? = some b.1 := by simp [hb]
        rw [hxs] at h2
        have hkl : k < l.length := by omega
        have e0 : l.getD k (0, 0) = l[k] := by simp [List.getD, List.getElem?_eq_getElem hkl]
        simp only [List.getElem?_map, List.getElem?_eq_getElem hkl, Option.map_some, Option.some.injEq] at h2
        obtain ⟨b1, b2⟩ := b
        simp only at h2
        subst h2
        have := Lib.cells_of_tab (zs := [l[k].1, l[k].2]) he hi hci hce hf
        rw [e0]
        exact this
      apply List.ext_getElem?
      intro j
      by_cases hj : j < n * 2
      · have hk : j / 2 < n := by omega
        have e := key (j / 2) hk
        obtain ⟨q0, q1⟩ := pair_at l (j / 2) (by omega)
        have e1 : ∀ m, m < 2 → cs[j / 2 * 2 + m]? = ([.int .i32 (l.getD (j / 2) (0, 0)).1, .int .i32 (l.getD (j / 2) (0, 0)).2] : List Value)[m]? := fun m hm => by
          rw [← e, List.getElem?_take_of_lt hm, List.getElem?_drop]
        rcases Nat.mod_two_eq_zero_or_one j with h0 | h0
        · have ej : j = j / 2 * 2 + 0 := by omega
          rw [ej, e1 0 (by omega), List.getElem?_map, Nat.add_zero]
          rw [q0]
          rfl
        · have ej : j = j / 2 * 2 + 1 := by omega
          rw [ej, e1 1 (by omega), List.getElem?_map]
          rw [q1]
          rfl
      · have hfl : ((Ucd.flat2 l).map (Value.int .i32)).length = n * 2 := by
          have := pair_size l
          simpa [pairCells, hzl] using this
        rw [List.getElem?_eq_none (by omega), List.getElem?_eq_none (by omega)]
    · cases h
theorem var_of {P : Program} {W : World} {name : String} {g : Nat} {cs : Array Value} (hg : P.globalNamed name = some g) (hv : W.var? P name = some cs) (i : Nat) : W.cell? ⟨g, i, none⟩ = cs[i]? := World.var?_cell hg hv i
theorem gB : Tryz.prog.globalNamed "colophon/ucd.brackets" = some 1 := by kernel_rfl
theorem gM : Tryz.prog.globalNamed "colophon/ucd.mirrored" = some 0 := by kernel_rfl
theorem tB : (Tryz.prog.globals[1]?).map (·.type) = some 124 := by kernel_rfl
theorem tM : (Tryz.prog.globals[0]?).map (·.type) = some 79 := by kernel_rfl
theorem cB : Tryz.prog.cellsOf 124 = 21 * 2 := by kernel_rfl
theorem cM : Tryz.prog.cellsOf 79 = 10 * 2 := by kernel_rfl
theorem cP : Tryz.prog.cellsOf 78 = 2 := by kernel_rfl
theorem cI : Tryz.prog.cellsOf 21 = 1 := by kernel_rfl
theorem tab_of {W : World} (h : laidMetH Tryz.prog [("colophon/ucd.brackets", Rows.laid_colophon_ucd_brackets), ("colophon/ucd.mirrored", Rows.laid_colophon_ucd_mirrored)] W) : Marks W := by
  have h' : laidMet Tryz.prog [("colophon/ucd.brackets", Rows.laid_colophon_ucd_brackets), ("colophon/ucd.mirrored", Rows.laid_colophon_ucd_mirrored)] W := h
  obtain ⟨ps, ⟨g, t, cs, fuel, p, q, hg, ht, hvar, hd, ⟨g2, t2, cs2, fuel2, p2, q2, hg2, ht2, hvar2, hd2, _, _⟩, _⟩, _⟩ := h'
  obtain rfl := Option.some.inj (gB.symm.trans hg)
  obtain rfl := Option.some.inj (tB.symm.trans ht)
  obtain rfl := Option.some.inj (gM.symm.trans hg2)
  obtain rfl := Option.some.inj (tM.symm.trans ht2)
  have e1 := cells_of_pairs (l := Ucd.brackets) Tryz.underlying124 Tryz.underlying78 Tryz.underlying21 cI cP cB hd
  have e2 := cells_of_pairs (l := Ucd.mirrored) Tryz.underlying79 Tryz.underlying78 Tryz.underlying21 cI cP cM hd2
  refine ⟨fun i hi => ?_, fun i hi => ?_⟩
  · rw [var_of gM hvar2 i, pairCells, ← e2, Array.toArray_toList]
  · rw [var_of gB hvar i, pairCells, ← e1, Array.toArray_toList]
def laidOf (w : World) : World :=
  { w with heap := (w.heap.modify 0 fun
      | .cells _ t frozen => .cells (pairCells Ucd.mirrored) t frozen
      | o => o).modify 1 fun
      | .cells _ t frozen => .cells (pairCells Ucd.brackets) t frozen
      | o => o }
end Go.Proofs.YtmdmehopefgndaaGreatDoor
