/- The contract of ucd.Ranges: a new slice of all the rows. -/
import Derived.Test.YtchpdokjalbpnaaDoorRows
import Derived.Test.YtchpdokjalbpnaaDoorUc
import Derived.Test.YtchpdokjalbpnaaDoorArgs
import Derived.Test.YtchpdokjalbpnaaDoorTab
import Derived.Test.YtchpdokjalbpnaaDoorCls
import Derived.WalkKit
import Derived.WalkSpells
import Derived.WalkLawsBesides
import Derived.Outline
namespace Go.Proofs.YtchpdokjalbpnaaDoor
open Go.RowKit
set_option linter.unusedVariables false
set_option maxHeartbeats 1000000
set_option maxRecDepth 100000
/-- Some cells of a row, replaced. -/
def segset : Array Value → Nat → List Value → Array Value
  | cur, _, [] => cur
  | cur, k, v :: vs => segset (cur.setIfInBounds k v) (k + 1) vs
theorem segset_size : ∀ (vs : List Value) (cur : Array Value) (k : Nat), (segset cur k vs).size = cur.size
  | [], _, _ => rfl
  | v :: vs, cur, k => by rw [segset, segset_size vs]; simp
theorem segset_low : ∀ (vs : List Value) (cur : Array Value) (k j : Nat), j < k → (segset cur k vs)[j]? = cur[j]?
  | [], _, _, _, _ => rfl
  | v :: vs, cur, k, j, h => by rw [segset, segset_low vs _ _ _ (by omega), Array.getElem?_setIfInBounds, if_neg (by omega)]
theorem segset_high : ∀ (vs : List Value) (cur : Array Value) (k j : Nat), k + vs.length ≤ j → (segset cur k vs)[j]? = cur[j]?
  | [], _, _, _, _ => rfl
  | v :: vs, cur, k, j, h => by
    simp only [List.length_cons] at h
    rw [segset, segset_high vs _ _ _ (by omega), Array.getElem?_setIfInBounds, if_neg (by omega)]
theorem segset_in : ∀ (vs : List Value) (cur : Array Value) (k j : Nat), j < vs.length → k + vs.length ≤ cur.size → (segset cur k vs)[k + j]? = vs[j]?
  | [], _, _, _, h, _ => by simp at h
  | v :: vs, cur, k, 0, _, hs => by
    simp only [List.length_cons] at hs
    rw [segset, segset_low vs _ _ _ (by omega), Nat.add_zero, Array.getElem?_setIfInBounds, if_pos rfl, if_pos (by omega)]
    rfl
  | v :: vs, cur, k, j + 1, h, hs => by
    simp only [List.length_cons] at h hs
    rw [segset, show k + (j + 1) = k + 1 + j from by omega, segset_in vs _ _ _ (by omega) (by simp; omega)]
    rfl
theorem setRow_self {w : World} {g : Nat} {cur : Array Value} {t : TypeId} {fr : Nat × Nat} (hg : w.heap[g]? = some (.cells cur t fr)) : w.setRow g cur = w := by
  have hlt : g < w.heap.size := (Array.getElem?_eq_some_iff.1 hg).1
  have hv : w.heap[g] = .cells cur t fr := (Array.getElem?_eq_some_iff.1 hg).2
  unfold World.setRow
  cases w with
  | mk heap tape drawn os output =>
    congr 1
    apply Array.ext
    · simp
    · intro k h1 h2
      simp only [Array.getElem_modify]
      split
      · rename_i hk; subst hk; simp at hv; simp [hv]
      · rfl
theorem run_storeCells_seg {P : Program} (g off : Nat) (t : TypeId) : ∀ (vs : List Value) (i : Nat) (cur : Array Value) (w : World), w.heap[g]? = some (.cells cur t (0, 0)) → off + i + vs.length ≤ cur.size → (∀ v ∈ vs, v.oneCell' = true) →
    (storeCells ⟨g, off, none⟩ vs i).run P w = .ok () (w.setRow g (segset cur (off + i) vs))
  | [], i, cur, w, hg, hl, _ => by
    simp only [storeCells, segset, setRow_self hg]
    rfl
  | v :: rest, i, cur, w, hg, hl, h1 => by
    have hi : off + i < cur.size := by simp at hl; omega
    have hadd : (⟨g, off, none⟩ : Addr).add i = ⟨g, off + i, none⟩ := by unfold Addr.add; split <;> simp_all
    have hcell : w.cell? ⟨g, off + i, none⟩ = some cur[off + i] := by simp [World.cell?, hg, hi]
    have hfro : w.frozen? ⟨g, off + i, none⟩ = false := by simp [World.frozen?, hg]
    have hst : (store ((⟨g, off, none⟩ : Addr).add i) v).run P w = .ok () (w.setRow g (cur.setIfInBounds (off + i) v)) := by
      rw [hadd, run_store P w _ v _ (h1 v (by simp)), hcell]
      simp [hfro, setCell_eq_setRow w g (off + i) cur t (0, 0) v hg]
    have ih := run_storeCells_seg (P := P) g off t rest (i + 1) (cur.setIfInBounds (off + i) v) (w.setRow g (cur.setIfInBounds (off + i) v)) (setRow_heap w g cur _ t _ hg) (by simp at hl ⊢; omega) (fun x hx => h1 x (by simp [hx]))
    simp only [storeCells, Sem.run_bind, hst, Result.andThen_ok, ih, setRow_setRow, segset]
    rfl
/-- A value of several cells goes into a row, at a place. -/
theorem wpList_store_seg {P : Program} {ops : Array Oper} {rest : List Oper} {o : Oper} {a : Act} {w : World} {Q : Exit → Act → World → Prop} (hgd : o.guard = none) (ty : TypeId) (x y : Operand) (ho : o.op = .store ty x y)
    (hd : o.dst = none) (g off : Nat) (cells : Array Value) (hx : a.eval x = .pointer (some ⟨g, off, none⟩)) (hy : a.eval y = .agg cells)
    (t : TypeId) (cur : Array Value) (hg : w.heap[g]? = some (.cells cur t (0, 0))) (hi : (P.info? ty).map (·.size) = some cells.size)
    (hold : off + cells.size ≤ cur.size) (h1 : cells.all (·.oneCell') = true)
    (h : wpList P ops Q rest a (w.setRow g (segset cur off cells.toList))) : wpList P ops Q (o :: rest) a w := by
  refine wpList_plain hgd fun K hK => ?_
  have hr := run_storeCells_seg (P := P) g off t cells.toList 0 cur w hg (by simpa using hold) (fun v hv => (Array.all_eq_true_iff_forall_mem.1 h1) v (by simpa using hv))
  have hrun : (storeVar ty ⟨g, off, none⟩ (.agg cells)).run P w = .ok () (w.setRow g (segset cur off cells.toList)) := by
    cases hq : P.info? ty with
    | none => simp [hq] at hi
    | some i =>
      have hs : cells.size = i.size := by simp [hq] at hi; omega
      simpa [storeVar, sizeOf, typeInfo, hq, Value.cells, hs] using hr
  unfold Oper.wp execOp
  simp only [ho, hx, hy, Instr.storeAt, Instr.sureAddr, Sem.run_bind, Sem.run_pure, Result.andThen_ok, hrun]
  exact hK _ _ (by rw [hd]; exact h)
theorem below_setRow {B : Nat} {w w' : World} (h : Below B w w') {g : Nat} (hg : B ≤ g) (cs : Array Value) : Below B w (w'.setRow g cs) :=
  ⟨h.os, h.tape, h.output, by rw [setRow_size]; exact h.size, fun i hi => by rw [setRow_other _ _ _ _ (by omega)]; exact h.block i hi⟩
theorem alloc_old (w : World) (o : Obj) {b : Nat} (h : b < w.heap.size) : (w.alloc o).heap[b]? = w.heap[b]? := by
  show (w.heap.push o)[b]? = w.heap[b]?
  rw [Array.getElem?_push, if_neg (Nat.ne_of_lt h)]
end Go.Proofs.YtchpdokjalbpnaaDoor
