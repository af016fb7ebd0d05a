/- The contract of ucd.Ranges: a new slice of all the rows. -/
import Derived.Test.YtpndmjenpmefmaaDoorRows
import Derived.Test.YtpndmjenpmefmaaDoorUc
import Derived.Test.YtpndmjenpmefmaaDoorArgs
import Derived.Test.YtpndmjenpmefmaaDoorTab
import Derived.Test.YtpndmjenpmefmaaDoorCls
import Derived.WalkKit
import Derived.WalkSpells
import Derived.WalkLawsBesides
import Derived.Outline
namespace Go.Proofs.YtpndmjenpmefmaaDoor
open Go.RowKit
set_option linter.unusedVariables false
set_option maxHeartbeats 1000000
set_option maxRecDepth 100000
/-- Some cells of a row, replaced. -/
def segset : Array Value → Nat → List Value → Array Value
  | cur, _, [] => cur
  | cur, k, v :: vs => segset (cur.setIfInBounds k v) (k + 1) vs
theorem segset_size : ∀ (vs : List Value) (cur : Array Value) (k : Nat), (segset cur k vs).size = cur.size
  | [], _, _ => rfl
  | v :: vs, cur, k => by rw [segset, segset_size vs]; simp
theorem segset_low : ∀ (vs : List Value) (cur : Array Value) (k j : Nat), j < k → (segset cur k vs)[j]? = cur[j]?
  | [], _, _, _, _ => rfl
  | v :: vs, cur, k, j, h => by rw [segset, segset_low vs _ _ _ (by omega), Array.getElem?_setIfInBounds, if_neg (by omega)]
theorem segset_high : ∀ (vs : List Value) (cur : Array Value) (k j : Nat), k + vs.length ≤ j → (segset cur k vs)[j]? = cur[j]?
  | [], _, _, _, _ => rfl
  | v :: vs, cur, k, j, h => by
    simp only [List.length_cons] at h
    rw [segset, segset_high vs _ _ _ (by omega), Array.getElem?_setIfInBounds, if_neg (by omega)]
theorem segset_in : ∀ (vs : List Value) (cur : Array Value) (k j : Nat), j < vs.length → k + vs.length ≤ cur.size → (segset cur k vs)[k + j]? = vs[j]?
  | [], _, _, _, h, _ => by simp at h
  | v :: vs, cur, k, 0, _, hs => by
    simp only [List.length_cons] at hs
    rw [segset, segset_low vs _ _ _ (by omega), Nat.add_zero, Array.getElem?_setIfInBounds, if_pos rfl, if_pos (by omega)]
    rfl
  | v :: vs, cur, k, j + 1, h, hs => by
    simp only [List.length_cons] at h hs
    rw [segset, show k + (j + 1) = k + 1 + j from by omega, segset_in vs _ _ _ (by omega) (by simp; omega)]
    rfl
theorem setRow_self {w : World} {g : Nat} {cur : Array Value} {t : TypeId} {fr : Nat × Nat} (hg : w.heap[g]? = some (.cells cur t fr)) : w.setRow g cur = w := by
  have hlt : g < w.heap.size := (Array.getElem?_eq_some_iff.1 hg).1
  have hv : w.heap[g] = .cells cur t fr := (Array.getElem?_eq_some_iff.1 hg).2
  unfold World.setRow
  cases w with
  | mk heap tape drawn os output =>
    congr 1
    apply Array.ext
    · simp
    · intro k h1 h2
      simp only [Array.getElem_modify]
      split
      · rename_i hk; subst hk; simp at hv; simp [hv]
      · rfl
theorem run_storeCells_seg {P : Program} (g off : Nat) (t : TypeId) : ∀ (vs : List Value) (i : Nat) (cur : Array Value) (w : World), w.heap[g]? = some (.cells cur t (0, 0)) → off + i + vs.length ≤ cur.size → (∀ v ∈ vs, v.oneCell' = true) →
    (storeCells ⟨g, off, none⟩ vs i).run P w = .ok () (w.setRow g (segset cur (off + i) vs))
  | [], i, cur, w, hg, hl, _ => by
    simp only [storeCells, segset, setRow_self hg]
    rfl
  | v :: rest, i, cur, w, hg, hl, h1 => by
    have hi : off + i < cur.size := by simp at hl; omega
    have hadd : (⟨g, off, none⟩ : Addr).add i = ⟨g, off + i, none⟩ := by unfold Addr.add; split <;> simp_all
    have hcell : w.cell? ⟨g, off + i, none⟩ = some cur[off + i] := by simp [World.cell?, hg, hi]
    have hfro : w.frozen? ⟨g, off + i, none⟩ = false := by simp [World.frozen?, hg]
    have hst : (store ((⟨g, off, none⟩ : Addr).add i) v).run P w = .ok () (w.setRow g (cur.setIfInBounds (off + i) v)) := by
      rw [hadd, run_store P w _ v _ (h1 v (by simp)), hcell]
      simp [hfro, setCell_eq_setRow w g (off + i) cur t (0, 0) v hg]
    have ih := run_storeCells_seg (P := P) g off t rest (i + 1) (cur.setIfInBounds (off + i) v) (w.setRow g (cur.setIfInBounds (off + i) v)) (setRow_heap w g cur _ t _ hg) (by simp at hl ⊢; omega) (fun x hx => h1 x (by simp [hx]))
    simp only [storeCells, Sem.run_bind, hst, Result.andThen_ok, ih, setRow_setRow, segset]
    rfl
/-- A value of several cells goes into a row, at a place. -/
theorem wpList_store_seg {P : Program} {ops : Array Oper} {rest : List Oper} {o : Oper} {a : Act} {w : World} {Q : Exit → Act → World → Prop} (hgd : o.guard = none) (ty : TypeId) (x y : Operand) (ho : o.op = .store ty x y)
    (hd : o.dst = none) (g off : Nat) (cells : Array Value) (hx : a.eval x = .pointer (some ⟨g, off, none⟩)) (hy : a.eval y = .agg cells)
    (t : TypeId) (cur : Array Value) (hg : w.heap[g]? = some (.cells cur t (0, 0))) (hi : (P.info? ty).map (·.size) = some cells.size)
    (hold : off + cells.size ≤ cur.size) (h1 : cells.all (·.oneCell') = true)
    (h : wpList P ops Q rest a (w.setRow g (segset cur off cells.toList))) : wpList P ops Q (o :: rest) a w := by
  refine wpList_plain hgd fun K hK => ?_
  have hr := run_storeCells_seg (P := P) g off t cells.toList 0 cur w hg (by simpa using hold) (fun v hv => (Array.all_eq_true_iff_forall_mem.1 h1) v (by simpa using hv))
  have hrun : (storeVar ty ⟨g, off, none⟩ (.agg cells)).run P w = .ok () (w.setRow g (segset cur off cells.toList)) := by
    cases hq : P.info? ty with
    | none => simp [hq] at hi
    | some i =>
      have hs : cells.size = i.size := by simp [hq] at hi; omega
      simpa [storeVar, sizeOf, typeInfo, hq, Value.cells, hs] using hr
  unfold Oper.wp execOp
  simp only [ho, hx, hy, Instr.storeAt, Instr.sureAddr, Sem.run_bind, Sem.run_pure, Result.andThen_ok, hrun]
  exact hK _ _ (by rw [hd]; exact h)
theorem extract_row {i : Nat} (hi : i < 147) : tableCells.extract (i * 3) (i * 3 + 3) = #[.int .i32 (Ucd.lo Ucd.rows i), .int .i32 (Ucd.hi Ucd.rows i), .int .i64 (Ucd.cl Ucd.rows i)] := by
  apply Array.ext_getElem?
  intro j
  rw [Array.getElem?_extract]
  by_cases hj : j < 3
  · rw [if_pos (by rw [tableSize]; omega), tableCells, List.getElem?_toArray, Ucd.flat_at rowCells (fun _ => rfl) Ucd.rows i j (by rw [Ucd.rows_len]; exact hi) hj]
    match j, hj with
    | 0, _ => rfl
    | 1, _ => rfl
    | 2, _ => rfl
  · rw [if_neg (by rw [tableSize]; omega)]
    simp
    omega
theorem rowInfo : (Tryd.prog.info? 43).map (·.size) = some 3 := by kernel_rfl
theorem rangeInfo : (Tryd.prog.info? 32).map (·.size) = some 3 := by kernel_rfl
theorem run_index_tab (w : World) {i : Nat} (hi : i < 147) : (Instr.index 44 (.agg tableCells) (.int .i64 (i : Int))).run Tryd.prog w = .ok (.agg #[.int .i32 (Ucd.lo Ucd.rows i), .int .i32 (Ucd.hi Ucd.rows i), .int .i64 (Ucd.cl Ucd.rows i)]) w := by
  have h1 : (0 : Int) ≤ (i : Int) ∧ (i : Int) < ((147 : Nat) : Int) := by omega
  have hs : (sizeOf 43).run Tryd.prog w = .ok 3 w := by
    have := rowInfo
    cases hq : Tryd.prog.info? 43 with
    | none => rw [hq] at this; cases this
    | some ie => rw [hq] at this; simp at this; simp [sizeOf, typeInfo, hq, this]
  have hag : (isAgg 43).run Tryd.prog w = .ok true w := by
    unfold isAgg
    rw [Sem.run_bind, run_underlying Tryd.underlying43 w]
    rfl
  simp only [Instr.index, asIntOf, Sem.run_bind, Sem.run_pure, Result.andThen_ok, run_underlying Tryd.underlying44]
  rw [if_pos h1]
  simp only [Sem.run_bind, hs, Result.andThen_ok, Int.toNat_natCast, part, hag, if_true, Sem.run_pure, extract_row hi]
theorem below_setRow {B : Nat} {w w' : World} (h : Below B w w') {g : Nat} (hg : B ≤ g) (cs : Array Value) : Below B w (w'.setRow g cs) :=
  ⟨h.os, h.tape, h.output, by rw [setRow_size]; exact h.size, fun i hi => by rw [setRow_other _ _ _ _ (by omega)]; exact h.block i hi⟩
theorem alloc_old (w : World) (o : Obj) {b : Nat} (h : b < w.heap.size) : (w.alloc o).heap[b]? = w.heap[b]? := by
  show (w.heap.push o)[b]? = w.heap[b]?
  rw [Array.getElem?_push, if_neg (Nat.ne_of_lt h)]
theorem made_ranges : ∃ cur : Array Value, cur.size = 441 ∧ ∀ W : World, (Instr.makeSlice 28 (.int .i64 147) (.int .i64 147)).run Tryd.prog W = .ok (.slice (some ⟨W.heap.size, 0, none⟩) 147 147) (W.alloc (.cells cur 32)) := by
  have hq : (Tryd.prog.info? 32).map (fun i => (i.zero, i.size, i.bytes)) = some (some (.agg #[.int .i32 0, .int .i32 0, .int .i64 0]), 3, 16) := by kernel_rfl
  cases hi : Tryd.prog.info? 32 with
  | none => rw [hi] at hq; cases hq
  | some ie =>
    rw [hi] at hq
    simp only [Option.map_some, Option.some.injEq, Prod.mk.injEq] at hq
    refine ⟨_, ?_, fun W => run_makeSlice (P := Tryd.prog) W 28 32 ie _ Tryd.underlying28 hi hq.1 .i64 .i64 147 147 (by omega) (by omega) (by rw [hq.2.1]; decide) (by rw [hq.2.2]; decide) (by omega)⟩
    rw [size_madeCells, hq.2.1]
    rfl
theorem three_info {P : Program} {t : TypeId} (h : (P.info? t).map (·.size) = some 3) (x y z : Value) : (P.info? t).map (·.size) = some (#[x, y, z] : Array Value).size := h
theorem three_one (x y z : Int) : (#[.int .i32 x, .int .i32 y, .int .i64 z] : Array Value).all (·.oneCell') = true := by simp [Value.oneCell']
theorem ranges3_any (w : World) : Calls Tryd.prog 13 #[] w fun e w' => ∃ b, e = .returned (.slice (some ⟨b, 0, none⟩) 147 147) ∧ Below w.heap.size w w' ∧ w.heap.size ≤ b ∧ w'.heap[b]? = some (.cells tableCells 32 (0, 0)) := by
  have hz := (zero_of_info tableInfo).1
  obtain ⟨cur0, hcs, hmk⟩ := made_ranges
  go_enter Tryd.func13, Tryd.ntmps13
  go_wp2_with fail
  refine (table_any w).mono ?_
  rintro e w2 ⟨rfl, hb2⟩
  go_wp2_with (first
    | (refine wpList_store_new w2 rfl 44 _ _ rfl rfl zeroCells tableCells rfl rfl tableInfo' (by rw [zeroSize, tableSize]) tableOne ?_)
    | (refine wpList_load_row rfl 44 _ rfl w2.heap.size rfl 44 tableCells (0, 0) _ (heap_alloc2_old w2 _ _) Tryd.underlying44 rfl tableInfo' ?_))
  have hb4 : Below w.heap.size w ((w2.alloc (.cells tableCells 44)).alloc (.cells cur0 32)) := ((hb2.alloc hb2.size _).alloc (by simp; have := hb2.size; omega) _)
  have hg4 : ((w2.alloc (.cells tableCells 44)).alloc (.cells cur0 32)).heap[w2.heap.size + 1]? = some (.cells cur0 32 (0, 0)) := heap_alloc2_new w2 _ _
  have hle : w.heap.size ≤ w2.heap.size + 1 := by have := hb2.size; omega
  clear hmk hz hb2
  generalize hB : w2.heap.size + 1 = b at *
  have hix := @run_index_tab
  generalize (w2.alloc (.cells tableCells 44)).alloc (.cells cur0 32) = W4 at *
  clear hB
  go_loopw [8] (fun s8 wr => ∃ i : Nat, s8 = .int .i64 i ∧ i ≤ 147 ∧ Below w.heap.size w wr ∧ ∃ cur, wr.heap[b]? = some (.cells cur 32 (0, 0)) ∧ cur.size = 441 ∧ Hid (∀ j, j < i * 3 → cur[j]? = tableCells[j]?)) (fun s8 _ => (147 - intOf s8).toNat)
  case atStart => exact ⟨0, rfl, by omega, hb4, cur0, hg4, hcs, hide fun j hj => by omega⟩
  case round =>
    obtain ⟨i, rfl, hi, hb, cur, hg, hsz, HI⟩ := hrel
    have hlt : b < wr.heap.size := (Array.getElem?_eq_some_iff.1 hg).1
    by_cases hi2 : i < 147
    · have hx := run_index_tab wr hi2
      have hgA : ∀ o : Obj, (wr.alloc o).heap[b]? = some (.cells cur 32 (0, 0)) := fun o => (alloc_old wr o hlt).trans hg
      have HX := hide (extract_row hi2)
      clear hix
      generalize Ucd.lo Ucd.rows i = L at *
      generalize Ucd.hi Ucd.rows i = H at *
      generalize Ucd.cl Ucd.rows i = C at *
      go_wp2_with (first
        | (refine wpList_store_new wr rfl 43 _ _ rfl rfl #[.int .i32 0, .int .i32 0, .int .i64 0] #[.int .i32 L, .int .i32 H, .int .i64 C] rfl rfl (three_info rowInfo _ _ _) rfl (three_one _ _ _) ?_)
        | (refine wpList_load_row rfl 43 _ rfl wr.heap.size rfl 43 #[.int .i32 L, .int .i32 H, .int .i64 C] (0, 0) _ (heap_alloc_last wr _) Tryd.underlying43 rfl (three_info rowInfo _ _ _) ?_)
        | (refine wpList_store_seg rfl 32 _ _ rfl rfl b (i * 3) #[.int .i32 L, .int .i32 H, .int .i64 C] rfl rfl 32 cur (hgA _) (three_info rangeInfo _ _ _) (by show i * 3 + 3 ≤ _; omega) (three_one _ _ _) ?_))
      go_roundw
      case rel =>
        refine ⟨i + 1, by first | rfl | (congr 1), by omega, below_setRow (hb.alloc hb.size _) hle _, _, setRow_heap _ _ _ _ _ _ (hgA _), by rw [segset_size]; exact hsz, hide fun j hj => ?_⟩
        by_cases hj2 : j < i * 3
        · rw [segset_low _ _ _ _ hj2]; exact HI.out j hj2
        · obtain ⟨m, rfl⟩ : ∃ m, j = i * 3 + m := ⟨j - i * 3, by omega⟩
          rw [segset_in _ _ _ m (by show m < 3; omega) (by show i * 3 + 3 ≤ _; omega)]
          have e : (tableCells.extract (i * 3) (i * 3 + 3))[m]? = tableCells[i * 3 + m]? := by rw [Array.getElem?_extract, if_pos (by rw [tableSize]; omega)]
          rw [← e, HX.out]
          simp
      case measure => simp [intOf]; omega
    · obtain rfl : i = 147 := by omega
      go_wp2
      go_ret
      refine ⟨b, rfl, hb, hle, ?_⟩
      rw [hg]
      congr 2
      apply Array.ext_getElem?
      intro j
      by_cases hj : j < 441
      · exact HI.out j (by omega)
      · rw [Array.getElem?_eq_none (by omega), Array.getElem?_eq_none (by rw [tableSize]; omega)]
end Go.Proofs.YtpndmjenpmefmaaDoor
