/- The document's own table and class (colophonref03): contracts. -/
import Derived.Test.YteiljaecaahonaaRows
import Derived.Test.YteiljaecaahonaaUc
import Derived.Test.YteiljaecaahonaaArgs
import Derived.Test.YteiljaecaahonaaTab
import Derived.WalkKit
import Derived.WalkSpells
import Derived.WalkLawsBesides
import Derived.Outline
import Derived.Great.BuildSlice
namespace Go.Proofs.Yteiljaecaahonaa
open Go.RowKit
set_option linter.unusedVariables false
set_option maxHeartbeats 1000000
set_option maxRecDepth 100000
def refCellsOf (p : Ucd.Rg) : List Value := [.int .i64 p.1, .int .i64 p.2.1, .int .i64 p.2.2]
def refCells : Array Value := (Ucd.flat refCellsOf Ucd.rows).toArray
def refArrays : List (Array Value) := Ucd.rows.map fun p => (refCellsOf p).toArray
def lastSlice (o : Oper) : Option (Tmp × TypeId × Nat × List (Nat × Operand)) :=
  match o.guard, o.dst, o.op with
  | none, some d, .buildSlice t n parts => some (d, t, n, parts.toList)
  | _, _, _ => none
def assignOf (o : Oper) : Option (Tmp × Operand) :=
  match o.guard, o.dst, o.op with
  | none, some d, .assign x => some (d, x)
  | _, _, _ => none
theorem wpList_tabSlice {P : Program} {ops : Array Oper} {Q : Exit → Act → World → Prop} {l : List Oper} {a : Act} {w : World} (cs : List (Array Value)) (d : Tmp) (t e : TypeId) (cells : Array Value) (ie : TypeInfo) (z : Value)
    (hs : 1 + cs.length < a.tmps.size) (hl : l.length = cs.length + 2) (h1 : (l.take cs.length).mapM (builtBy P) = some (numbered 1 cs))
    (h2 : (l[cs.length]?).bind lastSlice = some (d, t, cs.length, (List.range cs.length).map fun i => (i, Operand.tmp (1 + i)))) (hd : d = 1 + cs.length)
    (hu : P.underlying t = some (.slice e)) (hie : P.info? e = some ie) (hz : ie.zero = some z) (hsmall : ¬ cs.length * ie.size > 2 ^ 24) (hpos : ¬ cs.length * ie.size = 0)
    (h3 : Instr.fill (fun i => some (i * ie.size, ie.size)) ((Array.range (cs.length * ie.size)).map (z.cells[· % z.cells.size]!)) ((List.range cs.length).map fun i => (i, Value.agg (cs.getD i #[]))) = some cells)
    (h4 : (l[cs.length + 1]?).bind assignOf = some (0, .tmp d))
    (h : ∀ a' : Act, a'.defers = a.defers → a'.tmps.size = a.tmps.size → a'.tmps.getD 0 undef = .slice (some ⟨w.heap.size, 0, none⟩) cs.length cs.length → Q .normal a' (w.alloc (.cells cells e))) : wpList P ops Q l a w := by
  have hsplit : l = l.take cs.length ++ l.drop cs.length := (List.take_append_drop _ _).symm
  rw [hsplit]
  refine wpList_builds _ _ _ _ _ h1 ?_
  have e1 : cs.length < l.length := by omega
  have e2 : cs.length + 1 < l.length := by omega
  rw [List.drop_eq_getElem_cons e1, List.drop_eq_getElem_cons e2, List.drop_of_length_le (by omega)]
  rw [List.getElem?_eq_getElem e1, Option.bind_some] at h2
  rw [List.getElem?_eq_getElem e2, Option.bind_some] at h4
  unfold lastSlice at h2
  split at h2
  · rename_i d1 t1 n1 parts hg1 hd1 ho1
    simp only [Option.some.injEq, Prod.mk.injEq] at h2
    obtain ⟨rfl, rfl, rfl, hp⟩ := h2
    unfold assignOf at h4
    split at h4
    · rename_i d2 x2 hg2 hd2 ho2
      simp only [Option.some.injEq, Prod.mk.injEq] at h4
      obtain ⟨rfl, rfl⟩ := h4
      subst hd
      refine wpList_buildSlice hg1 _ e _ parts ho1 cells ie z hu hie hz hsmall hpos ?_ ?_
      · rw [parts_slots a cs 1 (by omega) parts hp]; exact h3
      · rw [hd1]
        have hsz := puts_size (numbered 1 cs) a
        have z0 : ((puts (numbered 1 cs) a).put (some (1 + cs.length)) (.slice (some ⟨w.heap.size, 0, none⟩) cs.length cs.length)).tmps.getD (1 + cs.length) undef = .slice (some ⟨w.heap.size, 0, none⟩) cs.length cs.length :=
          put_same _ _ _ (by rw [hsz]; omega)
        refine wpList_run hg2 (some 0) hd2 (.slice (some ⟨w.heap.size, 0, none⟩) cs.length cs.length) (w.alloc (.cells cells e)) ?_ ?_
        · unfold execOp
          rw [ho2]
          simp only [Act.eval, z0]
          rfl
        · refine wpList_nil (h _ ?_ ?_ ?_)
          · exact puts_defers (numbered 1 cs) a
          · rw [put_size, put_size, hsz]
          · exact put_same _ _ _ (by rw [put_size, hsz]; omega)
    · cases h4
  · cases h2
theorem refInfo : (Try.prog.info? 112).map (fun i => (i.zero, i.size)) = some (some (.agg #[.int .i64 0, .int .i64 0, .int .i64 0]), 3) := by kernel_rfl
theorem refLen : refArrays.length = 147 := by kernel_rfl
theorem refBuilt : Instr.fill (fun i => some (i * 3, 3)) ((Array.range (refArrays.length * 3)).map ((Value.agg #[.int .i64 0, .int .i64 0, .int .i64 0]).cells[· % (Value.agg #[.int .i64 0, .int .i64 0, .int .i64 0]).cells.size]!)) ((List.range refArrays.length).map fun i => (i, Value.agg (refArrays.getD i #[]))) = some refCells := by kernel_rfl
/-- The document's table lies in a block. -/
def RefAt (w : World) (b : Nat) : Prop := ∀ i, i < 441 → w.cell? ⟨b, i, none⟩ = refCells[i]?
theorem RefAt.at {w : World} {b : Nat} (h : RefAt w b) {i : Nat} (hi : i < 147) :
    w.cell? ⟨b, i * 3, none⟩ = some (.int .i64 (Ucd.lo Ucd.rows i)) ∧ w.cell? ⟨b, i * 3 + 1, none⟩ = some (.int .i64 (Ucd.hi Ucd.rows i)) ∧ w.cell? ⟨b, i * 3 + 2, none⟩ = some (.int .i64 (Ucd.cl Ucd.rows i)) := by
  have e : ∀ j, j < 3 → w.cell? ⟨b, i * 3 + j, none⟩ = (refCellsOf (Ucd.rows.getD i (0, 0, 0)))[j]? := fun j hj => by
    rw [h (i * 3 + j) (by omega), refCells, List.getElem?_toArray, Ucd.flat_at refCellsOf (fun _ => rfl) Ucd.rows i j (by rw [Ucd.rows_len]; exact hi) hj]
  exact ⟨e 0 (by omega), e 1 (by omega), e 2 (by omega)⟩
theorem RefAt.mono {w w' : World} {b B : Nat} (h : RefAt w b) (hb : Below B w w') (hB : b < B) : RefAt w' b := fun i hi => (hb.cell (p := ⟨b, i, none⟩) hB).trans (h i hi)
theorem refAt_new (w : World) (t : TypeId) : RefAt (w.alloc (.cells refCells t)) w.heap.size := fun i hi => by
  unfold World.cell?
  rw [heap_alloc_last]
  rfl
theorem ranges_any (w : World) : Calls Try.prog 68 #[] w fun e w' => ∃ b, e = .returned (.slice (some ⟨b, 0, none⟩) 147 147) ∧ Below w.heap.size w w' ∧ w.heap.size ≤ b ∧ b < w'.heap.size ∧ RefAt w' b := by
  cases hq : Try.prog.info? 112 with
  | none => have := refInfo; rw [hq] at this; cases this
  | some ie =>
    have hi := refInfo
    rw [hq] at hi
    simp only [Option.map_some, Option.some.injEq, Prod.mk.injEq] at hi
    refine calls_bare 149 Try.func68 rfl Try.ntmps68 fun a hs hdf => ?_
    refine wp_seq ?_
    refine wp_region_list ?_
    refine wpList_run rfl (some 0) rfl (.slice none 0 0) w ?_ ?_
    · simp [execOp, go_sem]
    refine wpList_nil ?_
    refine wp_seq ?_
    refine wp_region_list ?_
    refine wpList_tabSlice refArrays 148 110 112 refCells ie (.agg #[.int .i64 0, .int .i64 0, .int .i64 0]) (by rw [put_size, refLen]; omega) (by kernel_rfl) (by kernel_rfl) (by kernel_rfl) (by kernel_rfl) Try.underlying110 hq hi.1
      (by rw [hi.2, refLen]; omega) (by rw [hi.2, refLen]; omega) (by rw [hi.2]; exact refBuilt) (by kernel_rfl) ?_
    intro a' hd hsz h0
    refine wp_ret ?_
    rw [refLen] at h0
    refine bodyPost_ret (v := .slice (some ⟨w.heap.size, 0, none⟩) 147 147) ?_ (hd.trans hdf) ⟨w.heap.size, rfl, (Below.refl _ _).alloc (Nat.le_refl _) _, Nat.le_refl _, by simp, refAt_new w _⟩
    have ht : a'.tmps[0]?.getD undef = .slice (some ⟨w.heap.size, 0, none⟩) 147 147 := by simpa using h0
    simp [results, Try.results68, go_sem, ht]
end Go.Proofs.Yteiljaecaahonaa
