/- The table that the function 'table' answers: its contract. -/
import Derived.Test.YtchpdokjalbpnaaDoorRows
import Derived.Test.YtchpdokjalbpnaaDoorUc
import Derived.WalkKit
import Derived.WalkSpells
import Derived.WalkLawsBesides
import Derived.Outline
import Derived.Laws.Tables
import Derived.Great.BuildSlice
import Derived.Below
import Derived.Deep.WholeRow
namespace Go.Proofs.YtchpdokjalbpnaaDoor
open Go.RowKit
set_option linter.unusedVariables false
/-- A row's cells, as the program keeps them. -/
def rowCells (p : Ucd.Rg) : List Value := [.int .i32 p.1, .int .i32 p.2.1, .int .i64 p.2.2]
def tableCells : Array Value := (Ucd.flat rowCells Ucd.rows).toArray
/-- An operation that builds a value of constants alone: the slot, the value's cells. -/
def constOf : Operand → Option Value
  | .const v => some v
  | _ => none
def partsOf : List (Nat × Operand) → Option (List (Nat × Value))
  | [] => some []
  | (i, x) :: t => match constOf x, partsOf t with
    | some v, some r => some ((i, v) :: r)
    | _, _ => none
def builtBy (P : Program) (o : Oper) : Option (Tmp × Array Value) :=
  match o.guard, o.dst, o.op with
  | none, some d, .build t parts => match partsOf parts.toList with
    | some vs => (P.built t vs).map fun c => (d, c)
    | none => none
  | _, _, _ => none
theorem partsOf_eval (a : Act) : ∀ (l : List (Nat × Operand)) (vs : List (Nat × Value)), partsOf l = some vs → l.map (fun (i, x) => (i, a.eval x)) = vs
  | [], vs, h => by simp [partsOf] at h; subst h; rfl
  | (i, x) :: t, vs, h => by
    simp only [partsOf] at h
    split at h
    · rename_i v r hv hr
      cases h
      cases x <;> simp [constOf] at hv
      subst hv
      simp only [List.map_cons, partsOf_eval a t r hr]
      rfl
    · cases h
theorem wpList_builds {P : Program} {ops : Array Oper} {Q : Exit → Act → World → Prop} : ∀ (l : List Oper) (vs : List (Tmp × Array Value)) (rest : List Oper) (a : Act) (w : World),
    l.mapM (builtBy P) = some vs → wpList P ops Q rest (vs.foldl (fun a p => a.put (some p.1) (.agg p.2)) a) w → wpList P ops Q (l ++ rest) a w
  | [], vs, rest, a, w, h, hw => by simp at h; subst h; exact hw
  | o :: l, vs, rest, a, w, h, hw => by
    simp only [List.mapM_cons, Option.bind_eq_bind, Option.pure_def] at h
    cases hb : builtBy P o with
    | none => simp [hb] at h
    | some p =>
      cases hr : l.mapM (builtBy P) with
      | none => simp [hb, hr] at h
      | some r =>
        simp [hb, hr] at h
        subst h
        obtain ⟨d, c⟩ := p
        unfold builtBy at hb
        split at hb
        · rename_i t parts hg hd ho
          split at hb
          · rename_i us hu
            simp only [Option.map_eq_some_iff, Prod.mk.injEq] at hb
            obtain ⟨c', hc, rfl, rfl⟩ := hb
            refine wpList_buildTo hg t parts ho _ hd c' ?_ ?_
            · rw [Array.toList_map, partsOf_eval a _ _ hu]; exact hc
            · exact wpList_builds l r rest _ w hr hw
          · cases hb
        · cases hb
/-- Values for slots from k on. -/
def numbered : Nat → List (Array Value) → List (Tmp × Array Value)
  | _, [] => []
  | k, c :: cs => (k, c) :: numbered (k + 1) cs
abbrev puts (vs : List (Tmp × Array Value)) (a : Act) : Act := vs.foldl (fun a p => a.put (some p.1) (.agg p.2)) a
theorem puts_size : ∀ (vs : List (Tmp × Array Value)) (a : Act), (puts vs a).tmps.size = a.tmps.size
  | [], _ => rfl
  | p :: vs, a => by
    have := puts_size vs (a.put (some p.1) (.agg p.2))
    simp only [puts, List.foldl_cons] at this ⊢
    rw [this]; simp [Act.put]
theorem puts_defers : ∀ (vs : List (Tmp × Array Value)) (a : Act), (puts vs a).defers = a.defers
  | [], _ => rfl
  | p :: vs, a => by
    have := puts_defers vs (a.put (some p.1) (.agg p.2))
    simp only [puts, List.foldl_cons] at this ⊢
    rw [this]; rfl
theorem puts_low : ∀ (cs : List (Array Value)) (k i : Nat) (a : Act), i < k → (puts (numbered k cs) a).tmps.getD i undef = a.tmps.getD i undef
  | [], _, _, _, _ => rfl
  | c :: cs, k, i, a, h => by
    have := puts_low cs (k + 1) i (a.put (some k) (.agg c)) (by omega)
    simp only [puts, numbered, List.foldl_cons] at this ⊢
    rw [this]
    simp [Act.put, show ¬ k = i from by omega]
theorem puts_at : ∀ (cs : List (Array Value)) (k i : Nat) (a : Act), k + cs.length ≤ a.tmps.size → i < cs.length → (puts (numbered k cs) a).tmps.getD (k + i) undef = .agg (cs.getD i #[])
  | [], _, _, _, _, h => by simp at h
  | c :: cs, k, 0, a, hs, _ => by
    have := puts_low cs (k + 1) k (a.put (some k) (.agg c)) (by omega)
    simp only [puts, numbered, List.foldl_cons, Nat.add_zero] at this ⊢
    rw [this]
    simp at hs
    simp [Act.put, show k < a.tmps.size from by omega]
  | c :: cs, k, i + 1, a, hs, h => by
    have := puts_at cs (k + 1) i (a.put (some k) (.agg c)) (by simp [Act.put] at hs ⊢; omega) (by simpa using h)
    simp only [puts, numbered, List.foldl_cons] at this ⊢
    rw [show k + (i + 1) = k + 1 + i from by omega, this]
    simp
theorem parts_slots (a : Act) (cs : List (Array Value)) (k : Nat) (hs : k + cs.length ≤ a.tmps.size) (parts : Array (Nat × Operand)) (hp : parts.toList = (List.range cs.length).map fun i => (i, Operand.tmp (k + i))) :
    (parts.map fun (i, x) => (i, (puts (numbered k cs) a).eval x)).toList = (List.range cs.length).map fun i => (i, Value.agg (cs.getD i #[])) := by
  rw [Array.toList_map, hp, List.map_map]
  apply List.map_congr_left
  intro i hi
  simp only [List.mem_range] at hi
  show (i, (puts (numbered k cs) a).tmps.getD (k + i) undef) = _
  rw [puts_at cs k i a hs hi]
theorem wpList_run {P : Program} {ops : Array Oper} {rest : List Oper} {o : Oper} {a : Act} {w : World} {Q : Exit → Act → World → Prop} (hg : o.guard = none) (dst : Option Tmp) (hdst : o.dst = dst)
    (v : Value) (w' : World) (hrun : (execOp a.eval o).run P w = .ok (.value v) w')
    (h : wpList P ops Q rest (a.put dst v) w') : wpList P ops Q (o :: rest) a w := by
  subst hdst
  refine wpList_plain hg fun K hK => ?_
  unfold Oper.wp
  rw [hrun, Oper.upon_value]
  exact hK _ _ h
theorem put_other (a : Act) (d i : Nat) (v : Value) (h : ¬ d = i) : (a.put (some d) v).tmps.getD i undef = a.tmps.getD i undef := by simp [Act.put, h]
theorem put_same (a : Act) (d : Nat) (v : Value) (h : d < a.tmps.size) : (a.put (some d) v).tmps.getD d undef = v := by simp [Act.put, h]
theorem put_size (a : Act) (d : Nat) (v : Value) : (a.put (some d) v).tmps.size = a.tmps.size := by simp [Act.put]
/-- A call without arguments, its frame a letter. -/
theorem calls_bare {P : Program} {f : FuncId} {fn : Func} {c : Code} {w : World} {R : Ending → World → Prop} (n : Nat)
    (hf : P.funcs[f]? = some fn) (hb : fn.body = some c) (hn : fn.ntmps = n)
    (h : ∀ a : Act, a.tmps.size = n → a.defers = [] → c.wp P (bodyPost P fn R) a w) : Calls P f #[] w R :=
  calls_of_wp hf hb (h _ (by simp [hn]) rfl)
/-- A region that builds n values of constants, one of all of these, and stores it into a block. -/
def lastOf (o : Oper) : Option (Tmp × TypeId × List (Nat × Operand)) :=
  match o.guard, o.dst, o.op with
  | none, some d, .build t parts => some (d, t, parts.toList)
  | _, _, _ => none
def storeOf (o : Oper) : Option (TypeId × Operand × Operand) :=
  match o.guard, o.dst, o.op with
  | none, none, .store t x y => some (t, x, y)
  | _, _, _ => none
theorem wpList_tab {P : Program} {ops : Array Oper} {Q : Exit → Act → World → Prop} {l : List Oper} {a : Act} {w : World} (cs : List (Array Value)) (d : Tmp) (t : TypeId) (x : Operand) (cells : Array Value)
    (hs : 1 + cs.length < a.tmps.size) (hl : l.length = cs.length + 2) (h1 : (l.take cs.length).mapM (builtBy P) = some (numbered 1 cs))
    (h2 : (l[cs.length]?).bind lastOf = some (d, t, (List.range cs.length).map fun i => (i, Operand.tmp (1 + i)))) (hd : d = 1 + cs.length)
    (h3 : P.built t ((List.range cs.length).map fun i => (i, Value.agg (cs.getD i #[]))) = some cells)
    (h4 : (l[cs.length + 1]?).bind storeOf = some (t, x, .tmp d))
    (g : Nat) (hx : x = .tmp 0) (h0 : a.tmps.getD 0 undef = .pointer (some ⟨g, 0, none⟩)) (e : TypeId) (old : Array Value) (hg : w.heap[g]? = some (.cells old e (0, 0)))
    (hi : (P.info? t).map (·.size) = some cells.size) (hold : old.size = cells.size) (hone : cells.all (·.oneCell') = true)
    (h : ∀ a' : Act, a'.defers = a.defers → a'.tmps.size = a.tmps.size → a'.tmps.getD 0 undef = .pointer (some ⟨g, 0, none⟩) → Q .normal a' (w.setRow g cells)) : wpList P ops Q l a w := by
  have hsplit : l = l.take cs.length ++ l.drop cs.length := (List.take_append_drop _ _).symm
  rw [hsplit]
  refine wpList_builds _ _ _ _ _ h1 ?_
  have e1 : cs.length < l.length := by omega
  have e2 : cs.length + 1 < l.length := by omega
  rw [List.drop_eq_getElem_cons e1, List.drop_eq_getElem_cons e2, List.drop_of_length_le (by omega)]
  rw [List.getElem?_eq_getElem e1, Option.bind_some] at h2
  rw [List.getElem?_eq_getElem e2, Option.bind_some] at h4
  unfold lastOf at h2
  split at h2
  · rename_i d1 t1 parts hg1 hd1 ho1
    simp only [Option.some.injEq, Prod.mk.injEq] at h2
    obtain ⟨rfl, rfl, hp⟩ := h2
    unfold storeOf at h4
    split at h4
    · rename_i ty x1 y1 hg2 hd2 ho2
      simp only [Option.some.injEq, Prod.mk.injEq] at h4
      obtain ⟨rfl, rfl, rfl⟩ := h4
      subst hd
      refine wpList_buildTo hg1 _ parts ho1 _ hd1 cells ?_ ?_
      · rw [parts_slots a cs 1 (by omega) parts hp]; exact h3
      · have hsz := puts_size (numbered 1 cs) a
        have z0 : ((puts (numbered 1 cs) a).put (some (1 + cs.length)) (.agg cells)).tmps.getD 0 undef = .pointer (some ⟨g, 0, none⟩) := by
          rw [put_other _ _ _ _ (by omega), puts_low cs 1 0 a (by omega), h0]
        refine wpList_store_rowTo hg2 _ _ _ ho2 hd2 g cells ?_ ?_ e old hg hi hold hone ?_
        · rw [hx]; exact z0
        · exact put_same _ _ _ (by rw [hsz]; omega)
        · refine wpList_nil (h _ ?_ ?_ z0)
          · exact puts_defers (numbered 1 cs) a
          · rw [put_size, hsz]
    · cases h4
  · cases h2
def rowArrays : List (Array Value) := Ucd.rows.map fun p => (rowCells p).toArray
def zeroCells : Array Value := (Ucd.flat (fun _ => rowCells (0, 0, 0)) Ucd.rows).toArray
theorem tableBuilt : Tryd.prog.built 70 ((List.range rowArrays.length).map fun i => (i, Value.agg (rowArrays.getD i #[]))) = some tableCells := by kernel_rfl
theorem tableInfo : (Tryd.prog.info? 70).map (fun i => (i.zero, i.size)) = some (some (.agg zeroCells), 441) := by kernel_rfl
theorem tableOne : tableCells.all (·.oneCell') = true := by kernel_rfl
theorem tableSize : tableCells.size = 441 := by kernel_rfl
theorem zeroSize : zeroCells.size = 441 := by kernel_rfl
theorem rowsLen : rowArrays.length = 147 := by kernel_rfl
theorem tableInfo' : (Tryd.prog.info? 70).map (·.size) = some tableCells.size := by
  rw [tableSize]; exact (zero_of_info tableInfo).2
set_option maxRecDepth 100000 in
theorem table_any (w : World) : Calls Tryd.prog 37 #[] w fun e w' => e = .returned (.agg tableCells) ∧ Below w.heap.size w w' := by
  refine calls_bare 149 Tryd.func37 rfl Tryd.ntmps37 fun a hs hdf => ?_
  refine wp_seq ?_
  refine wp_region_list ?_
  refine wpList_run rfl (some 0) rfl (.pointer (some ⟨w.heap.size, 0, none⟩)) (w.alloc (.cells zeroCells 70)) ?_ ?_
  · have hz := (zero_of_info tableInfo).1
    simp [execOp, hz, go_sem]
  refine wpList_nil ?_
  refine wp_seq ?_
  refine wp_region_list ?_
  refine wpList_tab rowArrays 148 70 (.tmp 0) tableCells (by rw [put_size, rowsLen]; omega) (by kernel_rfl) (by kernel_rfl) (by kernel_rfl) (by kernel_rfl) tableBuilt (by kernel_rfl) w.heap.size rfl
    (put_same _ _ _ (by omega)) 70 zeroCells (heap_alloc_last w _) tableInfo' (by rw [zeroSize, tableSize]) tableOne ?_
  intro a' hd hsz h0
  rw [World.setRow_alloc_new]
  refine wp_ret ?_
  exact bodyPost_ret (results_cell_row Tryd.results37 _ _ w.heap.size 70 tableCells (0, 0) _ h0 (heap_alloc_last w _) Tryd.underlying70 rfl tableInfo') (hd.trans hdf)
    ⟨rfl, (Below.refl _ _).alloc (Nat.le_refl _) _⟩
end Go.Proofs.YtchpdokjalbpnaaDoor
