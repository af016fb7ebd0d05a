import Derived.Test.YtmdmehopefgndaaGreatDoorRows
import Derived.Test.YtmdmehopefgndaaGreatDoorZ18
import Derived.WalkKit
import Derived.WalkSpells
import Derived.WalkLawsBesides
import Derived.Outline
import Derived.Laws.Tables
import Derived.Great.BuildSlice
import Derived.Below
import Derived.Deep.WholeRow
import Derived.Test.YtmdmehopefgndaaGreatDoorZ01
import Derived.Deep.RegionHeld3
/- The table that the function 'table' answers: its contract. -/
namespace Go.Proofs.YtmdmehopefgndaaGreatDoor
open Go.RowKit
set_option linter.unusedVariables false
/-- A row's cells, as the program keeps them. -/
def rowCells (p : Ucd.Rg) : List Value := [.int .i32 p.1, .int .i32 p.2.1, .int .i64 p.2.2]
def tableCells : Array Value := (Ucd.flat rowCells Ucd.rows).toArray
/-- An operation that builds a value of constants alone: the slot, the value's cells. -/
def constOf : Operand → Option Value
  | .const v => some v
  | _ => none
def partsOf : List (Nat × Operand) → Option (List (Nat × Value))
  | [] => some []
  | (i, x) :: t => match constOf x, partsOf t with
    | some v, some r => some ((i, v) :: r)
    | _, _ => none
def builtBy (P : Program) (o : Oper) : Option (Tmp × Array Value) :=
  match o.guard, o.dst, o.op with
  | none, some d, .build t parts => match partsOf parts.toList with
    | some vs => (P.built t vs).map fun c => (d, c)
    | none => none
  | _, _, _ => none
theorem partsOf_eval (a : Act) : ∀ (l : List (Nat × Operand)) (vs : List (Nat × Value)), partsOf l = some vs → l.map (fun (i, x) => (i, a.eval x)) = vs
  | [], vs, h => by simp [partsOf] at h; subst h; rfl
  | (i, x) :: t, vs, h => by
    simp only [partsOf] at h
    split at h
    · rename_i v r hv hr
      cases h
      cases x <;> simp [constOf] at hv
      subst hv
      simp only [List.map_cons, partsOf_eval a t r hr]
      rfl
    · cases h
theorem wpList_builds {P : Program} {ops : Array Oper} {Q : Exit → Act → World → Prop} : ∀ (l : List Oper) (vs : List (Tmp × Array Value)) (rest : List Oper) (a : Act) (w : World),
    l.mapM (builtBy P) = some vs → wpList P ops Q rest (vs.foldl (fun a p => a.put (some p.1) (.agg p.2)) a) w → wpList P ops Q (l ++ rest) a w
  | [], vs, rest, a, w, h, hw => by simp at h; subst h; exact hw
  | o :: l, vs, rest, a, w, h, hw => by
    simp only [List.mapM_cons, Option.bind_eq_bind, Option.pure_def] at h
    cases hb : builtBy P o with
    | none => simp [hb] at h
    | some p =>
      cases hr : l.mapM (builtBy P) with
      | none => simp [hb, hr] at h
      | some r =>
        simp [hb, hr] at h
        subst h
        obtain ⟨d, c⟩ := p
        unfold builtBy at hb
        split at hb
        · rename_i t parts hg hd ho
          split at hb
          · rename_i us hu
            simp only [Option.map_eq_some_iff, Prod.mk.injEq] at hb
            obtain ⟨c', hc, rfl, rfl⟩ := hb
            refine wpList_buildTo hg t parts ho _ hd c' ?_ ?_
            · rw [Array.toList_map, partsOf_eval a _ _ hu]; exact hc
            · exact wpList_builds l r rest _ w hr hw
          · cases hb
        · cases hb
/-- Values for slots from k on. -/
def numbered : Nat → List (Array Value) → List (Tmp × Array Value)
  | _, [] => []
  | k, c :: cs => (k, c) :: numbered (k + 1) cs
abbrev puts (vs : List (Tmp × Array Value)) (a : Act) : Act := vs.foldl (fun a p => a.put (some p.1) (.agg p.2)) a
theorem puts_size : ∀ (vs : List (Tmp × Array Value)) (a : Act), (puts vs a).tmps.size = a.tmps.size
  | [], _ => rfl
  | p :: vs, a => by
    have := puts_size vs (a.put (some p.1) (.agg p.2))
    simp only [puts, List.foldl_cons] at this ⊢
    rw [this]; simp [Act.put]
theorem puts_defers : ∀ (vs : List (Tmp × Array Value)) (a : Act), (puts vs a).defers = a.defers
  | [], _ => rfl
  | p :: vs, a => by
    have := puts_defers vs (a.put (some p.1) (.agg p.2))
    simp only [puts, List.foldl_cons] at this ⊢
    rw [this]; rfl
theorem puts_low : ∀ (cs : List (Array Value)) (k i : Nat) (a : Act), i < k → (puts (numbered k cs) a).tmps.getD i undef = a.tmps.getD i undef
  | [], _, _, _, _ => rfl
  | c :: cs, k, i, a, h => by
    have := puts_low cs (k + 1) i (a.put (some k) (.agg c)) (by omega)
    simp only [puts, numbered, List.foldl_cons] at this ⊢
    rw [this]
    simp [Act.put, show ¬ k = i from by omega]
theorem puts_at : ∀ (cs : List (Array Value)) (k i : Nat) (a : Act), k + cs.length ≤ a.tmps.size → i < cs.length → (puts (numbered k cs) a).tmps.getD (k + i) undef = .agg (cs.getD i #[])
  | [], _, _, _, _, h => by simp at h
  | c :: cs, k, 0, a, hs, _ => by
    have := puts_low cs (k + 1) k (a.put (some k) (.agg c)) (by omega)
    simp only [puts, numbered, List.foldl_cons, Nat.add_zero] at this ⊢
    rw [this]
    simp at hs
    simp [Act.put, show k < a.tmps.size from by omega]
  | c :: cs, k, i + 1, a, hs, h => by
    have := puts_at cs (k + 1) i (a.put (some k) (.agg c)) (by simp [Act.put] at hs ⊢; omega) (by simpa using h)
    simp only [puts, numbered, List.foldl_cons] at this ⊢
    rw [show k + (i + 1) = k + 1 + i from by omega, this]
    simp
theorem parts_slots (a : Act) (cs : List (Array Value)) (k : Nat) (hs : k + cs.length ≤ a.tmps.size) (parts : Array (Nat × Operand)) (hp : parts.toList = (List.range cs.length).map fun i => (i, Operand.tmp (k + i))) :
    (parts.map fun (i, x) => (i, (puts (numbered k cs) a).eval x)).toList = (List.range cs.length).map fun i => (i, Value.agg (cs.getD i #[])) := by
  rw [Array.toList_map, hp, List.map_map]
  apply List.map_congr_left
  intro i hi
  simp only [List.mem_range] at hi
  show (i, (puts (numbered k cs) a).tmps.getD (k + i) undef) = _
  rw [puts_at cs k i a hs hi]
theorem wpList_run {P : Program} {ops : Array Oper} {rest : List Oper} {o : Oper} {a : Act} {w : World} {Q : Exit → Act → World → Prop} (hg : o.guard = none) (dst : Option Tmp) (hdst : o.dst = dst)
    (v : Value) (w' : World) (hrun : (execOp a.eval o).run P w = .ok (.value v) w')
    (h : wpList P ops Q rest (a.put dst v) w') : wpList P ops Q (o :: rest) a w := by
  subst hdst
  refine wpList_plain hg fun K hK => ?_
  unfold Oper.wp
  rw [hrun, Oper.upon_value]
  exact hK _ _ h
theorem put_other (a : Act) (d i : Nat) (v : Value) (h : ¬ d = i) : (a.put (some d) v).tmps.getD i undef = a.tmps.getD i undef := by simp [Act.put, h]
theorem put_same (a : Act) (d : Nat) (v : Value) (h : d < a.tmps.size) : (a.put (some d) v).tmps.getD d undef = v := by simp [Act.put, h]
theorem put_size (a : Act) (d : Nat) (v : Value) : (a.put (some d) v).tmps.size = a.tmps.size := by simp [Act.put]
/-- A call without arguments, its frame a letter. -/
theorem calls_bare {P : Program} {f : FuncId} {fn : Func} {c : Code} {w : World} {R : Ending → World → Prop} (n : Nat)
    (hf : P.funcs[f]? = some fn) (hb : fn.body = some c) (hn : fn.ntmps = n)
    (h : ∀ a : Act, a.tmps.size = n → a.defers = [] → c.wp P (bodyPost P fn R) a w) : Calls P f #[] w R :=
  calls_of_wp hf hb (h _ (by simp [hn]) rfl)
/-- A region that builds n values of constants, one of all of these, and stores it into a block. -/
def lastOf (o : Oper) : Option (Tmp × TypeId × List (Nat × Operand)) :=
  match o.guard, o.dst, o.op with
  | none, some d, .build t parts => some (d, t, parts.toList)
  | _, _, _ => none
def storeOf (o : Oper) : Option (TypeId × Operand × Operand) :=
  match o.guard, o.dst, o.op with
  | none, none, .store t x y => some (t, x, y)
  | _, _, _ => none
theorem wpList_tab {P : Program} {ops : Array Oper} {Q : Exit → Act → World → Prop} {l : List Oper} {a : Act} {w : World} (cs : List (Array Value)) (d : Tmp) (t : TypeId) (x : Operand) (cells : Array Value)
    (hs : 1 + cs.length < a.tmps.size) (hl : l.length = cs.length + 2) (h1 : (l.take cs.length).mapM (builtBy P) = some (numbered 1 cs))
    (h2 : (l[cs.length]?).bind lastOf = some (d, t, (List.range cs.length).map fun i => (i, Operand.tmp (1 + i)))) (hd : d = 1 + cs.length)
    (h3 : P.built t ((List.range cs.length).map fun i => (i, Value.agg (cs.getD i #[]))) = some cells)
    (h4 : (l[cs.length + 1]?).bind storeOf = some (t, x, .tmp d))
    (g : Nat) (hx : x = .tmp 0) (h0 : a.tmps.getD 0 undef = .pointer (some ⟨g, 0, none⟩)) (e : TypeId) (old : Array Value) (hg : w.heap[g]? = some (.cells old e (0, 0)))
    (hi : (P.info? t).map (·.size) = some cells.size) (hold : old.size = cells.size) (hone : cells.all (·.oneCell') = true)
    (h : ∀ a' : Act, a'.defers = a.defers → a'.tmps.size = a.tmps.size → a'.tmps.getD 0 undef = .pointer (some ⟨g, 0, none⟩) → Q .normal a' (w.setRow g cells)) : wpList P ops Q l a w := by
  have hsplit : l = l.take cs.length ++ l.drop cs.length := (List.take_append_drop _ _).symm
  rw [hsplit]
  refine wpList_builds _ _ _ _ _ h1 ?_
  have e1 : cs.length < l.length := by omega
  have e2 : cs.length + 1 < l.length := by omega
  rw [List.drop_eq_getElem_cons e1, List.drop_eq_getElem_cons e2, List.drop_of_length_le (by omega)]
  rw [List.getElem?_eq_getElem e1, Option.bind_some] at h2
  rw [List.getElem?_eq_getElem e2, Option.bind_some] at h4
  unfold lastOf at h2
  split at h2
  · rename_i d1 t1 parts hg1 hd1 ho1
    simp only [Option.some.injEq, Prod.mk.injEq] at h2
    obtain ⟨rfl, rfl, hp⟩ := h2
    unfold storeOf at h4
    split at h4
    · rename_i ty x1 y1 hg2 hd2 ho2
      simp only [Option.some.injEq, Prod.mk.injEq] at h4
      obtain ⟨rfl, rfl, rfl⟩ := h4
      subst hd
      refine wpList_buildTo hg1 _ parts ho1 _ hd1 cells ?_ ?_
      · rw [parts_slots a cs 1 (by omega) parts hp]; exact h3
      · have hsz := puts_size (numbered 1 cs) a
        have z0 : ((puts (numbered 1 cs) a).put (some (1 + cs.length)) (.agg cells)).tmps.getD 0 undef = .pointer (some ⟨g, 0, none⟩) := by
          rw [put_other _ _ _ _ (by omega), puts_low cs 1 0 a (by omega), h0]
        refine wpList_store_rowTo hg2 _ _ _ ho2 hd2 g cells ?_ ?_ e old hg hi hold hone ?_
        · rw [hx]; exact z0
        · exact put_same _ _ _ (by rw [hsz]; omega)
        · refine wpList_nil (h _ ?_ ?_ z0)
          · exact puts_defers (numbered 1 cs) a
          · rw [put_size, hsz]
    · cases h4
  · cases h2
def rowArrays : List (Array Value) := Ucd.rows.map fun p => (rowCells p).toArray
def zeroCells : Array Value := (Ucd.flat (fun _ => rowCells (0, 0, 0)) Ucd.rows).toArray
theorem tableBuilt : Tryz.prog.built 97 ((List.range rowArrays.length).map fun i => (i, Value.agg (rowArrays.getD i #[]))) = some tableCells := by kernel_rfl
theorem tableInfo : (Tryz.prog.info? 97).map (fun i => (i.zero, i.size)) = some (some (.agg zeroCells), 441) := by kernel_rfl
theorem tableOne : tableCells.all (·.oneCell') = true := by kernel_rfl
theorem tableSize : tableCells.size = 441 := by kernel_rfl
theorem zeroSize : zeroCells.size = 441 := by kernel_rfl
theorem rowsLen : rowArrays.length = 147 := by kernel_rfl
theorem tableInfo' : (Tryz.prog.info? 97).map (·.size) = some tableCells.size := by
  rw [tableSize]; exact (zero_of_info tableInfo).2
set_option maxRecDepth 100000 in
theorem table_any (w : World) : Calls Tryz.prog 46 #[] w fun e w' => e = .returned (.agg tableCells) ∧ Below w.heap.size w w' := by
  refine calls_bare 149 Tryz.func46 rfl Tryz.ntmps46 fun a hs hdf => ?_
  refine wp_seq ?_
  refine wp_region_list ?_
  refine wpList_run rfl (some 0) rfl (.pointer (some ⟨w.heap.size, 0, none⟩)) (w.alloc (.cells zeroCells 97)) ?_ ?_
  · have hz := (zero_of_info tableInfo).1
    simp [execOp, hz, go_sem]
  refine wpList_nil ?_
  refine wp_seq ?_
  refine wp_region_list ?_
  refine wpList_tab rowArrays 148 97 (.tmp 0) tableCells (by rw [put_size, rowsLen]; omega) (by kernel_rfl) (by kernel_rfl) (by kernel_rfl) (by kernel_rfl) tableBuilt (by kernel_rfl) w.heap.size rfl
    (put_same _ _ _ (by omega)) 97 zeroCells (heap_alloc_last w _) tableInfo' (by rw [zeroSize, tableSize]) tableOne ?_
  intro a' hd hsz h0
  rw [World.setRow_alloc_new]
  refine wp_ret ?_
  exact bodyPost_ret (results_cell_row Tryz.results46 _ _ w.heap.size 97 tableCells (0, 0) _ h0 (heap_alloc_last w _) Tryz.underlying97 rfl tableInfo') (hd.trans hdf)
    ⟨rfl, (Below.refl _ _).alloc (Nat.le_refl _) _⟩
end Go.Proofs.YtmdmehopefgndaaGreatDoor

/- Contracts of utf8.ValidRune, the closure of Class, sort.Search, Class. -/
namespace Go.Proofs.YtmdmehopefgndaaGreatDoor
open Go.RowKit
set_option linter.unusedVariables false
set_option maxHeartbeats 1000000
set_option maxRecDepth 100000
theorem valid_any (r : Int) (w : World) (hr : (Lit.int .i32 r).wf = true) :
    Calls Tryz.prog 45 #[.int .i32 r] w fun e w' => e = .returned (.bool (Ucd.valid r)) ∧ w = w' := by
  have hv : Ucd.valid r = Ucd.valid r := rfl
  clear hr
  unfold Ucd.valid at hv
  by_cases h0 : 0 ≤ r
  · by_cases h1 : r < 55296
    · go_enter Tryz.func45, Tryz.ntmps45
      go_wp2
      go_ret
      exact ⟨ret_bool (by simp [Ucd.valid]; omega), rfl⟩
    · by_cases h2 : 57343 < r
      · by_cases h3 : r ≤ 1114111
        · go_enter Tryz.func45, Tryz.ntmps45
          go_wp2
          go_ret
          exact ⟨ret_bool (by simp [Ucd.valid]; omega), rfl⟩
        · go_enter Tryz.func45, Tryz.ntmps45
          go_wp2
          go_ret
          exact ⟨ret_bool (by simp [Ucd.valid]; omega), rfl⟩
      · go_enter Tryz.func45, Tryz.ntmps45
        go_wp2
        go_ret
        exact ⟨ret_bool (by simp [Ucd.valid]; omega), rfl⟩
  · by_cases h2 : 57343 < r
    · omega
    · go_enter Tryz.func45, Tryz.ntmps45
      go_wp2
      go_ret
      exact ⟨ret_bool (by simp [Ucd.valid]; omega), rfl⟩
theorem closure_any (r h : Int) (i : Nat) (bR bT : Nat) (w : World) (hi : i < 147) (hR : w.cell? ⟨bR, 0, none⟩ = some (.int .i32 r)) (hT : w.cell? ⟨bT, i * 3 + 1, none⟩ = some (.int .i32 h)) :
    Calls Tryz.prog 48 #[.int .i64 i, .pointer (some ⟨bR, 0, none⟩), .pointer (some ⟨bT, 0, none⟩)] w fun e w' => e = .returned (.bool (decide (r ≤ h))) ∧ Below w.heap.size w w' := by
  go_enter Tryz.func48, Tryz.ntmps48
  go_wp2_with fail
  go_region
  all_goals (try go_wp2)
  all_goals go_ret
  all_goals exact ⟨rfl, (Below.refl _ _).drew⟩
/-- The table lies in a block. -/
def TabAt (w : World) (b : Nat) : Prop := ∀ i, i < 441 → w.cell? ⟨b, i, none⟩ = tableCells[i]?
theorem TabAt.at {w : World} {b : Nat} (h : TabAt w b) {i : Nat} (hi : i < 147) :
    w.cell? ⟨b, i * 3, none⟩ = some (.int .i32 (Ucd.lo Ucd.rows i)) ∧ w.cell? ⟨b, i * 3 + 1, none⟩ = some (.int .i32 (Ucd.hi Ucd.rows i)) ∧ w.cell? ⟨b, i * 3 + 2, none⟩ = some (.int .i64 (Ucd.cl Ucd.rows i)) := by
  have e : ∀ j, j < 3 → w.cell? ⟨b, i * 3 + j, none⟩ = (rowCells (Ucd.rows.getD i (0, 0, 0)))[j]? := fun j hj => by
    rw [h (i * 3 + j) (by omega), tableCells, List.getElem?_toArray, Ucd.flat_at rowCells (fun _ => rfl) Ucd.rows i j (by rw [Ucd.rows_len]; exact hi) hj]
  exact ⟨e 0 (by omega), e 1 (by omega), e 2 (by omega)⟩
theorem TabAt.mono {w w' : World} {b B : Nat} (h : TabAt w b) (hb : Below B w w') (hB : b < B) : TabAt w' b := fun i hi => (hb.cell (p := ⟨b, i, none⟩) hB).trans (h i hi)
theorem tabAt_new (w : World) : TabAt (w.alloc (.cells tableCells 97)) w.heap.size := fun i hi => by
  unfold World.cell?
  rw [heap_alloc_last]
  rfl
theorem search_any (r : Int) (bR bT : Nat) (w : World) (hbR : bR < w.heap.size) (hbT : bT < w.heap.size) (hR : w.cell? ⟨bR, 0, none⟩ = some (.int .i32 r)) (hT : TabAt w bT) :
    Calls Tryz.prog 47 #[.int .i64 147, .func (.func 48) #[] #[.pointer (some ⟨bR, 0, none⟩), .pointer (some ⟨bT, 0, none⟩)]] w fun e w' =>
      ∃ k : Nat, e = .returned (.int .i64 k) ∧ Below w.heap.size w w' ∧ k ≤ 147 ∧ (∀ t, t < k → Ucd.hi Ucd.rows t < r) ∧ (∀ t, k ≤ t → t < 147 → r ≤ Ucd.hi Ucd.rows t) := by
  have HF : Hid (∀ w', Below w.heap.size w w' → ∀ i : Nat, i < 147 → Calls Tryz.prog 48 #[.int .i64 i, .pointer (some ⟨bR, 0, none⟩), .pointer (some ⟨bT, 0, none⟩)] w' fun e w'' => e = .returned (.bool (decide (r ≤ Ucd.hi Ucd.rows i))) ∧ Below w.heap.size w w'') :=
    hide fun w' hb i hi => (closure_any r _ i bR bT w' hi ((hb.cell (p := ⟨bR, 0, none⟩) hbR).trans hR) ((hT.mono hb hbT).at hi).2.1).mono fun e w'' ⟨h1, h2⟩ => ⟨h1, hb.trans (h2.mono hb.size)⟩
  clear hR hT hbR hbT
  go_enter Tryz.func47, Tryz.ntmps47
  go_wp2_with fail
  go_loopw [5, 6] (fun s5 s6 wr => ∃ (lo hi : Nat), s5 = .int .i64 lo ∧ s6 = .int .i64 hi ∧ lo ≤ hi ∧ hi ≤ 147 ∧ Below w.heap.size w wr ∧ Hid ((∀ t, t < lo → Ucd.hi Ucd.rows t < r) ∧ (∀ t, hi ≤ t → t < 147 → r ≤ Ucd.hi Ucd.rows t))) (fun s5 s6 _ => (intOf s6 - intOf s5).toNat)
  case atStart => exact ⟨0, 147, rfl, rfl, by omega, by omega, Below.refl _ _, hide ⟨fun t ht => by omega, fun t h1 h2 => by omega⟩⟩
  case round =>
    obtain ⟨lo, hi, rfl, rfl, hlh, hin, hb, I⟩ := hrel
    by_cases hlt : lo < hi
    · have hc := HF.out wr hb ((lo + hi) / 2) (by omega)
      rw [show (((lo + hi) / 2 : Nat) : Int) = ((lo : Int) + (hi : Int)) / 2 by omega] at hc
      by_cases hp : r ≤ Ucd.hi Ucd.rows ((lo + hi) / 2)
      · rw [decide_eq_true hp] at hc
        have HP := hide hp
        clear hp
        go_wp2_with (go_at_call 48; refine hc.mono ?_; rintro e w' ⟨rfl, hb'⟩)
        go_roundw
        case rel => exact ⟨lo, (lo + hi) / 2, rfl, by congr 1, by omega, by omega, hb', hide ⟨I.out.1, fun t h1 h2 => Int.le_trans HP.out (Ucd.hi_rows h1 h2)⟩⟩
        case measure => simp [intOf]; omega
      · rw [decide_eq_false hp] at hc
        have HP := hide hp
        clear hp
        go_wp2_with (go_at_call 48; refine hc.mono ?_; rintro e w' ⟨rfl, hb'⟩)
        go_roundw
        case rel => exact ⟨(lo + hi) / 2 + 1, hi, by congr 1, rfl, by omega, by omega, hb', hide ⟨fun t h1 => by have := Ucd.hi_rows (a := t) (b := (lo + hi) / 2) (by omega) (by omega); have := HP.out; omega, I.out.2⟩⟩
        case measure => simp [intOf]; omega
    · obtain rfl : lo = hi := by omega
      go_wp2
      go_ret
      exact ⟨lo, rfl, hb, hin, I.out.1, I.out.2⟩
/-- A whole value goes into the block that was made last. -/
theorem wpList_store_new {P : Program} {ops : Array Oper} {rest : List Oper} {o : Oper} {a : Act} {Q : Exit → Act → World → Prop} (w : World) (hgd : o.guard = none) (ty : TypeId) (x y : Operand) (ho : o.op = .store ty x y)
    (hd : o.dst = none) (c c' : Array Value) (hx : a.eval x = .pointer (some ⟨w.heap.size, 0, none⟩)) (hy : a.eval y = .agg c') (hi : (P.info? ty).map (·.size) = some c'.size)
    (hold : c.size = c'.size) (h1 : c'.all (·.oneCell') = true)
    (h : wpList P ops Q rest a (w.alloc (.cells c' ty))) : wpList P ops Q (o :: rest) a (w.alloc (.cells c ty)) :=
  wpList_store_rowTo hgd ty x y ho hd w.heap.size c' hx hy ty c (heap_alloc_last w _) hi hold h1 (by rw [World.setRow_alloc_new]; exact h)
theorem class_any (r : Int) (w : World) (hr : (Lit.int .i32 r).wf = true) :
    Calls Tryz.prog 34 #[.int .i32 r] w fun e w' => e = .returned (.int .i64 (Ucd.cls r)) ∧ Below w.heap.size w w' := by
  have hz := (zero_of_info tableInfo).1
  have HV := hide (valid_any r (w.alloc (.cells #[.int .i32 r] 21)) hr)
  have hcR : (w.alloc (.cells #[.int .i32 r] 21)).cell? ⟨w.heap.size, 0, none⟩ = some (.int .i32 r) := by rw [World.cell?_alloc_at _ _ _ _ (by simp)]; rfl
  have HB := hide (show Below w.heap.size w (w.alloc (.cells #[.int .i32 r] 21)) from (Below.refl _ _).alloc (Nat.le_refl _) _)
  have HS := hide (show (w.alloc (.cells #[.int .i32 r] 21)).heap.size = w.heap.size + 1 from by simp)
  have hc := hcR
  clear hr
  cases hv : Ucd.valid r
  · have HC := hide (Ucd.cls_not hv)
    rw [hv] at HV
    clear hv
    go_enter Tryz.func34, Tryz.ntmps34
    go_wp2_with fail
    refine HV.out.mono ?_
    rintro e w1 ⟨rfl, rfl⟩
    go_wp2
    go_ret
    exact ⟨ret_int HC.out.symm, HB.out⟩
  · have HVV := hide hv
    rw [hv] at HV
    clear hv
    go_enter Tryz.func34, Tryz.ntmps34
    go_wp2_with fail
    refine HV.out.mono ?_
    rintro e w1 ⟨rfl, rfl⟩
    generalize w.alloc (.cells #[.int .i32 r] 21) = W at *
    go_wp2_with fail
    refine (table_any W).mono ?_
    rintro e w2 ⟨rfl, hb2⟩
    go_wp2_with (refine wpList_store_new w2 rfl 97 _ _ rfl rfl zeroCells tableCells rfl rfl tableInfo' (by rw [zeroSize, tableSize]) tableOne ?_)
    have hbw : Below w.heap.size w (w2.alloc (.cells tableCells 97)) := (HB.out.trans (hb2.mono (by have := HS.out; omega))).alloc (by have := HS.out; have := hb2.size; omega) _
    have hlt : w.heap.size < w2.heap.size := by have := HS.out; have := hb2.size; omega
    have hR : (w2.alloc (.cells tableCells 97)).cell? ⟨w.heap.size, 0, none⟩ = some (.int .i32 r) := by
      rw [World.cell?_alloc_past _ _ _ (by exact hlt)]
      exact (hb2.cell (p := ⟨w.heap.size, 0, none⟩) (by have := HS.out; show w.heap.size < _; omega)).trans hc
    have hT := tabAt_new w2
    have hs3 : (w2.alloc (.cells tableCells 97)).heap.size = w2.heap.size + 1 := by simp
    clear hb2 hc hcR HV HB HS hz
    generalize hb : w2.heap.size = b at *
    clear hb
    generalize w2.alloc (.cells tableCells 97) = W3 at *
    refine (search_any r w.heap.size b W3 (by omega) (by omega) hR hT).mono ?_
    rintro e w4 ⟨k, rfl, hb4, hk, h1, h2⟩
    have HC := hide (Ucd.cls_at HVV.out k hk h1 h2)
    have HB := hide (hbw.trans (hb4.mono (by omega)))
    have hR4 := (hb4.cell (p := ⟨w.heap.size, 0, none⟩) (by show w.heap.size < _; omega)).trans hR
    have hT4 := hT.mono hb4 (by omega)
    clear h1 h2 hT hR hbw hb4
    by_cases hkk : k < 147
    · obtain ⟨c0, c1, c2⟩ := hT4.at hkk
      have hkI : (k : Int) < 147 := by omega
      clear hT4
      generalize Ucd.lo Ucd.rows k = L at *
      generalize Ucd.cl Ucd.rows k = C at *
      by_cases hl : L ≤ r
      · rw [if_pos ⟨hkk, hl⟩] at HC
        go_wp2_with fail
        go_region
        all_goals (try go_wp2)
        all_goals go_ret
        all_goals exact ⟨ret_int HC.out.symm, HB.out.drew⟩
      · rw [if_neg (fun h => hl h.2)] at HC
        go_wp2_with fail
        go_region
        all_goals (try go_wp2)
        all_goals go_ret
        all_goals exact ⟨ret_int HC.out.symm, HB.out.drew⟩
    · obtain rfl : k = 147 := by omega
      rw [if_neg (by omega)] at HC
      clear hT4
      go_wp2_with fail
      go_region
      all_goals (try go_wp2)
      all_goals go_ret
      all_goals exact ⟨ret_int HC.out.symm, HB.out.drew⟩
end Go.Proofs.YtmdmehopefgndaaGreatDoor

/- The contract of ucd.Ranges: a new slice of all the rows. -/
namespace Go.Proofs.YtmdmehopefgndaaGreatDoor
open Go.RowKit
set_option linter.unusedVariables false
set_option maxHeartbeats 1000000
set_option maxRecDepth 100000
/-- Some cells of a row, replaced. -/
def segset : Array Value → Nat → List Value → Array Value
  | cur, _, [] => cur
  | cur, k, v :: vs => segset (cur.setIfInBounds k v) (k + 1) vs
theorem segset_size : ∀ (vs : List Value) (cur : Array Value) (k : Nat), (segset cur k vs).size = cur.size
  | [], _, _ => rfl
  | v :: vs, cur, k => by rw [segset, segset_size vs]; simp
theorem segset_low : ∀ (vs : List Value) (cur : Array Value) (k j : Nat), j < k → (segset cur k vs)[j]? = cur[j]?
  | [], _, _, _, _ => rfl
  | v :: vs, cur, k, j, h => by rw [segset, segset_low vs _ _ _ (by omega), Array.getElem?_setIfInBounds, if_neg (by omega)]
theorem segset_high : ∀ (vs : List Value) (cur : Array Value) (k j : Nat), k + vs.length ≤ j → (segset cur k vs)[j]? = cur[j]?
  | [], _, _, _, _ => rfl
  | v :: vs, cur, k, j, h => by
    simp only [List.length_cons] at h
    rw [segset, segset_high vs _ _ _ (by omega), Array.getElem?_setIfInBounds, if_neg (by omega)]
theorem segset_in : ∀ (vs : List Value) (cur : Array Value) (k j : Nat), j < vs.length → k + vs.length ≤ cur.size → (segset cur k vs)[k + j]? = vs[j]?
  | [], _, _, _, h, _ => by simp at h
  | v :: vs, cur, k, 0, _, hs => by
    simp only [List.length_cons] at hs
    rw [segset, segset_low vs _ _ _ (by omega), Nat.add_zero, Array.getElem?_setIfInBounds, if_pos rfl, if_pos (by omega)]
    rfl
  | v :: vs, cur, k, j + 1, h, hs => by
    simp only [List.length_cons] at h hs
    rw [segset, show k + (j + 1) = k + 1 + j from by omega, segset_in vs _ _ _ (by omega) (by simp; omega)]
    rfl
theorem setRow_self {w : World} {g : Nat} {cur : Array Value} {t : TypeId} {fr : Nat × Nat} (hg : w.heap[g]? = some (.cells cur t fr)) : w.setRow g cur = w := by
  have hlt : g < w.heap.size := (Array.getElem?_eq_some_iff.1 hg).1
  have hv : w.heap[g] = .cells cur t fr := (Array.getElem?_eq_some_iff.1 hg).2
  unfold World.setRow
  cases w with
  | mk heap tape drawn os output =>
    congr 1
    apply Array.ext
    · simp
    · intro k h1 h2
      simp only [Array.getElem_modify]
      split
      · rename_i hk; subst hk; simp at hv; simp [hv]
      · rfl
theorem run_storeCells_seg {P : Program} (g off : Nat) (t : TypeId) : ∀ (vs : List Value) (i : Nat) (cur : Array Value) (w : World), w.heap[g]? = some (.cells cur t (0, 0)) → off + i + vs.length ≤ cur.size → (∀ v ∈ vs, v.oneCell' = true) →
    (storeCells ⟨g, off, none⟩ vs i).run P w = .ok () (w.setRow g (segset cur (off + i) vs))
  | [], i, cur, w, hg, hl, _ => by
    simp only [storeCells, segset, setRow_self hg]
    rfl
  | v :: rest, i, cur, w, hg, hl, h1 => by
    have hi : off + i < cur.size := by simp at hl; omega
    have hadd : (⟨g, off, none⟩ : Addr).add i = ⟨g, off + i, none⟩ := by unfold Addr.add; split <;> simp_all
    have hcell : w.cell? ⟨g, off + i, none⟩ = some cur[off + i] := by simp [World.cell?, hg, hi]
    have hfro : w.frozen? ⟨g, off + i, none⟩ = false := by simp [World.frozen?, hg]
    have hst : (store ((⟨g, off, none⟩ : Addr).add i) v).run P w = .ok () (w.setRow g (cur.setIfInBounds (off + i) v)) := by
      rw [hadd, run_store P w _ v _ (h1 v (by simp)), hcell]
      simp [hfro, setCell_eq_setRow w g (off + i) cur t (0, 0) v hg]
    have ih := run_storeCells_seg (P := P) g off t rest (i + 1) (cur.setIfInBounds (off + i) v) (w.setRow g (cur.setIfInBounds (off + i) v)) (setRow_heap w g cur _ t _ hg) (by simp at hl ⊢; omega) (fun x hx => h1 x (by simp [hx]))
    simp only [storeCells, Sem.run_bind, hst, Result.andThen_ok, ih, setRow_setRow, segset]
    rfl
/-- A value of several cells goes into a row, at a place. -/
theorem wpList_store_seg {P : Program} {ops : Array Oper} {rest : List Oper} {o : Oper} {a : Act} {w : World} {Q : Exit → Act → World → Prop} (hgd : o.guard = none) (ty : TypeId) (x y : Operand) (ho : o.op = .store ty x y)
    (hd : o.dst = none) (g off : Nat) (cells : Array Value) (hx : a.eval x = .pointer (some ⟨g, off, none⟩)) (hy : a.eval y = .agg cells)
    (t : TypeId) (cur : Array Value) (hg : w.heap[g]? = some (.cells cur t (0, 0))) (hi : (P.info? ty).map (·.size) = some cells.size)
    (hold : off + cells.size ≤ cur.size) (h1 : cells.all (·.oneCell') = true)
    (h : wpList P ops Q rest a (w.setRow g (segset cur off cells.toList))) : wpList P ops Q (o :: rest) a w := by
  refine wpList_plain hgd fun K hK => ?_
  have hr := run_storeCells_seg (P := P) g off t cells.toList 0 cur w hg (by simpa using hold) (fun v hv => (Array.all_eq_true_iff_forall_mem.1 h1) v (by simpa using hv))
  have hrun : (storeVar ty ⟨g, off, none⟩ (.agg cells)).run P w = .ok () (w.setRow g (segset cur off cells.toList)) := by
    cases hq : P.info? ty with
    | none => simp [hq] at hi
    | some i =>
      have hs : cells.size = i.size := by simp [hq] at hi; omega
      simpa [storeVar, sizeOf, typeInfo, hq, Value.cells, hs] using hr
  unfold Oper.wp execOp
  simp only [ho, hx, hy, Instr.storeAt, Instr.sureAddr, Sem.run_bind, Sem.run_pure, Result.andThen_ok, hrun]
  exact hK _ _ (by rw [hd]; exact h)
theorem below_setRow {B : Nat} {w w' : World} (h : Below B w w') {g : Nat} (hg : B ≤ g) (cs : Array Value) : Below B w (w'.setRow g cs) :=
  ⟨h.os, h.tape, h.output, by rw [setRow_size]; exact h.size, fun i hi => by rw [setRow_other _ _ _ _ (by omega)]; exact h.block i hi⟩
theorem alloc_old (w : World) (o : Obj) {b : Nat} (h : b < w.heap.size) : (w.alloc o).heap[b]? = w.heap[b]? := by
  show (w.heap.push o)[b]? = w.heap[b]?
  rw [Array.getElem?_push, if_neg (Nat.ne_of_lt h)]
end Go.Proofs.YtmdmehopefgndaaGreatDoor
