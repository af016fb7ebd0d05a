import Derived.Test.YtfcoebbblfcdoaaGreatDoorRows
import Derived.Test.YtfcoebbblfcdoaaGreatDoorZ16
import Derived.WalkKit
import Derived.WalkSpells
import Derived.WalkLawsBesides
import Derived.Outline
import Derived.Laws.Tables
import Derived.Great.BuildSlice
import Derived.Below
import Derived.Deep.WholeRow
import Derived.Test.YtfcoebbblfcdoaaGreatDoorZ01
import Derived.Deep.RegionHeld3
import Derived.Maps.Own
import Derived.Maps.OwnOps
import Derived.Maps.Views
/- The table that the function 'table' answers: its contract. -/
namespace Go.Proofs.YtfcoebbblfcdoaaGreatDoor
open Go.RowKit
set_option linter.unusedVariables false
def rowCells (p : Ucd.Rg) : List Value := [.int .i32 p.1, .int .i32 p.2.1, .int .i64 p.2.2]
def tableCells : Array Value := (Ucd.flat rowCells Ucd.rows).toArray
def constOf : Operand -> Option Value
 | .const v => some v
 | _ => none
def partsOf : List (Nat × Operand) -> Option (List (Nat × Value))
 | [] => some []
 | (i, x) :: t => match constOf x, partsOf t with
  | some v, some r => some ((i, v) :: r)
  | _, _ => none
def builtBy (P : Program) (o : Oper) : Option (Tmp × Array Value) :=
 match o.guard, o.dst, o.op with
 | none, some d, .build t parts => match partsOf parts.toList with
  | some vs => (P.built t vs).map fun c => (d, c)
  | none => none
 | _, _, _ => none
theorem partsOf_eval (a : Act) : ∀ (l : List (Nat × Operand)) (vs : List (Nat × Value)), partsOf l = some vs -> l.map (fun (i, x) => (i, a.eval x)) = vs
 | [], vs, h => by simp [partsOf] at h; subst h; rfl
 | (i, x) :: t, vs, h => by
  simp only [partsOf] at h
  split at h
  ·rename_i v r hv hr
   cases h
   cases x <;> simp [constOf] at hv
   subst hv
   simp only [List.map_cons, partsOf_eval a t r hr]
   rfl
  ·cases h
theorem wpList_builds {P : Program} {ops : Array Oper} {Q : Exit -> Act -> World -> Prop} : ∀ (l : List Oper) (vs : List (Tmp × Array Value)) (rest : List Oper) (a : Act) (w : World),
  l.mapM (builtBy P) = some vs -> wpList P ops Q rest (vs.foldl (fun a p => a.put (some p.1) (.agg p.2)) a) w -> wpList P ops Q (l ++ rest) a w
 | [], vs, rest, a, w, h, hw => by simp at h; subst h; exact hw
 | o :: l, vs, rest, a, w, h, hw => by
  simp only [List.mapM_cons, Option.bind_eq_bind, Option.pure_def] at h
  cases hb : builtBy P o with
  | none => simp [hb] at h
  | some p =>
   cases hr : l.mapM (builtBy P) with
   | none => simp [hb, hr] at h
   | some r =>
    simp [hb, hr] at h
    subst h
    obtain ⟨d, c⟩ := p
    unfold builtBy at hb
    split at hb
    ·rename_i t parts hg hd ho
     split at hb
     ·rename_i us hu
      simp only [Option.map_eq_some_iff, Prod.mk.injEq] at hb
      obtain ⟨c', hc, rfl, rfl⟩ := hb
      refine wpList_buildTo hg t parts ho _ hd c' ?_ ?_
      ·rw [Array.toList_map, partsOf_eval a _ _ hu]; exact hc
      ·exact wpList_builds l r rest _ w hr hw
     ·cases hb
    ·cases hb
def numbered : Nat -> List (Array Value) -> List (Tmp × Array Value)
 | _, [] => []
 | k, c :: cs => (k, c) :: numbered (k + 1) cs
abbrev puts (vs : List (Tmp × Array Value)) (a : Act) : Act := vs.foldl (fun a p => a.put (some p.1) (.agg p.2)) a
theorem puts_size : ∀ (vs : List (Tmp × Array Value)) (a : Act), (puts vs a).tmps.size = a.tmps.size
 | [], _ => rfl
 | p :: vs, a => by
  have := puts_size vs (a.put (some p.1) (.agg p.2))
  simp only [puts, List.foldl_cons] at this ⊢
  rw [this]; simp [Act.put]
theorem puts_defers : ∀ (vs : List (Tmp × Array Value)) (a : Act), (puts vs a).defers = a.defers
 | [], _ => rfl
 | p :: vs, a => by
  have := puts_defers vs (a.put (some p.1) (.agg p.2))
  simp only [puts, List.foldl_cons] at this ⊢
  rw [this]; rfl
theorem puts_low : ∀ (cs : List (Array Value)) (k i : Nat) (a : Act), i < k -> (puts (numbered k cs) a).tmps.getD i undef = a.tmps.getD i undef
 | [], _, _, _, _ => rfl
 | c :: cs, k, i, a, h => by
  have := puts_low cs (k + 1) i (a.put (some k) (.agg c)) (by omega)
  simp only [puts, numbered, List.foldl_cons] at this ⊢
  rw [this]
  simp [Act.put, show ¬ k = i from by omega]
theorem puts_at : ∀ (cs : List (Array Value)) (k i : Nat) (a : Act), k + cs.length <= a.tmps.size -> i < cs.length -> (puts (numbered k cs) a).tmps.getD (k + i) undef = .agg (cs.getD i #[])
 | [], _, _, _, _, h => by simp at h
 | c :: cs, k, 0, a, hs, _ => by
  have := puts_low cs (k + 1) k (a.put (some k) (.agg c)) (by omega)
  simp only [puts, numbered, List.foldl_cons, Nat.add_zero] at this ⊢
  rw [this]
  simp at hs
  simp [Act.put, show k < a.tmps.size from by omega]
 | c :: cs, k, i + 1, a, hs, h => by
  have := puts_at cs (k + 1) i (a.put (some k) (.agg c)) (by simp [Act.put] at hs ⊢; omega) (by simpa using h)
  simp only [puts, numbered, List.foldl_cons] at this ⊢
  rw [show k + (i + 1) = k + 1 + i from by omega, this]
  simp
theorem parts_slots (a : Act) (cs : List (Array Value)) (k : Nat) (hs : k + cs.length <= a.tmps.size) (parts : Array (Nat × Operand)) (hp : parts.toList = (List.range cs.length).map fun i => (i, Operand.tmp (k + i))) :
  (parts.map fun (i, x) => (i, (puts (numbered k cs) a).eval x)).toList = (List.range cs.length).map fun i => (i, Value.agg (cs.getD i #[])) := by
 rw [Array.toList_map, hp, List.map_map]
 apply List.map_congr_left
 intro i hi
 simp only [List.mem_range] at hi
 show (i, (puts (numbered k cs) a).tmps.getD (k + i) undef) = _
 rw [puts_at cs k i a hs hi]
theorem wpList_run {P : Program} {ops : Array Oper} {rest : List Oper} {o : Oper} {a : Act} {w : World} {Q : Exit -> Act -> World -> Prop} (hg : o.guard = none) (dst : Option Tmp) (hdst : o.dst = dst)
  (v : Value) (w' : World) (hrun : (execOp a.eval o).run P w = .ok (.value v) w')
  (h : wpList P ops Q rest (a.put dst v) w') : wpList P ops Q (o :: rest) a w := by
 subst hdst
 refine wpList_plain hg fun K hK => ?_
 unfold Oper.wp
 rw [hrun, Oper.upon_value]
 exact hK _ _ h
theorem put_other (a : Act) (d i : Nat) (v : Value) (h : ¬ d = i) : (a.put (some d) v).tmps.getD i undef = a.tmps.getD i undef := by simp [Act.put, h]
theorem put_same (a : Act) (d : Nat) (v : Value) (h : d < a.tmps.size) : (a.put (some d) v).tmps.getD d undef = v := by simp [Act.put, h]
theorem put_size (a : Act) (d : Nat) (v : Value) : (a.put (some d) v).tmps.size = a.tmps.size := by simp [Act.put]
theorem calls_bare {P : Program} {f : FuncId} {fn : Func} {c : Code} {w : World} {R : Ending -> World -> Prop} (n : Nat)
  (hf : P.funcs[f]? = some fn) (hb : fn.body = some c) (hn : fn.ntmps = n)
  (h : ∀ a : Act, a.tmps.size = n -> a.defers = [] -> c.wp P (bodyPost P fn R) a w) : Calls P f #[] w R :=
 calls_of_wp hf hb (h _ (by simp [hn]) rfl)
def lastOf (o : Oper) : Option (Tmp × TypeId × List (Nat × Operand)) :=
 match o.guard, o.dst, o.op with
 | none, some d, .build t parts => some (d, t, parts.toList)
 | _, _, _ => none
def storeOf (o : Oper) : Option (TypeId × Operand × Operand) :=
 match o.guard, o.dst, o.op with
 | none, none, .store t x y => some (t, x, y)
 | _, _, _ => none
theorem wpList_tab {P : Program} {ops : Array Oper} {Q : Exit -> Act -> World -> Prop} {l : List Oper} {a : Act} {w : World} (cs : List (Array Value)) (d : Tmp) (t : TypeId) (x : Operand) (cells : Array Value)
  (hs : 1 + cs.length < a.tmps.size) (hl : l.length = cs.length + 2) (h1 : (l.take cs.length).mapM (builtBy P) = some (numbered 1 cs))
  (h2 : (l[cs.length]?).bind lastOf = some (d, t, (List.range cs.length).map fun i => (i, Operand.tmp (1 + i)))) (hd : d = 1 + cs.length)
  (h3 : P.built t ((List.range cs.length).map fun i => (i, Value.agg (cs.getD i #[]))) = some cells)
  (h4 : (l[cs.length + 1]?).bind storeOf = some (t, x, .tmp d))
  (g : Nat) (hx : x = .tmp 0) (h0 : a.tmps.getD 0 undef = .pointer (some ⟨g, 0, none⟩)) (e : TypeId) (old : Array Value) (hg : w.heap[g]? = some (.cells old e (0, 0)))
  (hi : (P.info? t).map (·.size) = some cells.size) (hold : old.size = cells.size) (hone : cells.all (·.oneCell') = true)
  (h : ∀ a' : Act, a'.defers = a.defers -> a'.tmps.size = a.tmps.size -> a'.tmps.getD 0 undef = .pointer (some ⟨g, 0, none⟩) -> Q .normal a' (w.setRow g cells)) : wpList P ops Q l a w := by
 have hsplit : l = l.take cs.length ++ l.drop cs.length := (List.take_append_drop _ _).symm
 rw [hsplit]
 refine wpList_builds _ _ _ _ _ h1 ?_
 have e1 : cs.length < l.length := by omega
 have e2 : cs.length + 1 < l.length := by omega
 rw [List.drop_eq_getElem_cons e1, List.drop_eq_getElem_cons e2, List.drop_of_length_le (by omega)]
 rw [List.getElem?_eq_getElem e1, Option.bind_some] at h2
 rw [List.getElem?_eq_getElem e2, Option.bind_some] at h4
 unfold lastOf at h2
 split at h2
 ·rename_i d1 t1 parts hg1 hd1 ho1
  simp only [Option.some.injEq, Prod.mk.injEq] at h2
  obtain ⟨rfl, rfl, hp⟩ := h2
  unfold storeOf at h4
  split at h4
  ·rename_i ty x1 y1 hg2 hd2 ho2
   simp only [Option.some.injEq, Prod.mk.injEq] at h4
   obtain ⟨rfl, rfl, rfl⟩ := h4
   subst hd
   refine wpList_buildTo hg1 _ parts ho1 _ hd1 cells ?_ ?_
   ·rw [parts_slots a cs 1 (by omega) parts hp]; exact h3
   ·have hsz := puts_size (numbered 1 cs) a
    have z0 : ((puts (numbered 1 cs) a).put (some (1 + cs.length)) (.agg cells)).tmps.getD 0 undef = .pointer (some ⟨g, 0, none⟩) := by
     rw [put_other _ _ _ _ (by omega), puts_low cs 1 0 a (by omega), h0]
    refine wpList_store_rowTo hg2 _ _ _ ho2 hd2 g cells ?_ ?_ e old hg hi hold hone ?_
    ·rw [hx]; exact z0
    ·exact put_same _ _ _ (by rw [hsz]; omega)
    ·refine wpList_nil (h _ ?_ ?_ z0)
     ·exact puts_defers (numbered 1 cs) a
     ·rw [put_size, hsz]
  ·cases h4
 ·cases h2
def rowArrays : List (Array Value) := Ucd.rows.map fun p => (rowCells p).toArray
def zeroCells : Array Value := (Ucd.flat (fun _ => rowCells (0, 0, 0)) Ucd.rows).toArray
theorem tableBuilt : Tryz.prog.built 125 ((List.range rowArrays.length).map fun i => (i, Value.agg (rowArrays.getD i #[]))) = some tableCells := by kernel_rfl
theorem tableInfo : (Tryz.prog.info? 125).map (fun i => (i.zero, i.size)) = some (some (.agg zeroCells), 441) := by kernel_rfl
theorem tableOne : tableCells.all (·.oneCell') = true := by kernel_rfl
theorem tableSize : tableCells.size = 441 := by kernel_rfl
theorem zeroSize : zeroCells.size = 441 := by kernel_rfl
theorem rowsLen : rowArrays.length = 147 := by kernel_rfl
theorem tableInfo' : (Tryz.prog.info? 125).map (·.size) = some tableCells.size := by
 rw [tableSize]; exact (zero_of_info tableInfo).2
set_option maxRecDepth 100000 in
theorem table_any (w : World) : Calls Tryz.prog 77 #[] w fun e w' => e = .returned (.agg tableCells) /\ Below w.heap.size w w' := by
 refine calls_bare 149 Tryz.func77 rfl Tryz.ntmps77 fun a hs hdf => ?_
 refine wp_seq ?_
 refine wp_region_list ?_
 refine wpList_run rfl (some 0) rfl (.pointer (some ⟨w.heap.size, 0, none⟩)) (w.alloc (.cells zeroCells 125)) ?_ ?_
 ·have hz := (zero_of_info tableInfo).1
  simp [execOp, hz, go_sem]
 refine wpList_nil ?_
 refine wp_seq ?_
 refine wp_region_list ?_
 refine wpList_tab rowArrays 148 125 (.tmp 0) tableCells (by rw [put_size, rowsLen]; omega) (by kernel_rfl) (by kernel_rfl) (by kernel_rfl) (by kernel_rfl) tableBuilt (by kernel_rfl) w.heap.size rfl
  (put_same _ _ _ (by omega)) 125 zeroCells (heap_alloc_last w _) tableInfo' (by rw [zeroSize, tableSize]) tableOne ?_
 intro a' hd hsz h0
 rw [World.setRow_alloc_new]
 refine wp_ret ?_
 exact bodyPost_ret (results_cell_row Tryz.results77 _ _ w.heap.size 125 tableCells (0, 0) _ h0 (heap_alloc_last w _) Tryz.underlying125 rfl tableInfo') (hd.trans hdf)
  ⟨rfl, (Below.refl _ _).alloc (Nat.le_refl _) _⟩
end Go.Proofs.YtfcoebbblfcdoaaGreatDoor

/- Contracts of utf8.ValidRune, the closure of Class, sort.Search, Class. -/
namespace Go.Proofs.YtfcoebbblfcdoaaGreatDoor
open Go.RowKit
set_option linter.unusedVariables false
set_option maxHeartbeats 1000000
set_option maxRecDepth 100000
theorem valid_any (r : Int) (w : World) (hr : (Lit.int .i32 r).wf = true) :
  Calls Tryz.prog 76 #[.int .i32 r] w fun e w' => e = .returned (.bool (Ucd.valid r)) /\ w = w' := by
 have hv : Ucd.valid r = Ucd.valid r := rfl
 clear hr
 unfold Ucd.valid at hv
 by_cases h0 : 0 <= r
 ·by_cases h1 : r < 55296
  ·go_enter Tryz.func76, Tryz.ntmps76
   go_wp2
   go_ret
   exact ⟨ret_bool (by simp [Ucd.valid]; omega), rfl⟩
  ·by_cases h2 : 57343 < r
   ·by_cases h3 : r <= 1114111
    ·go_enter Tryz.func76, Tryz.ntmps76
     go_wp2
     go_ret
     exact ⟨ret_bool (by simp [Ucd.valid]; omega), rfl⟩
    ·go_enter Tryz.func76, Tryz.ntmps76
     go_wp2
     go_ret
     exact ⟨ret_bool (by simp [Ucd.valid]; omega), rfl⟩
   ·go_enter Tryz.func76, Tryz.ntmps76
    go_wp2
    go_ret
    exact ⟨ret_bool (by simp [Ucd.valid]; omega), rfl⟩
 ·by_cases h2 : 57343 < r
  ·omega
  ·go_enter Tryz.func76, Tryz.ntmps76
   go_wp2
   go_ret
   exact ⟨ret_bool (by simp [Ucd.valid]; omega), rfl⟩
theorem closure_any (r h : Int) (i : Nat) (bR bT : Nat) (w : World) (hi : i < 147) (hR : w.cell? ⟨bR, 0, none⟩ = some (.int .i32 r)) (hT : w.cell? ⟨bT, i * 3 + 1, none⟩ = some (.int .i32 h)) :
  Calls Tryz.prog 79 #[.int .i64 i, .pointer (some ⟨bR, 0, none⟩), .pointer (some ⟨bT, 0, none⟩)] w fun e w' => e = .returned (.bool (decide (r <= h))) /\ Below w.heap.size w w' := by
 go_enter Tryz.func79, Tryz.ntmps79
 go_wp2_with fail
 go_region
 all_goals (try go_wp2)
 all_goals go_ret
 all_goals exact ⟨rfl, (Below.refl _ _).drew⟩
def TabAt (w : World) (b : Nat) : Prop := ∀ i, i < 441 -> w.cell? ⟨b, i, none⟩ = tableCells[i]?
theorem TabAt.at {w : World} {b : Nat} (h : TabAt w b) {i : Nat} (hi : i < 147) :
  w.cell? ⟨b, i * 3, none⟩ = some (.int .i32 (Ucd.lo Ucd.rows i)) /\ w.cell? ⟨b, i * 3 + 1, none⟩ = some (.int .i32 (Ucd.hi Ucd.rows i)) /\ w.cell? ⟨b, i * 3 + 2, none⟩ = some (.int .i64 (Ucd.cl Ucd.rows i)) := by
 have e : ∀ j, j < 3 -> w.cell? ⟨b, i * 3 + j, none⟩ = (rowCells (Ucd.rows.getD i (0, 0, 0)))[j]? := fun j hj => by
  rw [h (i * 3 + j) (by omega), tableCells, List.getElem?_toArray, Ucd.flat_at rowCells (fun _ => rfl) Ucd.rows i j (by rw [Ucd.rows_len]; exact hi) hj]
 exact ⟨e 0 (by omega), e 1 (by omega), e 2 (by omega)⟩
theorem TabAt.mono {w w' : World} {b B : Nat} (h : TabAt w b) (hb : Below B w w') (hB : b < B) : TabAt w' b := fun i hi => (hb.cell (p := ⟨b, i, none⟩) hB).trans (h i hi)
theorem tabAt_new (w : World) : TabAt (w.alloc (.cells tableCells 125)) w.heap.size := fun i hi => by
 unfold World.cell?
 rw [heap_alloc_last]
 rfl
theorem search_any (r : Int) (bR bT : Nat) (w : World) (hbR : bR < w.heap.size) (hbT : bT < w.heap.size) (hR : w.cell? ⟨bR, 0, none⟩ = some (.int .i32 r)) (hT : TabAt w bT) :
  Calls Tryz.prog 78 #[.int .i64 147, .func (.func 79) #[] #[.pointer (some ⟨bR, 0, none⟩), .pointer (some ⟨bT, 0, none⟩)]] w fun e w' =>
   ∃ k : Nat, e = .returned (.int .i64 k) /\ Below w.heap.size w w' /\ k <= 147 /\ (∀ t, t < k -> Ucd.hi Ucd.rows t < r) /\ (∀ t, k <= t -> t < 147 -> r <= Ucd.hi Ucd.rows t) := by
 have HF : Hid (∀ w', Below w.heap.size w w' -> ∀ i : Nat, i < 147 -> Calls Tryz.prog 79 #[.int .i64 i, .pointer (some ⟨bR, 0, none⟩), .pointer (some ⟨bT, 0, none⟩)] w' fun e w'' => e = .returned (.bool (decide (r <= Ucd.hi Ucd.rows i))) /\ Below w.heap.size w w'') :=
  hide fun w' hb i hi => (closure_any r _ i bR bT w' hi ((hb.cell (p := ⟨bR, 0, none⟩) hbR).trans hR) ((hT.mono hb hbT).at hi).2.1).mono fun e w'' ⟨h1, h2⟩ => ⟨h1, hb.trans (h2.mono hb.size)⟩
 clear hR hT hbR hbT
 go_enter Tryz.func78, Tryz.ntmps78
 go_wp2_with fail
 go_loopw [5, 6] (fun s5 s6 wr => ∃ (lo hi : Nat), s5 = .int .i64 lo /\ s6 = .int .i64 hi /\ lo <= hi /\ hi <= 147 /\ Below w.heap.size w wr /\ Hid ((∀ t, t < lo -> Ucd.hi Ucd.rows t < r) /\ (∀ t, hi <= t -> t < 147 -> r <= Ucd.hi Ucd.rows t))) (fun s5 s6 _ => (intOf s6 - intOf s5).toNat)
 case atStart => exact ⟨0, 147, rfl, rfl, by omega, by omega, Below.refl _ _, hide ⟨fun t ht => by omega, fun t h1 h2 => by omega⟩⟩
 case round =>
  obtain ⟨lo, hi, rfl, rfl, hlh, hin, hb, I⟩ := hrel
  by_cases hlt : lo < hi
  ·have hc := HF.out wr hb ((lo + hi) / 2) (by omega)
   rw [show (((lo + hi) / 2 : Nat) : Int) = ((lo : Int) + (hi : Int)) / 2 by omega] at hc
   by_cases hp : r <= Ucd.hi Ucd.rows ((lo + hi) / 2)
   ·rw [decide_eq_true hp] at hc
    have HP := hide hp
    clear hp
    go_wp2_with (go_at_call 79; refine hc.mono ?_; rintro e w' ⟨rfl, hb'⟩)
    go_roundw
    case rel => exact ⟨lo, (lo + hi) / 2, rfl, by congr 1, by omega, by omega, hb', hide ⟨I.out.1, fun t h1 h2 => Int.le_trans HP.out (Ucd.hi_rows h1 h2)⟩⟩
    case measure => simp [intOf]; omega
   ·rw [decide_eq_false hp] at hc
    have HP := hide hp
    clear hp
    go_wp2_with (go_at_call 79; refine hc.mono ?_; rintro e w' ⟨rfl, hb'⟩)
    go_roundw
    case rel => exact ⟨(lo + hi) / 2 + 1, hi, by congr 1, rfl, by omega, by omega, hb', hide ⟨fun t h1 => by have := Ucd.hi_rows (a := t) (b := (lo + hi) / 2) (by omega) (by omega); have := HP.out; omega, I.out.2⟩⟩
    case measure => simp [intOf]; omega
  ·obtain rfl : lo = hi := by omega
   go_wp2
   go_ret
   exact ⟨lo, rfl, hb, hin, I.out.1, I.out.2⟩
theorem wpList_store_new {P : Program} {ops : Array Oper} {rest : List Oper} {o : Oper} {a : Act} {Q : Exit -> Act -> World -> Prop} (w : World) (hgd : o.guard = none) (ty : TypeId) (x y : Operand) (ho : o.op = .store ty x y)
  (hd : o.dst = none) (c c' : Array Value) (hx : a.eval x = .pointer (some ⟨w.heap.size, 0, none⟩)) (hy : a.eval y = .agg c') (hi : (P.info? ty).map (·.size) = some c'.size)
  (hold : c.size = c'.size) (h1 : c'.all (·.oneCell') = true)
  (h : wpList P ops Q rest a (w.alloc (.cells c' ty))) : wpList P ops Q (o :: rest) a (w.alloc (.cells c ty)) :=
 wpList_store_rowTo hgd ty x y ho hd w.heap.size c' hx hy ty c (heap_alloc_last w _) hi hold h1 (by rw [World.setRow_alloc_new]; exact h)
theorem class_any (r : Int) (w : World) (hr : (Lit.int .i32 r).wf = true) :
  Calls Tryz.prog 46 #[.int .i32 r] w fun e w' => e = .returned (.int .i64 (Ucd.cls r)) /\ Below w.heap.size w w' := by
 have hz := (zero_of_info tableInfo).1
 have HV := hide (valid_any r (w.alloc (.cells #[.int .i32 r] 21)) hr)
 have hcR : (w.alloc (.cells #[.int .i32 r] 21)).cell? ⟨w.heap.size, 0, none⟩ = some (.int .i32 r) := by rw [World.cell?_alloc_at _ _ _ _ (by simp)]; rfl
 have HB := hide (show Below w.heap.size w (w.alloc (.cells #[.int .i32 r] 21)) from (Below.refl _ _).alloc (Nat.le_refl _) _)
 have HS := hide (show (w.alloc (.cells #[.int .i32 r] 21)).heap.size = w.heap.size + 1 from by simp)
 have hc := hcR
 clear hr
 cases hv : Ucd.valid r
 ·have HC := hide (Ucd.cls_not hv)
  rw [hv] at HV
  clear hv
  go_enter Tryz.func46, Tryz.ntmps46
  go_wp2_with fail
  refine HV.out.mono ?_
  rintro e w1 ⟨rfl, rfl⟩
  go_wp2
  go_ret
  exact ⟨ret_int HC.out.symm, HB.out⟩
 ·have HVV := hide hv
  rw [hv] at HV
  clear hv
  go_enter Tryz.func46, Tryz.ntmps46
  go_wp2_with fail
  refine HV.out.mono ?_
  rintro e w1 ⟨rfl, rfl⟩
  generalize w.alloc (.cells #[.int .i32 r] 21) = W at *
  go_wp2_with fail
  refine (table_any W).mono ?_
  rintro e w2 ⟨rfl, hb2⟩
  go_wp2_with (refine wpList_store_new w2 rfl 125 _ _ rfl rfl zeroCells tableCells rfl rfl tableInfo' (by rw [zeroSize, tableSize]) tableOne ?_)
  have hbw : Below w.heap.size w (w2.alloc (.cells tableCells 125)) := (HB.out.trans (hb2.mono (by have := HS.out; omega))).alloc (by have := HS.out; have := hb2.size; omega) _
  have hlt : w.heap.size < w2.heap.size := by have := HS.out; have := hb2.size; omega
  have hR : (w2.alloc (.cells tableCells 125)).cell? ⟨w.heap.size, 0, none⟩ = some (.int .i32 r) := by
   rw [World.cell?_alloc_past _ _ _ (by exact hlt)]
   exact (hb2.cell (p := ⟨w.heap.size, 0, none⟩) (by have := HS.out; show w.heap.size < _; omega)).trans hc
  have hT := tabAt_new w2
  have hs3 : (w2.alloc (.cells tableCells 125)).heap.size = w2.heap.size + 1 := by simp
  clear hb2 hc hcR HV HB HS hz
  generalize hb : w2.heap.size = b at *
  clear hb
  generalize w2.alloc (.cells tableCells 125) = W3 at *
  refine (search_any r w.heap.size b W3 (by omega) (by omega) hR hT).mono ?_
  rintro e w4 ⟨k, rfl, hb4, hk, h1, h2⟩
  have HC := hide (Ucd.cls_at HVV.out k hk h1 h2)
  have HB := hide (hbw.trans (hb4.mono (by omega)))
  have hR4 := (hb4.cell (p := ⟨w.heap.size, 0, none⟩) (by show w.heap.size < _; omega)).trans hR
  have hT4 := hT.mono hb4 (by omega)
  clear h1 h2 hT hR hbw hb4
  by_cases hkk : k < 147
  ·obtain ⟨c0, c1, c2⟩ := hT4.at hkk
   have hkI : (k : Int) < 147 := by omega
   clear hT4
   generalize Ucd.lo Ucd.rows k = L at *
   generalize Ucd.cl Ucd.rows k = C at *
   by_cases hl : L <= r
   ·rw [if_pos ⟨hkk, hl⟩] at HC
    go_wp2_with fail
    go_region
    all_goals (try go_wp2)
    all_goals go_ret
    all_goals exact ⟨ret_int HC.out.symm, HB.out.drew⟩
   ·rw [if_neg (fun h => hl h.2)] at HC
    go_wp2_with fail
    go_region
    all_goals (try go_wp2)
    all_goals go_ret
    all_goals exact ⟨ret_int HC.out.symm, HB.out.drew⟩
  ·obtain rfl : k = 147 := by omega
   rw [if_neg (by omega)] at HC
   clear hT4
   go_wp2_with fail
   go_region
   all_goals (try go_wp2)
   all_goals go_ret
   all_goals exact ⟨ret_int HC.out.symm, HB.out.drew⟩
end Go.Proofs.YtfcoebbblfcdoaaGreatDoor

/- The contract of ucd.Ranges: a new slice of all the rows. -/
namespace Go.Proofs.YtfcoebbblfcdoaaGreatDoor
open Go.RowKit
set_option linter.unusedVariables false
set_option maxHeartbeats 1000000
set_option maxRecDepth 100000
end Go.Proofs.YtfcoebbblfcdoaaGreatDoor

/- The two listed tables; the contracts of sides and Bracket. -/
namespace Go.Proofs.YtfcoebbblfcdoaaGreatDoor
open Go.RowKit Go.Maps
set_option linter.unusedVariables false
set_option maxHeartbeats 1000000
set_option maxRecDepth 100000
def pairCells (l : List (Int × Int)) : Array Value := ((Ucd.flat2 l).map (Value.int .i32)).toArray
/-- The two tables lie where start-up laid them. -/
def Marks (w : World) : Prop := (∀ i, i < 20 → w.cell? ⟨0, i, none⟩ = (pairCells Ucd.mirrored)[i]?) ∧ (∀ i, i < 42 → w.cell? ⟨1, i, none⟩ = (pairCells Ucd.brackets)[i]?)
theorem Marks.lt {w : World} (h : Marks w) : 1 < w.heap.size := World.block_lt_of_cell? w (u := .int .i32 40) (a := ⟨1, 0, none⟩) (by rw [h.2 0 (by omega)]; rfl)
theorem Marks.below {w w' : World} (h : Marks w) (hb : Below w.heap.size w w') : Marks w' :=
  ⟨fun i hi => (hb.cell (p := ⟨0, i, none⟩) (by have := h.lt; show 0 < _; omega)).trans (h.1 i hi), fun i hi => (hb.cell (p := ⟨1, i, none⟩) h.lt).trans (h.2 i hi)⟩
/-- A whole array out of a block, by its cells. -/
theorem wpList_load_cells {P : Program} {ops : Array Oper} {rest : List Oper} {o : Oper} {a : Act} {w : World} {Q : Exit → Act → World → Prop} (hgd : o.guard = none) (ty : TypeId) (x : Operand) (ho : o.op = .load ty x)
    (g : Nat) (hx : a.eval x = .pointer (some ⟨g, 0, none⟩)) (cs : Array Value) (d : TypeDesc) (hc : ∀ i, i < cs.size → w.cell? ⟨g, i, none⟩ = cs[i]?)
    (hu : P.underlying ty = some d) (hd : (match d with | .struct _ | .array _ _ => true | _ => false) = true) (hi : (P.info? ty).map (·.size) = some cs.size)
    (h : wpList P ops Q rest (a.put o.dst (.agg cs)) w) : wpList P ops Q (o :: rest) a w := by
  refine wpList_plain hgd fun K hK => ?_
  have hl := run_loadCells_list (P := P) w ⟨g, 0, none⟩ cs.toList (fun j v hv => by
    have hadd : (⟨g, 0, none⟩ : Addr).add j = ⟨g, j, none⟩ := by unfold Addr.add; split <;> simp_all
    have hj : j < cs.size := by
      have := (List.getElem?_eq_some_iff.1 hv).1
      simpa using this
    rw [hadd, hc j hj]
    simpa using hv)
  have hrun : (loadVar ty ⟨g, 0, none⟩).run P w = .ok (.agg cs) w := by
    cases hq : P.info? ty with
    | none => simp [hq] at hi
    | some i =>
      have hs : i.size = cs.size := by simpa [hq] using hi
      have hagg : (isAgg ty).run P w = .ok true w := by
        unfold isAgg
        rw [Sem.run_bind, run_underlying hu w]
        cases d <;> simp_all
      simp only [Array.length_toList, Array.toArray_toList] at hl
      simp [loadVar, Sem.run_bind, hagg, sizeOf, typeInfo, hq, hs, hl]
  unfold Oper.wp execOp
  simp only [ho, hx, Instr.loadAt, Instr.sureAddr, Sem.run_bind, Sem.run_pure, Result.andThen_ok, hrun]
  exact hK _ _ h
theorem pair_at : ∀ (l : List (Int × Int)) (i : Nat), i < l.length → (Ucd.flat2 l)[i * 2]? = some (l.getD i (0, 0)).1 ∧ (Ucd.flat2 l)[i * 2 + 1]? = some (l.getD i (0, 0)).2
  | [], _, h => by simp at h
  | p :: t, 0, _ => ⟨rfl, rfl⟩
  | p :: t, i + 1, h => by
    have := pair_at t i (by simpa using h)
    have e : ∀ j, (Ucd.flat2 (p :: t))[j + 2]? = (Ucd.flat2 t)[j]? := fun j => rfl
    rw [show (i + 1) * 2 = i * 2 + 2 from by omega, show i * 2 + 2 + 1 = i * 2 + 1 + 2 from by omega, e, e, this.1, this.2]
    simp
theorem pair_size (l : List (Int × Int)) : (pairCells l).size = l.length * 2 := by
  have : ∀ l : List (Int × Int), (Ucd.flat2 l).length = l.length * 2 := by
    intro l
    induction l with
    | nil => rfl
    | cons p t ih =>
      show (Ucd.flat2 t).length + 1 + 1 = (t.length + 1) * 2
      omega
  simp [pairCells, this]
theorem extract_pair (l : List (Int × Int)) {i : Nat} (hi : i < l.length) : (pairCells l).extract (i * 2) (i * 2 + 2) = #[.int .i32 (l.getD i (0, 0)).1, .int .i32 (l.getD i (0, 0)).2] := by
  have hs := pair_size l
  obtain ⟨h0, h1⟩ := pair_at l i hi
  apply Array.ext_getElem?
  intro j
  rw [Array.getElem?_extract]
  have e : ∀ k : Nat, (pairCells l)[k]? = (Ucd.flat2 l)[k]?.map (Value.int .i32) := fun (k : Nat) => by simp [pairCells]
  match j with
  | 0 => rw [if_pos (by omega), Nat.add_zero, e, h0]; rfl
  | 1 => rw [if_pos (by omega), e, h1]; rfl
  | j + 2 => rw [if_neg (by omega)]; simp
theorem pairInfo32 : (Tryz.prog.info? 168).map (·.size) = some 2 := by kernel_rfl
theorem run_index_pair (t n : Nat) (hu : Tryz.prog.underlying t = some (.array n 168)) (l : List (Int × Int)) (hl : l.length = n) (w : World) {i : Nat} (hi : i < n) :
    (Instr.index t (.agg (pairCells l)) (.int .i64 (i : Int))).run Tryz.prog w = .ok (.agg #[.int .i32 (l.getD i (0, 0)).1, .int .i32 (l.getD i (0, 0)).2]) w := by
  have h1 : (0 : Int) ≤ (i : Int) ∧ (i : Int) < (n : Int) := by omega
  have hs : (sizeOf 168).run Tryz.prog w = .ok 2 w := by
    have := pairInfo32
    cases hq : Tryz.prog.info? 168 with
    | none => rw [hq] at this; cases this
    | some ie => rw [hq] at this; simp at this; simp [sizeOf, typeInfo, hq, this]
  have hag : (isAgg 168).run Tryz.prog w = .ok true w := by
    unfold isAgg
    rw [Sem.run_bind, run_underlying Tryz.underlying168 w]
    rfl
  simp only [Instr.index, asIntOf, Sem.run_bind, Sem.run_pure, Result.andThen_ok, run_underlying hu]
  rw [if_pos h1]
  simp only [Sem.run_bind, hs, Result.andThen_ok, Int.toNat_natCast, part, hag, if_true, Sem.run_pure, extract_pair l (by omega : i < l.length)]
/-- What stands in the map. -/
def sd (p : Int × Int) : Value := .agg #[.int .i64 p.1, .int .i32 p.2]
def asIs (v : Value) : Option (DataW Value × List MemPlace) := some (.held v, [])
def putPair (D : DataW Value) (p : Int × Int) : DataW Value := (D.put (.int .i32 p.1) (.held (sd (1, p.2)))).put (.int .i32 p.2) (.held (sd (2, p.1)))
def mapOf (l : List (Int × Int)) : DataW Value := l.foldl putPair (.map [])
theorem key_lit (a : Int) : WideAt.IsKeyLit (.int .i32 a) := trivial
theorem putPair_at (D : DataW Value) (hD : IsMap D) (p : Int × Int) (r : Int) (z : DataW Value) :
    (putPair D p).atKey (.int .i32 r) z = if r = p.2 then .held (sd (2, p.1)) else if r = p.1 then .held (sd (1, p.2)) else D.atKey (.int .i32 r) z := by
  unfold putPair
  by_cases h2 : r = p.2
  · subst h2
    rw [if_pos rfl, atKey_put_same (hD.put _ _) (key_lit _)]
  · rw [if_neg h2, atKey_put_other (by simpa using h2)]
    by_cases h1 : r = p.1
    · subst h1
      rw [if_pos rfl, atKey_put_same hD (key_lit _)]
    · rw [if_neg h1, atKey_put_other (by simpa using h1)]
theorem foldl_at (r : Int) (z : DataW Value) : ∀ (l : List (Int × Int)) (D : DataW Value) (acc : Int × Int), IsMap D → D.atKey (.int .i32 r) z = .held (sd acc) → (l.foldl putPair D).atKey (.int .i32 r) z = .held (sd (Ucd.look l r acc))
  | [], _, _, _, h => h
  | p :: t, D, acc, hD, h => by
    refine foldl_at r z t (putPair D p) _ ((hD.put _ _).put _ _) ?_
    rw [putPair_at D hD p r z, h]
    show _ = DataW.held (sd (if r = p.2 then (2, p.1) else if r = p.1 then (1, p.2) else acc))
    by_cases h2 : r = p.2
    · rw [if_pos h2, if_pos h2]
    · rw [if_neg h2, if_neg h2]
      by_cases h1 : r = p.1
      · rw [if_pos h1, if_pos h1]
      · rw [if_neg h1, if_neg h1]
theorem mapOf_at (r : Int) : (mapOf Ucd.brackets).atKey (.int .i32 r) (.held (sd (0, 0))) = .held (sd (Ucd.side r)) := foldl_at r _ Ucd.brackets _ (0, 0) ⟨_, rfl⟩ rfl
theorem brInfo : (Tryz.prog.info? 187).map (·.size) = some (pairCells Ucd.brackets).size := by kernel_rfl
theorem brSize : (pairCells Ucd.brackets).size = 42 := by kernel_rfl
theorem build_side (k p : Int) (w : World) : (Instr.build 180 #[(0, .int .i64 k), (1, .int .i32 p)]).run Tryz.prog w = .ok (sd (k, p)) w := run_build w 180 _ _ (by kernel_rfl)
theorem law_key : Keyed Tryz.prog 21 := int_keyed Tryz.underlying21
theorem two_info {P : Program} {t : TypeId} (h : (P.info? t).map (·.size) = some 2) (x y : Value) : (P.info? t).map (·.size) = some (#[x, y] : Array Value).size := h
theorem two_one (x y : Int) : (#[.int .i32 x, .int .i32 y] : Array Value).all (·.oneCell') = true := by simp [Value.oneCell']
theorem cells2 (w : World) (x y : Value) (t : TypeId) : (w.alloc (.cells #[x, y] t)).cell? ⟨w.heap.size, 0, none⟩ = some x ∧ (w.alloc (.cells #[x, y] t)).cell? ⟨w.heap.size, 1, none⟩ = some y := by
  unfold World.cell?
  rw [heap_alloc_last]
  exact ⟨rfl, rfl⟩
theorem br_ok : ∀ p ∈ Ucd.brackets, (0 ≤ p.1 ∧ p.1 ≤ 1114111) ∧ (0 ≤ p.2 ∧ p.2 ≤ 1114111) := by decide +kernel
theorem run_make_sides (w : World) : (Instr.makeMap 181 (some (.int .i64 42))).run Tryz.prog w = .ok (.map (some w.heap.size)) (w.alloc (.map #[] 0)) := by
  simp [Instr.makeMap, run_underlying Tryz.underlying181, asInt, asIntOf]
theorem cell_of_block {w : World} {b i : Nat} {cs : Array Value} {t : TypeId} {fr : Nat × Nat} {v : Value} (h : w.heap[b]? = some (.cells cs t fr)) (hv : cs[i]? = some v) : w.cell? ⟨b, i, none⟩ = some v := by
  unfold World.cell?
  rw [h]
  exact hv
theorem mapOf_snoc {i : Nat} (h : i < 21) : mapOf (Ucd.brackets.take (i + 1)) = putPair (mapOf (Ucd.brackets.take i)) (Ucd.brackets.getD i (0, 0)) := by
  have hl : i < Ucd.brackets.length := h
  unfold mapOf
  rw [List.take_succ_eq_append_getElem hl, List.foldl_append]
  simp [List.getD, List.getElem?_eq_getElem hl]
theorem sides_any (w : World) (hm : Marks w) : Calls Tryz.prog 138 #[] w fun e w' => ∃ b n, e = .returned (.map (some b)) ∧ Below w.heap.size w w' ∧ w'.ownsMap Tryz.prog 21 asIs b n (mapOf Ucd.brackets) := by
  have hmm := run_make_sides
  have hlt := hm.lt
  have hbs := build_side
  have HM := hide hm
  clear hm
  have HC : Hid (∀ i, i < (pairCells Ucd.brackets).size → (w.alloc (.map #[] 0)).cell? ⟨1, i, none⟩ = (pairCells Ucd.brackets)[i]?) := hide fun i hi => by
    rw [World.cell?_alloc_past _ _ _ (by exact hlt)]
    exact HM.out.2 i (by rw [brSize] at hi; exact hi)
  have H0 := hide (World.ownsMap_made w Tryz.prog 21 asIs)
  have HB0 : Hid (Below w.heap.size w (w.alloc (.map #[] 0))) := hide ((Below.refl _ _).alloc (Nat.le_refl _) _)
  go_enter Tryz.func138, Tryz.ntmps138
  go_wp2_with (first
    | (refine wpList_load_cells rfl 187 _ rfl 1 rfl (pairCells Ucd.brackets) _ HC.out Tryz.underlying187 rfl brInfo ?_))
  go_loopw [6] (fun s6 wr => ∃ i : Nat, s6 = .int .i64 i ∧ i ≤ 21 ∧ Hid (Below w.heap.size w wr) ∧ Hid (wr.ownsMap Tryz.prog 21 asIs w.heap.size (2 * i) (mapOf (Ucd.brackets.take i)))) (fun s6 _ => (21 - intOf s6).toNat)
  case atStart => exact ⟨0, rfl, by omega, HB0, H0⟩
  case round =>
    obtain ⟨i, rfl, hi, HB, HO⟩ := hrel
    have hltw : w.heap.size < wr.heap.size := HO.out.lt
    by_cases hi2 : i < 21
    · have hix := run_index_pair 187 21 Tryz.underlying187 Ucd.brackets rfl wr hi2
      have hok := br_ok (Ucd.brackets.getD i (0, 0)) (by
        have hl : i < Ucd.brackets.length := hi2
        rw [show Ucd.brackets.getD i (0, 0) = Ucd.brackets[i] from by simp [List.getD, List.getElem?_eq_getElem hl]]
        exact List.getElem_mem _)
      have HS := hide (mapOf_snoc hi2)
      have hwa := WalkArith.wf_i32 (n := (Ucd.brackets.getD i (0, 0)).1) (by omega)
      have hwb := WalkArith.wf_i32 (n := (Ucd.brackets.getD i (0, 0)).2) (by omega)
      have HKA := hide hwa
      have HKB := hide hwb
      clear hok hmm hwa hwb
      rw [show putPair (mapOf (Ucd.brackets.take i)) (Ucd.brackets.getD i (0, 0)) = ((mapOf (Ucd.brackets.take i)).put (.int .i32 (Ucd.brackets.getD i (0, 0)).1) (.held (sd (1, (Ucd.brackets.getD i (0, 0)).2)))).put (.int .i32 (Ucd.brackets.getD i (0, 0)).2) (.held (sd (2, (Ucd.brackets.getD i (0, 0)).1))) from rfl] at HS
      generalize (Ucd.brackets.getD i (0, 0)).1 = pa at *
      generalize (Ucd.brackets.getD i (0, 0)).2 = pb at *
      obtain ⟨g0, g1⟩ := cells2 wr (.int .i32 pa) (.int .i32 pb) 168
      have HOA := hide (HO.out.alloc (.cells #[.int .i32 pa, .int .i32 pb] 168))
      go_wp2_with (first
        | (refine wpList_store_new wr rfl 168 _ _ rfl rfl #[.int .i32 0, .int .i32 0] #[.int .i32 pa, .int .i32 pb] rfl rfl (two_info pairInfo32 _ _) rfl (two_one _ _) ?_)
        | (at_mapUpdate; refine wpList_mapUpdate_own _ rfl _ _ _ 181 rfl 21 180 law_key Tryz.underlying181 asIs w.heap.size (2 * i + 1) _ rfl hown1 (by unfold maxLen; omega) _ _ (.int .i32 pb) rfl rfl (keyOf_int_mk Tryz.underlying21 HKB.out) _ [] rfl ?_; intro w2 hown2 hgrow2)
        | (at_mapUpdate; refine wpList_mapUpdate_own _ rfl _ _ _ 181 rfl 21 180 law_key Tryz.underlying181 asIs w.heap.size (2 * i) _ rfl HOA.out (by unfold maxLen; omega) _ _ (.int .i32 pa) rfl rfl (keyOf_int_mk Tryz.underlying21 HKA.out) _ [] rfl ?_; intro w1 hown1 hgrow1
           have hblk : w1.heap[wr.heap.size]? = some (.cells #[.int .i32 pa, .int .i32 pb] 168 (0, 0)) := (hgrow1.block _ (by simp) (by simp; omega)).trans (heap_alloc_last wr _)
           have f0 : w1.cell? ⟨wr.heap.size, 0, none⟩ = some (.int .i32 pa) := cell_of_block hblk rfl
           have f1 : w1.cell? ⟨wr.heap.size, 1, none⟩ = some (.int .i32 pb) := cell_of_block hblk rfl))
      go_roundw
      case rel =>
        have hba := HB.out.alloc HB.out.size (.cells #[.int .i32 pa, .int .i32 pb] 168)
        have hb1 := hba.grown hgrow1 (by simp; have := HB.out.size; omega) (fun k hk => by cases hk; exact Nat.le_refl _)
        have hb2 := hb1.grown hgrow2 hb1.size (fun k hk => by cases hk; exact Nat.le_refl _)
        exact ⟨i + 1, by first | rfl | (congr 1), by omega, hide hb2, hide (by rw [HS.out]; exact hown2)⟩
      case measure => simp [intOf]; omega
    · obtain rfl : i = 21 := by omega
      go_wp2
      go_ret
      exact ⟨w.heap.size, _, rfl, HB.out, HO.out⟩
theorem sideInfo : (Tryz.prog.info? 180).map (·.size) = some 2 := by kernel_rfl
theorem zeroSide (w : World) : (zeroValue 180).run Tryz.prog w = .ok (sd (0, 0)) w := by kernel_rfl
theorem side_one (x y : Int) : (#[.int .i64 x, .int .i32 y] : Array Value).all (·.oneCell') = true := by simp [Value.oneCell']
theorem lookup_side {w : World} {b n : Nat} (h : w.ownsMap Tryz.prog 21 asIs b n (mapOf Ucd.brackets)) {r : Int} (hr : (Lit.int .i32 r).wf = true) :
    (Instr.lookup 181 (.map (some b)) (.int .i32 r) false).run Tryz.prog w = .ok (.agg #[.int .i64 (Ucd.side r).1, .int .i32 (Ucd.side r).2]) w := by
  obtain ⟨v, ps, hrun, hv⟩ := h.lookup law_key Tryz.underlying181 (zeroSide w) (zd := .held (sd (0, 0))) (zp := []) rfl (keyOf_int_mk Tryz.underlying21 hr)
  rw [mapOf_at] at hv
  simp only [asIs, Option.some.injEq, Prod.mk.injEq, DataW.held.injEq] at hv
  rw [hrun, hv.1]
  rfl
theorem bracket_any (r : Int) (w : World) (hr : (Lit.int .i32 r).wf = true) (hm : Marks w) :
    Calls Tryz.prog 116 #[.int .i32 r] w fun e w' => e = .returned (.tuple #[.int .i64 (Ucd.side r).1, .int .i32 (Ucd.side r).2]) ∧ Below w.heap.size w w' := by
  have HR := hide hr
  have HM := hide hm
  clear hr hm
  by_cases hc : Ucd.cls r = 14
  · generalize hs : Ucd.side r = s
    have HS := hide hs
    clear hs
    obtain ⟨k, p⟩ := s
    show Calls Tryz.prog 116 #[.int .i32 r] w fun e w' => e = .returned (.tuple #[.int .i64 k, .int .i32 p]) ∧ Below w.heap.size w w'
    go_enter Tryz.func116, Tryz.ntmps116
    go_wp2_with fail
    refine (class_any r w HR.out).mono ?_
    rintro e w1 ⟨rfl, hb1⟩
    rw [hc]
    have HM1 := hide (HM.out.below hb1)
    go_wp2_with fail
    refine (sides_any w1 HM1.out).mono ?_
    rintro e w2 ⟨b, n, rfl, hb2, hown⟩
    have hlk := lookup_side hown HR.out
    rw [HS.out] at hlk
    have HB := hide (hb1.trans (hb2.mono hb1.size))
    obtain ⟨g0, g1⟩ := cells2 w2 (.int .i64 k) (.int .i32 p) 180
    clear hown hb1 hb2
    go_wp2_with (first
      | (refine wpList_store_new w2 rfl 180 _ _ rfl rfl #[.int .i64 0, .int .i32 0] #[.int .i64 k, .int .i32 p] rfl rfl (two_info sideInfo _ _) rfl (side_one _ _) ?_))
    go_region
    all_goals (try go_wp2)
    all_goals go_ret2
    all_goals exact ⟨rfl, (HB.out.alloc HB.out.size _).drew⟩
  · have hs := Ucd.side_class hc
    rw [hs]
    have hcI : ¬ Ucd.cls r = 14 := hc
    clear hs
    go_enter Tryz.func116, Tryz.ntmps116
    go_wp2_with fail
    refine (class_any r w HR.out).mono ?_
    rintro e w1 ⟨rfl, hb1⟩
    generalize Ucd.cls r = c at *
    go_wp2
    go_ret2
    exact ⟨rfl, hb1⟩
end Go.Proofs.YtfcoebbblfcdoaaGreatDoor
