import Derived.Test.YtfadjgaledddjaaGreatDoorRows
import Derived.Test.YtfadjgaledddjaaGreatDoorZg
import Derived.Test.YtfadjgaledddjaaGreatDoorZa
import Derived.WalkKit
import Derived.WalkSpells
import Derived.WalkLawsBesides
import Derived.Outline
import Derived.Great.BuildSlice
import Derived.Test.YtfadjgaledddjaaGreatDoorZj
import Derived.Laws.AppendOwn
import Derived.Test.YtfadjgaledddjaaGreatDoorZn
/- The document's own table and class (colophonref03): contracts. -/
namespace Go.Proofs.YtfadjgaledddjaaGreatDoor
open Go.RowKit
set_option linter.unusedVariables false
set_option maxHeartbeats 1000000
set_option maxRecDepth 100000
def refCellsOf (p : Ucd.Rg) : List Value := [.int .i64 p.1, .int .i64 p.2.1, .int .i64 p.2.2]
def refCells : Array Value := (Ucd.flat refCellsOf Ucd.rows).toArray
def refArrays : List (Array Value) := Ucd.rows.map fun p => (refCellsOf p).toArray
def lastSlice (o : Oper) : Option (Tmp × TypeId × Nat × List (Nat × Operand)) :=
  match o.guard, o.dst, o.op with
  | none, some d, .buildSlice t n parts => some (d, t, n, parts.toList)
  | _, _, _ => none
def assignOf (o : Oper) : Option (Tmp × Operand) :=
  match o.guard, o.dst, o.op with
  | none, some d, .assign x => some (d, x)
  | _, _, _ => none
theorem wpList_tabSlice {P : Program} {ops : Array Oper} {Q : Exit → Act → World → Prop} {l : List Oper} {a : Act} {w : World} (cs : List (Array Value)) (d : Tmp) (t e : TypeId) (cells : Array Value) (ie : TypeInfo) (z : Value)
    (hs : 1 + cs.length < a.tmps.size) (hl : l.length = cs.length + 2) (h1 : (l.take cs.length).mapM (builtBy P) = some (numbered 1 cs))
    (h2 : (l[cs.length]?).bind lastSlice = some (d, t, cs.length, (List.range cs.length).map fun i => (i, Operand.tmp (1 + i)))) (hd : d = 1 + cs.length)
    (hu : P.underlying t = some (.slice e)) (hie : P.info? e = some ie) (hz : ie.zero = some z) (hsmall : ¬ cs.length * ie.size > 2 ^ 24) (hpos : ¬ cs.length * ie.size = 0)
    (h3 : Instr.fill (fun i => some (i * ie.size, ie.size)) ((Array.range (cs.length * ie.size)).map (z.cells[· % z.cells.size]!)) ((List.range cs.length).map fun i => (i, Value.agg (cs.getD i #[]))) = some cells)
    (h4 : (l[cs.length + 1]?).bind assignOf = some (0, .tmp d))
    (h : ∀ a' : Act, a'.defers = a.defers → a'.tmps.size = a.tmps.size → a'.tmps.getD 0 undef = .slice (some ⟨w.heap.size, 0, none⟩) cs.length cs.length → Q .normal a' (w.alloc (.cells cells e))) : wpList P ops Q l a w := by
  have hsplit : l = l.take cs.length ++ l.drop cs.length := (List.take_append_drop _ _).symm
  rw [hsplit]
  refine wpList_builds _ _ _ _ _ h1 ?_
  have e1 : cs.length < l.length := by omega
  have e2 : cs.length + 1 < l.length := by omega
  rw [List.drop_eq_getElem_cons e1, List.drop_eq_getElem_cons e2, List.drop_of_length_le (by omega)]
  rw [List.getElem?_eq_getElem e1, Option.bind_some] at h2
  rw [List.getElem?_eq_getElem e2, Option.bind_some] at h4
  unfold lastSlice at h2
  split at h2
  · rename_i d1 t1 n1 parts hg1 hd1 ho1
    simp only [Option.some.injEq, Prod.mk.injEq] at h2
    obtain ⟨rfl, rfl, rfl, hp⟩ := h2
    unfold assignOf at h4
    split at h4
    · rename_i d2 x2 hg2 hd2 ho2
      simp only [Option.some.injEq, Prod.mk.injEq] at h4
      obtain ⟨rfl, rfl⟩ := h4
      subst hd
      refine wpList_buildSlice hg1 _ e _ parts ho1 cells ie z hu hie hz hsmall hpos ?_ ?_
      · rw [parts_slots a cs 1 (by omega) parts hp]; exact h3
      · rw [hd1]
        have hsz := puts_size (numbered 1 cs) a
        have z0 : ((puts (numbered 1 cs) a).put (some (1 + cs.length)) (.slice (some ⟨w.heap.size, 0, none⟩) cs.length cs.length)).tmps.getD (1 + cs.length) undef = .slice (some ⟨w.heap.size, 0, none⟩) cs.length cs.length :=
          put_same _ _ _ (by rw [hsz]; omega)
        refine wpList_run hg2 (some 0) hd2 (.slice (some ⟨w.heap.size, 0, none⟩) cs.length cs.length) (w.alloc (.cells cells e)) ?_ ?_
        · unfold execOp
          rw [ho2]
          simp only [Act.eval, z0]
          rfl
        · refine wpList_nil (h _ ?_ ?_ ?_)
          · exact puts_defers (numbered 1 cs) a
          · rw [put_size, put_size, hsz]
          · exact put_same _ _ _ (by rw [put_size, hsz]; omega)
    · cases h4
  · cases h2
theorem refInfo : (Tryz.prog.info? 94).map (fun i => (i.zero, i.size)) = some (some (.agg #[.int .i64 0, .int .i64 0, .int .i64 0]), 3) := by kernel_rfl
theorem refLen : refArrays.length = 147 := by kernel_rfl
theorem refBuilt : Instr.fill (fun i => some (i * 3, 3)) ((Array.range (refArrays.length * 3)).map ((Value.agg #[.int .i64 0, .int .i64 0, .int .i64 0]).cells[· % (Value.agg #[.int .i64 0, .int .i64 0, .int .i64 0]).cells.size]!)) ((List.range refArrays.length).map fun i => (i, Value.agg (refArrays.getD i #[]))) = some refCells := by kernel_rfl
/-- The document's table lies in a block. -/
def RefAt (w : World) (b : Nat) : Prop := ∀ i, i < 441 → w.cell? ⟨b, i, none⟩ = refCells[i]?
theorem RefAt.at {w : World} {b : Nat} (h : RefAt w b) {i : Nat} (hi : i < 147) :
    w.cell? ⟨b, i * 3, none⟩ = some (.int .i64 (Ucd.lo Ucd.rows i)) ∧ w.cell? ⟨b, i * 3 + 1, none⟩ = some (.int .i64 (Ucd.hi Ucd.rows i)) ∧ w.cell? ⟨b, i * 3 + 2, none⟩ = some (.int .i64 (Ucd.cl Ucd.rows i)) := by
  have e : ∀ j, j < 3 → w.cell? ⟨b, i * 3 + j, none⟩ = (refCellsOf (Ucd.rows.getD i (0, 0, 0)))[j]? := fun j hj => by
    rw [h (i * 3 + j) (by omega), refCells, List.getElem?_toArray, Ucd.flat_at refCellsOf (fun _ => rfl) Ucd.rows i j (by rw [Ucd.rows_len]; exact hi) hj]
  exact ⟨e 0 (by omega), e 1 (by omega), e 2 (by omega)⟩
theorem RefAt.mono {w w' : World} {b B : Nat} (h : RefAt w b) (hb : Below B w w') (hB : b < B) : RefAt w' b := fun i hi => (hb.cell (p := ⟨b, i, none⟩) hB).trans (h i hi)
theorem refAt_new (w : World) (t : TypeId) : RefAt (w.alloc (.cells refCells t)) w.heap.size := fun i hi => by
  unfold World.cell?
  rw [heap_alloc_last]
  rfl
theorem ranges_any (w : World) : Calls Tryz.prog 53 #[] w fun e w' => ∃ b, e = .returned (.slice (some ⟨b, 0, none⟩) 147 147) ∧ Below w.heap.size w w' ∧ w.heap.size ≤ b ∧ b < w'.heap.size ∧ RefAt w' b := by
  cases hq : Tryz.prog.info? 94 with
  | none => have := refInfo; rw [hq] at this; cases this
  | some ie =>
    have hi := refInfo
    rw [hq] at hi
    simp only [Option.map_some, Option.some.injEq, Prod.mk.injEq] at hi
    refine calls_bare 149 Tryz.func53 rfl Tryz.ntmps53 fun a hs hdf => ?_
    refine wp_seq ?_
    refine wp_region_list ?_
    refine wpList_run rfl (some 0) rfl (.slice none 0 0) w ?_ ?_
    · simp [execOp, go_sem]
    refine wpList_nil ?_
    refine wp_seq ?_
    refine wp_region_list ?_
    refine wpList_tabSlice refArrays 148 92 94 refCells ie (.agg #[.int .i64 0, .int .i64 0, .int .i64 0]) (by rw [put_size, refLen]; omega) (by kernel_rfl) (by kernel_rfl) (by kernel_rfl) (by kernel_rfl) Tryz.underlying92 hq hi.1
      (by rw [hi.2, refLen]; omega) (by rw [hi.2, refLen]; omega) (by rw [hi.2]; exact refBuilt) (by kernel_rfl) ?_
    intro a' hd hsz h0
    refine wp_ret ?_
    rw [refLen] at h0
    refine bodyPost_ret (v := .slice (some ⟨w.heap.size, 0, none⟩) 147 147) ?_ (hd.trans hdf) ⟨w.heap.size, rfl, (Below.refl _ _).alloc (Nat.le_refl _) _, Nat.le_refl _, by simp, refAt_new w _⟩
    have ht : a'.tmps[0]?.getD undef = .slice (some ⟨w.heap.size, 0, none⟩) 147 147 := by simpa using h0
    simp [results, Tryz.results53, go_sem, ht]
end Go.Proofs.YtfadjgaledddjaaGreatDoor

/- The document's own class (colophonref03.Class): its contract; the names of the classes; the walk of UcdClasses. -/
namespace Go.Proofs.YtfadjgaledddjaaGreatDoor
open Go.RowKit
set_option linter.unusedVariables false
set_option maxHeartbeats 1000000
set_option maxRecDepth 100000
theorem rsize_any (r : Int) (w : World) (hr : (Lit.int .i32 r).wf = true) :
    Calls Tryz.prog 52 #[.int .i32 r] w fun e w' => ∃ n : Int, e = .returned (.int .i64 n) ∧ w = w' ∧ ((n = 0) ↔ Ucd.valid r = false) := by
  have hb : -2147483648 ≤ r ∧ r ≤ 2147483647 := bounds_i32 hr
  clear hr
  by_cases h1 : r < 0
  · go_enter Tryz.func52, Tryz.ntmps52
    go_wp2
    all_goals go_ret
    all_goals exact ⟨_, rfl, rfl, by simp [Ucd.valid]; omega⟩
  by_cases h2 : r > 1114111
  · go_enter Tryz.func52, Tryz.ntmps52
    go_wp2
    all_goals go_ret
    all_goals exact ⟨_, rfl, rfl, by simp [Ucd.valid]; omega⟩
  by_cases h3 : r ≥ 55296
  · by_cases h4 : r ≤ 57343
    · go_enter Tryz.func52, Tryz.ntmps52
      go_wp2
      all_goals go_ret
      all_goals exact ⟨_, rfl, rfl, by simp [Ucd.valid]; omega⟩
    · go_enter Tryz.func52, Tryz.ntmps52
      go_wp2
      all_goals go_ret
      all_goals exact ⟨_, rfl, rfl, by simp [Ucd.valid]; omega⟩
  · go_enter Tryz.func52, Tryz.ntmps52
    go_wp2
    all_goals go_ret
    all_goals exact ⟨_, rfl, rfl, by simp [Ucd.valid]; omega⟩
theorem find_step (r : Int) : ∀ (l : List Ucd.Rg) (i : Nat), i < l.length → Ucd.find (l.drop i) r = if Ucd.lo l i ≤ r ∧ r ≤ Ucd.hi l i then Ucd.cl l i else Ucd.find (l.drop (i + 1)) r := by
  intro l i h
  rw [List.drop_eq_getElem_cons h]
  have e : l.getD i (0, 0, 0) = l[i] := by simp [List.getD, List.getElem?_eq_getElem h]
  simp only [Ucd.find, Ucd.lo, Ucd.hi, Ucd.cl, e]
theorem rclass_any (r : Int) (w : World) (hr : (Lit.int .i32 r).wf = true) :
    Calls Tryz.prog 27 #[.int .i32 r] w fun e w' => e = .returned (.int .i64 (Ucd.cls r)) ∧ Below w.heap.size w w' := by
  have HS := hide (rsize_any r w hr)
  have hb := bounds_i32 hr
  clear hr
  cases hv : Ucd.valid r
  · have HC := hide (Ucd.cls_not hv)
    rw [hv] at HS
    go_enter Tryz.func27, Tryz.ntmps27
    go_wp2_with fail
    refine HS.out.mono ?_
    rintro e w1 ⟨n, rfl, rfl, hn⟩
    obtain rfl : n = 0 := hn.2 (by simp)
    clear hn hv
    go_wp2
    go_ret
    exact ⟨ret_int HC.out.symm, Below.refl _ _⟩
  · have HC : Hid (Ucd.cls r = Ucd.find (Ucd.rows.drop 0) r) := hide (by unfold Ucd.cls; rw [if_pos hv]; rfl)
    rw [hv] at HS
    go_enter Tryz.func27, Tryz.ntmps27
    go_wp2_with fail
    refine HS.out.mono ?_
    rintro e w1 ⟨n, rfl, rfl, hn⟩
    have hn0 : ¬ n = 0 := fun h => by have := hn.1 h; simp at this
    clear hn hv
    go_wp2_with fail
    refine (ranges_any w).mono ?_
    rintro e w2 ⟨b, rfl, hb2, hbb, hlt, hR⟩
    have HR := hide hR
    clear hR
    go_wp2_with fail
    go_loop [4] (fun s4 => ∃ i : Nat, s4 = .int .i64 i ∧ i ≤ 147 ∧ Hid (Ucd.cls r = Ucd.find (Ucd.rows.drop i) r)) (fun s4 => (147 - intOf s4).toNat)
    case atStart => exact ⟨0, rfl, by omega, HC⟩
    case round =>
      obtain ⟨i, rfl, hi, HI⟩ := hrel
      by_cases hlt2 : i < 147
      · obtain ⟨c0, c1, c2⟩ := HR.out.at hlt2
        have hst := find_step r Ucd.rows i (by rw [Ucd.rows_len]; exact hlt2)
        have hI : Ucd.cls r = if Ucd.lo Ucd.rows i ≤ r ∧ r ≤ Ucd.hi Ucd.rows i then Ucd.cl Ucd.rows i else Ucd.find (Ucd.rows.drop (i + 1)) r := HI.out.trans hst
        have hok := Ucd.rows_ok hlt2
        clear hst
        generalize Ucd.lo Ucd.rows i = L at *
        generalize Ucd.hi Ucd.rows i = H at *
        generalize Ucd.cl Ucd.rows i = C at *
        by_cases h1 : L ≤ r
        · by_cases h2 : r ≤ H
          · rw [if_pos ⟨h1, h2⟩] at hI
            have HX := hide hI
            clear hI
            go_wp2
            go_ret
            exact ⟨ret_int HX.out.symm, hb2⟩
          · rw [if_neg (fun h => h2 h.2)] at hI
            have HX := hide hI
            clear hI
            go_wp2
            go_round
            case rel => exact ⟨i + 1, by first | rfl | (congr 1), by omega, HX⟩
            case measure => simp [intOf]; omega
        · rw [if_neg (fun h => h1 h.1)] at hI
          have HX := hide hI
          clear hI
          go_wp2
          go_round
          case rel => exact ⟨i + 1, by first | rfl | (congr 1), by omega, HX⟩
          case measure => simp [intOf]; omega
      · obtain rfl : i = 147 := by omega
        have HX : Hid (Ucd.cls r = 1) := hide (by have := HI.out; rw [List.drop_of_length_le (by rw [Ucd.rows_len]; omega)] at this; exact this)
        go_wp2
        go_ret
        exact ⟨ret_int HX.out.symm, hb2⟩
end Go.Proofs.YtfadjgaledddjaaGreatDoor

/- A row of ints that grows by one append a round. -/
namespace Go.Proofs.YtfadjgaledddjaaGreatDoor
open Go.RowKit
set_option linter.unusedVariables false
/-- A row that grows by one append a round. -/
structure RG (w : World) (zs : List Int) (k : Nat) (sv : Value) (wr : World) : Prop where
  own : wr.ownsRow w.heap.size 3 1 sv k (zs.map (Value.int .i64))
  bel : Below w.heap.size w wr
theorem RG.snoc {w : World} {zs ys : List Int} {k : Nat} {x : Int} {v2 : Value} {wr w2 : World} {o : Obj} (hw : Below w.heap.size w wr) (hb : Below w.heap.size (wr.alloc o) w2) (ho : w2.ownsRow w.heap.size 3 1 v2 (k + 1) (zs.map (Value.int .i64) ++ [x].map (Value.int .i64))) (hy : ys = zs ++ [x]) : RG w ys (k + 1) v2 w2 :=
  ⟨by rw [hy, List.map_append]; exact ho, Below.trans (Below.alloc hw hw.size _) hb⟩
theorem RG.snoc2 {w : World} {zs ys : List Int} {k : Nat} {x : Int} {v2 : Value} {X w2 : World} (hw : Below w.heap.size w X) (hb : Below w.heap.size X w2) (ho : w2.ownsRow w.heap.size 3 1 v2 (k + 1) (zs.map (Value.int .i64) ++ [x].map (Value.int .i64))) (hy : ys = zs ++ [x]) : RG w ys (k + 1) v2 w2 :=
  ⟨by rw [hy, List.map_append]; exact ho, Below.trans hw hb⟩
end Go.Proofs.YtfadjgaledddjaaGreatDoor

/- A list of numbers and one of types, that a law lays place by place. -/
namespace Go.Proofs.YtfadjgaledddjaaGreatDoor
open Go.RowKit
set_option linter.unusedVariables false
set_option maxHeartbeats 1000000
set_option maxRecDepth 100000
theorem infoRune : (Tryz.prog.info? 21).map (fun i => (i.zero, i.size, i.bytes)) = some (some (.int .i32 0), 1, 4) := by kernel_rfl
structure LT (w0 : World) (vl vt : Value) (nl nt : Nat) (l t : List Int) (w : World) : Prop where
  old : Below w0.heap.size w0 w
  ol : w.ownsRow w0.heap.size 21 1 vl nl (l.map (Value.int .i32))
  ot : w.ownsRow w0.heap.size 3 1 vt nt (t.map (Value.int .i64))
section
variable {w0 : World} {vl vt : Value} {nl nt : Nat} {l t : List Int} {w : World}
theorem LT.pushL (h : LT w0 vl vt nl nt l t w) {x : Int} {o : Obj} {v' : Value} {w' : World} (ho : w'.ownsRow w0.heap.size 21 1 v' (nl + 1) (l.map (Value.int .i32) ++ [.int .i32 x])) (hg : (w.alloc o).grownBy w' vl.ownBlock) : LT w0 v' vt (nl + 1) nt (l ++ [x]) t w' := by
  refine ⟨Below.grown (KO.alloc h.old o) hg (by simp; have := h.old.size; omega) (fun j hj => (h.ol.lt j hj).1), ?_, (h.ot.alloc o).kept hg (owns_apart h.ot h.ol (by decide))⟩
  rw [List.map_append]; exact ho
theorem LT.pushT (h : LT w0 vl vt nl nt l t w) {x : Int} {o : Obj} {v' : Value} {w' : World} (ho : w'.ownsRow w0.heap.size 3 1 v' (nt + 1) (t.map (Value.int .i64) ++ [.int .i64 x])) (hg : (w.alloc o).grownBy w' vt.ownBlock) : LT w0 vl v' nl (nt + 1) l (t ++ [x]) w' := by
  refine ⟨Below.grown (KO.alloc h.old o) hg (by simp; have := h.old.size; omega) (fun j hj => (h.ot.lt j hj).1), (h.ol.alloc o).kept hg (owns_apart h.ol h.ot (by decide)), ?_⟩
  rw [List.map_append]; exact ho
end
theorem one_new (w : World) (a : Value) (t : TypeId) : ∀ (j : Nat) (u : Value), [a][j]? = some u → (w.alloc (.cells #[a] t)).cell? ((⟨w.heap.size, 0, none⟩ : Addr).add j) = some u := by
  intro j u hj
  have hadd : (⟨w.heap.size, 0, none⟩ : Addr).add j = ⟨w.heap.size, j, none⟩ := by unfold Addr.add; split <;> simp_all
  rw [hadd, World.cell?_alloc_mark]
  rw [← hj]
  simp
/-- One value of one cell is appended. -/
theorem wpList_append_one {P : Program} (w : World) {ops : Array Oper} {rest : List Oper} {o : Oper} {a : Act} {Q : Exit → Act → World → Prop} (hgd : o.guard = none) (s x : Operand) (t : TypeId)
    (ho : o.op = .call { callee := .builtin .append, args := #[s, x], argTypes := #[t, t] })
    (base : Nat) (e : TypeId) (i : TypeInfo) (z : Value) (bytes : Nat) (ht : P.underlying t = some (.slice e)) (hi : P.info? e = some i) (hz : i.zero = some z)
    (hsize : i.size = 1) (hby : i.bytes = bytes) (hzs : z.cells.size = 1)
    (v : Value) (n : Nat) (xs : List Value) (hs : a.eval s = v) (p : Value) (hown : w.ownsRow base e 1 v n xs)
    (g : Nat) (hg : g = w.heap.size) (hx : a.eval x = .slice (some ⟨g, 0, none⟩) 1 1) (h1 : p.oneCell' = true)
    (hn : n ≤ 100000) (hb8 : bytes ≤ 8) (hbase : base ≤ w.heap.size)
    (h : ∀ v' w', w'.ownsRow base e 1 v' (n + 1) (xs ++ [p]) → (w.alloc (.cells #[p] e)).grownBy w' v.ownBlock → wpList P ops Q rest (a.put o.dst v') w') :
    wpList P ops Q (o :: rest) a (w.alloc (.cells #[p] e)) := by
  subst hg
  have hnb : (n + 1) * bytes ≤ 140737488355328 := by
    have : (n + 1) * bytes ≤ 100001 * 8 := Nat.mul_le_mul (by omega) hb8
    omega
  refine wpList_append_own _ hgd s x t ho base e i z 1 bytes ht hi hz hsize hby hzs (by decide) v n xs hs (hown.alloc _) ⟨w.heap.size, 0, none⟩ 1 1 [p] hx rfl (one_new w p e) (by intro u hu; simp at hu; rw [hu]; exact h1) (by unfold maxLen; omega) hnb (by simp; omega) (fun v' w' g1 g2 _ => h v' w' g1 g2)
end Go.Proofs.YtfadjgaledddjaaGreatDoor

/- The document's Classes. -/
namespace Go.Proofs.YtfadjgaledddjaaGreatDoor
open Go.RowKit
set_option linter.unusedVariables false
set_option maxHeartbeats 1000000
set_option maxRecDepth 100000
theorem RG.one {w wr w2 w' : World} {zs : List Int} {k : Nat} {v v' : Value} {x : Int} {o : Obj} (h : RG w zs k v wr) (hk : KO wr w2) (ho : w'.ownsRow w.heap.size 3 1 v' (k + 1) (zs.map (Value.int .i64) ++ [.int .i64 x])) (hg : (w2.alloc o).grownBy w' v.ownBlock) : RG w (zs ++ [x]) (k + 1) v' w' := by
  refine ⟨by rw [List.map_append]; exact ho, ?_⟩
  exact Below.grown (KO.alloc (KO.on h.bel hk) o) hg (by simp; have := (KO.on h.bel hk).size; omega) (fun j hj => (h.own.lt j hj).1)
theorem cl_snoc {l : List Int} {k : Nat} (hk : k < l.length) : (Rn.cl l).take (k + 1) = (Rn.cl l).take k ++ [Ucd.cls (l.getD k 0)] := by
  have h : k < (Rn.cl l).length := by rw [Rn.cl_len]; exact hk
  rw [List.take_succ_eq_append_getElem h]
  have e : (Rn.cl l)[k] = Ucd.cls (l.getD k 0) := by simp [Rn.cl, List.getD, hk]
  rw [e]
theorem rclasses_any (ao : Option Addr) (n cap : Nat) (l : List Int) (w : World) (h : Row .i32 w ao n cap l) (hf : ∀ x ∈ l, (Lit.int .i32 x).wf = true) (hn : n ≤ 100000) :
    Calls Tryz.prog 15 #[.slice ao n cap] w fun e w' => ∃ a1 c1, e = .returned (.slice a1 n c1) ∧ Row .i64 w' a1 n c1 (Rn.cl l) ∧ KO w w' := by
  obtain ⟨ii, hii, hy0, hy1, hy2⟩ := info_parts infoInt
  have HII : Hid (Tryz.prog.info? 3 = some ii) := hii
  have HY0 := hide hy0
  have HY1 := hide hy1
  have HY2 := hide hy2
  have H := hide h
  have HL := hide h.len
  have HF := hide hf
  clear h hf hii hy0 hy1 hy2
  go_enter Tryz.func15, Tryz.ntmps15
  go_wp2
  go_loopw [3, 4] (fun s3 s4 wr => ∃ (k : Nat) (v3 : Value), v3 = s3 ∧ k ≤ n ∧ s4 = .int .i64 (k : Int) ∧ Hid (RG w ((Rn.cl l).take k) k v3 wr)) (fun _ s4 _ => n - (intOf s4).toNat)
  case atStart => exact ⟨0, _, rfl, Nat.zero_le _, rfl, hide ⟨World.ownsRow_nil _ _ _ _, Below.refl _ _⟩⟩
  case round =>
    obtain ⟨k, v3, hv3, hk, rfl, gm⟩ := hrel
    subst hv3
    by_cases hlt : k < n
    · have hkl : k < l.length := by rw [HL.out]; exact hlt
      obtain ⟨b, off, rfl, hbl, hc⟩ := H.out.cells (by omega)
      have ck : wr.cell? ⟨b, off + k, none⟩ = some (.int .i32 (l.getD k 0)) := (gm.out.bel.cell (by exact hbl)).trans (hc k hkl)
      have HC := hide (rclass_any (l.getD k 0) wr (wf_at HF.out hkl))
      have HS := hide (cl_snoc hkl)
      have hin : (k : Int) < (n : Int) := by omega
      have HSZ := hide gm.out.bel.size
      clear hc
      generalize (Rn.cl l).take k = F at *
      generalize l.getD k 0 = x at *
      go_wp2_with (first
        | (go_at_call 27; refine HC.out.mono ?_; rintro e w2 ⟨rfl, hb2⟩; have HB2 := hide hb2; clear hb2)
        | (at_builtin; refine wpList_append_one w2 rfl (.tmp 11) (.tmp 17) 24 rfl w.heap.size 3 ii _ 8 Tryz.underlying24 HII.out HY0.out HY1.out HY2.out rfl v3 k _ rfl (.int .i64 (Ucd.cls x)) (owns_below gm.out.own HB2.out) _ rfl rfl rfl (by omega) (by omega) (Nat.le_trans HSZ.out HB2.out.size) ?_; intro v1 w4 ho1 hg1; have HG1 := hide (gm.out.one HB2.out ho1 hg1); clear ho1 hg1))
      rw [← HS.out] at HG1
      go_roundw
      case rel => exact ⟨k + 1, _, rfl, by omega, by go_num, HG1⟩
      case measure => simp [intOf]; omega
    · obtain rfl : k = n := by omega
      have hne : ¬ ((k : Int) < (k : Int)) := by omega
      obtain ⟨a1, c1, rfl, hr⟩ := row_of_owns gm.out.own
      have HR := hide (show Row .i64 wr a1 k c1 (Rn.cl l) ∧ KO w wr from ⟨by
        have := hr
        rw [List.take_of_length_le (by rw [Rn.cl_len, HL.out]; exact Nat.le_refl _)] at this
        exact this, gm.out.bel⟩)
      clear gm hr
      go_wp2
      go_ret
      exact ⟨a1, c1, rfl, HR.out.1, HR.out.2⟩
end Go.Proofs.YtfadjgaledddjaaGreatDoor
