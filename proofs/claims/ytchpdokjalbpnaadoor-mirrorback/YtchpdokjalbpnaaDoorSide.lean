/- The two listed tables; the contracts of sides and Bracket. -/
import Derived.Test.YtchpdokjalbpnaaDoorRows
import Derived.Test.YtchpdokjalbpnaaDoorUc
import Derived.Test.YtchpdokjalbpnaaDoorMk
import Derived.Test.YtchpdokjalbpnaaDoorArgs
import Derived.Test.YtchpdokjalbpnaaDoorTab
import Derived.Test.YtchpdokjalbpnaaDoorCls
import Derived.Test.YtchpdokjalbpnaaDoorRngs
import Derived.Maps.Own
import Derived.Maps.OwnOps
import Derived.Maps.Views
import Derived.WalkKit
import Derived.WalkSpells
import Derived.WalkLawsBesides
import Derived.Outline
namespace Go.Proofs.YtchpdokjalbpnaaDoor
open Go.RowKit Go.Maps
set_option linter.unusedVariables false
set_option maxHeartbeats 1000000
set_option maxRecDepth 100000
def pairCells (l : List (Int × Int)) : Array Value := ((Ucd.flat2 l).map (Value.int .i32)).toArray
/-- The two tables lie where start-up laid them. -/
def Marks (w : World) : Prop := (∀ i, i < 20 → w.cell? ⟨0, i, none⟩ = (pairCells Ucd.mirrored)[i]?) ∧ (∀ i, i < 42 → w.cell? ⟨1, i, none⟩ = (pairCells Ucd.brackets)[i]?)
theorem Marks.lt {w : World} (h : Marks w) : 1 < w.heap.size := World.block_lt_of_cell? w (u := .int .i32 40) (a := ⟨1, 0, none⟩) (by rw [h.2 0 (by omega)]; rfl)
theorem Marks.below {w w' : World} (h : Marks w) (hb : Below w.heap.size w w') : Marks w' :=
  ⟨fun i hi => (hb.cell (p := ⟨0, i, none⟩) (by have := h.lt; show 0 < _; omega)).trans (h.1 i hi), fun i hi => (hb.cell (p := ⟨1, i, none⟩) h.lt).trans (h.2 i hi)⟩
/-- A whole array out of a block, by its cells. -/
theorem wpList_load_cells {P : Program} {ops : Array Oper} {rest : List Oper} {o : Oper} {a : Act} {w : World} {Q : Exit → Act → World → Prop} (hgd : o.guard = none) (ty : TypeId) (x : Operand) (ho : o.op = .load ty x)
    (g : Nat) (hx : a.eval x = .pointer (some ⟨g, 0, none⟩)) (cs : Array Value) (d : TypeDesc) (hc : ∀ i, i < cs.size → w.cell? ⟨g, i, none⟩ = cs[i]?)
    (hu : P.underlying ty = some d) (hd : (match d with | .struct _ | .array _ _ => true | _ => false) = true) (hi : (P.info? ty).map (·.size) = some cs.size)
    (h : wpList P ops Q rest (a.put o.dst (.agg cs)) w) : wpList P ops Q (o :: rest) a w := by
  refine wpList_plain hgd fun K hK => ?_
  have hl := run_loadCells_list (P := P) w ⟨g, 0, none⟩ cs.toList (fun j v hv => by
    have hadd : (⟨g, 0, none⟩ : Addr).add j = ⟨g, j, none⟩ := by unfold Addr.add; split <;> simp_all
    have hj : j < cs.size := by
      have := (List.getElem?_eq_some_iff.1 hv).1
      simpa using this
    rw [hadd, hc j hj]
    simpa using hv)
  have hrun : (loadVar ty ⟨g, 0, none⟩).run P w = .ok (.agg cs) w := by
    cases hq : P.info? ty with
    | none => simp [hq] at hi
    | some i =>
      have hs : i.size = cs.size := by simpa [hq] using hi
      have hagg : (isAgg ty).run P w = .ok true w := by
        unfold isAgg
        rw [Sem.run_bind, run_underlying hu w]
        cases d <;> simp_all
      simp only [Array.length_toList, Array.toArray_toList] at hl
      simp [loadVar, Sem.run_bind, hagg, sizeOf, typeInfo, hq, hs, hl]
  unfold Oper.wp execOp
  simp only [ho, hx, Instr.loadAt, Instr.sureAddr, Sem.run_bind, Sem.run_pure, Result.andThen_ok, hrun]
  exact hK _ _ h
theorem pair_at : ∀ (l : List (Int × Int)) (i : Nat), i < l.length → (Ucd.flat2 l)[i * 2]? = some (l.getD i (0, 0)).1 ∧ (Ucd.flat2 l)[i * 2 + 1]? = some (l.getD i (0, 0)).2
  | [], _, h => by simp at h
  | p :: t, 0, _ => ⟨rfl, rfl⟩
  | p :: t, i + 1, h => by
    have := pair_at t i (by simpa using h)
    have e : ∀ j, (Ucd.flat2 (p :: t))[j + 2]? = (Ucd.flat2 t)[j]? := fun j => rfl
    rw [show (i + 1) * 2 = i * 2 + 2 from by omega, show i * 2 + 2 + 1 = i * 2 + 1 + 2 from by omega, e, e, this.1, this.2]
    simp
theorem pair_size (l : List (Int × Int)) : (pairCells l).size = l.length * 2 := by
  have : ∀ l : List (Int × Int), (Ucd.flat2 l).length = l.length * 2 := by
    intro l
    induction l with
    | nil => rfl
    | cons p t ih =>
      show (Ucd.flat2 t).length + 1 + 1 = (t.length + 1) * 2
      omega
  simp [pairCells, this]
theorem extract_pair (l : List (Int × Int)) {i : Nat} (hi : i < l.length) : (pairCells l).extract (i * 2) (i * 2 + 2) = #[.int .i32 (l.getD i (0, 0)).1, .int .i32 (l.getD i (0, 0)).2] := by
  have hs := pair_size l
  obtain ⟨h0, h1⟩ := pair_at l i hi
  apply Array.ext_getElem?
  intro j
  rw [Array.getElem?_extract]
  have e : ∀ k : Nat, (pairCells l)[k]? = (Ucd.flat2 l)[k]?.map (Value.int .i32) := fun (k : Nat) => by simp [pairCells]
  match j with
  | 0 => rw [if_pos (by omega), Nat.add_zero, e, h0]; rfl
  | 1 => rw [if_pos (by omega), e, h1]; rfl
  | j + 2 => rw [if_neg (by omega)]; simp
theorem pairInfo32 : (Tryd.prog.info? 55).map (·.size) = some 2 := by kernel_rfl
theorem run_index_pair (t n : Nat) (hu : Tryd.prog.underlying t = some (.array n 55)) (l : List (Int × Int)) (hl : l.length = n) (w : World) {i : Nat} (hi : i < n) :
    (Instr.index t (.agg (pairCells l)) (.int .i64 (i : Int))).run Tryd.prog w = .ok (.agg #[.int .i32 (l.getD i (0, 0)).1, .int .i32 (l.getD i (0, 0)).2]) w := by
  have h1 : (0 : Int) ≤ (i : Int) ∧ (i : Int) < (n : Int) := by omega
  have hs : (sizeOf 55).run Tryd.prog w = .ok 2 w := by
    have := pairInfo32
    cases hq : Tryd.prog.info? 55 with
    | none => rw [hq] at this; cases this
    | some ie => rw [hq] at this; simp at this; simp [sizeOf, typeInfo, hq, this]
  have hag : (isAgg 55).run Tryd.prog w = .ok true w := by
    unfold isAgg
    rw [Sem.run_bind, run_underlying Tryd.underlying55 w]
    rfl
  simp only [Instr.index, asIntOf, Sem.run_bind, Sem.run_pure, Result.andThen_ok, run_underlying hu]
  rw [if_pos h1]
  simp only [Sem.run_bind, hs, Result.andThen_ok, Int.toNat_natCast, part, hag, if_true, Sem.run_pure, extract_pair l (by omega : i < l.length)]
/-- What stands in the map. -/
def sd (p : Int × Int) : Value := .agg #[.int .i64 p.1, .int .i32 p.2]
def asIs (v : Value) : Option (DataW Value × List MemPlace) := some (.held v, [])
def putPair (D : DataW Value) (p : Int × Int) : DataW Value := (D.put (.int .i32 p.1) (.held (sd (1, p.2)))).put (.int .i32 p.2) (.held (sd (2, p.1)))
def mapOf (l : List (Int × Int)) : DataW Value := l.foldl putPair (.map [])
theorem key_lit (a : Int) : WideAt.IsKeyLit (.int .i32 a) := trivial
theorem putPair_at (D : DataW Value) (hD : IsMap D) (p : Int × Int) (r : Int) (z : DataW Value) :
    (putPair D p).atKey (.int .i32 r) z = if r = p.2 then .held (sd (2, p.1)) else if r = p.1 then .held (sd (1, p.2)) else D.atKey (.int .i32 r) z := by
  unfold putPair
  by_cases h2 : r = p.2
  · subst h2
    rw [if_pos rfl, atKey_put_same (hD.put _ _) (key_lit _)]
  · rw [if_neg h2, atKey_put_other (by simpa using h2)]
    by_cases h1 : r = p.1
    · subst h1
      rw [if_pos rfl, atKey_put_same hD (key_lit _)]
    · rw [if_neg h1, atKey_put_other (by simpa using h1)]
theorem foldl_at (r : Int) (z : DataW Value) : ∀ (l : List (Int × Int)) (D : DataW Value) (acc : Int × Int), IsMap D → D.atKey (.int .i32 r) z = .held (sd acc) → (l.foldl putPair D).atKey (.int .i32 r) z = .held (sd (Ucd.look l r acc))
  | [], _, _, _, h => h
  | p :: t, D, acc, hD, h => by
    refine foldl_at r z t (putPair D p) _ ((hD.put _ _).put _ _) ?_
    rw [putPair_at D hD p r z, h]
    show _ = DataW.held (sd (if r = p.2 then (2, p.1) else if r = p.1 then (1, p.2) else acc))
    by_cases h2 : r = p.2
    · rw [if_pos h2, if_pos h2]
    · rw [if_neg h2, if_neg h2]
      by_cases h1 : r = p.1
      · rw [if_pos h1, if_pos h1]
      · rw [if_neg h1, if_neg h1]
theorem mapOf_at (r : Int) : (mapOf Ucd.brackets).atKey (.int .i32 r) (.held (sd (0, 0))) = .held (sd (Ucd.side r)) := foldl_at r _ Ucd.brackets _ (0, 0) ⟨_, rfl⟩ rfl
theorem brInfo : (Tryd.prog.info? 73).map (·.size) = some (pairCells Ucd.brackets).size := by kernel_rfl
theorem brSize : (pairCells Ucd.brackets).size = 42 := by kernel_rfl
theorem build_side (k p : Int) (w : World) : (Instr.build 64 #[(0, .int .i64 k), (1, .int .i32 p)]).run Tryd.prog w = .ok (sd (k, p)) w := run_build w 64 _ _ (by kernel_rfl)
theorem law_key : Keyed Tryd.prog 21 := int_keyed Tryd.underlying21
theorem two_info {P : Program} {t : TypeId} (h : (P.info? t).map (·.size) = some 2) (x y : Value) : (P.info? t).map (·.size) = some (#[x, y] : Array Value).size := h
theorem two_one (x y : Int) : (#[.int .i32 x, .int .i32 y] : Array Value).all (·.oneCell') = true := by simp [Value.oneCell']
theorem cells2 (w : World) (x y : Value) (t : TypeId) : (w.alloc (.cells #[x, y] t)).cell? ⟨w.heap.size, 0, none⟩ = some x ∧ (w.alloc (.cells #[x, y] t)).cell? ⟨w.heap.size, 1, none⟩ = some y := by
  unfold World.cell?
  rw [heap_alloc_last]
  exact ⟨rfl, rfl⟩
theorem br_ok : ∀ p ∈ Ucd.brackets, (0 ≤ p.1 ∧ p.1 ≤ 1114111) ∧ (0 ≤ p.2 ∧ p.2 ≤ 1114111) := by decide +kernel
theorem run_make_sides (w : World) : (Instr.makeMap 65 (some (.int .i64 42))).run Tryd.prog w = .ok (.map (some w.heap.size)) (w.alloc (.map #[] 0)) := by
  simp [Instr.makeMap, run_underlying Tryd.underlying65, asInt, asIntOf]
theorem cell_of_block {w : World} {b i : Nat} {cs : Array Value} {t : TypeId} {fr : Nat × Nat} {v : Value} (h : w.heap[b]? = some (.cells cs t fr)) (hv : cs[i]? = some v) : w.cell? ⟨b, i, none⟩ = some v := by
  unfold World.cell?
  rw [h]
  exact hv
theorem mapOf_snoc {i : Nat} (h : i < 21) : mapOf (Ucd.brackets.take (i + 1)) = putPair (mapOf (Ucd.brackets.take i)) (Ucd.brackets.getD i (0, 0)) := by
  have hl : i < Ucd.brackets.length := h
  unfold mapOf
  rw [List.take_succ_eq_append_getElem hl, List.foldl_append]
  simp [List.getD, List.getElem?_eq_getElem hl]
theorem sides_any (w : World) (hm : Marks w) : Calls Tryd.prog 35 #[] w fun e w' => ∃ b n, e = .returned (.map (some b)) ∧ Below w.heap.size w w' ∧ w'.ownsMap Tryd.prog 21 asIs b n (mapOf Ucd.brackets) := by
  have hmm := run_make_sides
  have hlt := hm.lt
  have hbs := build_side
  have HM := hide hm
  clear hm
  have HC : Hid (∀ i, i < (pairCells Ucd.brackets).size → (w.alloc (.map #[] 0)).cell? ⟨1, i, none⟩ = (pairCells Ucd.brackets)[i]?) := hide fun i hi => by
    rw [World.cell?_alloc_past _ _ _ (by exact hlt)]
    exact HM.out.2 i (by rw [brSize] at hi; exact hi)
  have H0 := hide (World.ownsMap_made w Tryd.prog 21 asIs)
  have HB0 : Hid (Below w.heap.size w (w.alloc (.map #[] 0))) := hide ((Below.refl _ _).alloc (Nat.le_refl _) _)
  go_enter Tryd.func35, Tryd.ntmps35
  go_wp2_with (first
    | (refine wpList_load_cells rfl 73 _ rfl 1 rfl (pairCells Ucd.brackets) _ HC.out Tryd.underlying73 rfl brInfo ?_))
  go_loopw [6] (fun s6 wr => ∃ i : Nat, s6 = .int .i64 i ∧ i ≤ 21 ∧ Hid (Below w.heap.size w wr) ∧ Hid (wr.ownsMap Tryd.prog 21 asIs w.heap.size (2 * i) (mapOf (Ucd.brackets.take i)))) (fun s6 _ => (21 - intOf s6).toNat)
  case atStart => exact ⟨0, rfl, by omega, HB0, H0⟩
  case round =>
    obtain ⟨i, rfl, hi, HB, HO⟩ := hrel
    have hltw : w.heap.size < wr.heap.size := HO.out.lt
    by_cases hi2 : i < 21
    · have hix := run_index_pair 73 21 Tryd.underlying73 Ucd.brackets rfl wr hi2
      have hok := br_ok (Ucd.brackets.getD i (0, 0)) (by
        have hl : i < Ucd.brackets.length := hi2
        rw [show Ucd.brackets.getD i (0, 0) = Ucd.brackets[i] from by simp [List.getD, List.getElem?_eq_getElem hl]]
        exact List.getElem_mem _)
      have HS := hide (mapOf_snoc hi2)
      have hwa := WalkArith.wf_i32 (n := (Ucd.brackets.getD i (0, 0)).1) (by omega)
      have hwb := WalkArith.wf_i32 (n := (Ucd.brackets.getD i (0, 0)).2) (by omega)
      have HKA := hide hwa
      have HKB := hide hwb
      clear hok hmm hwa hwb
      rw [show putPair (mapOf (Ucd.brackets.take i)) (Ucd.brackets.getD i (0, 0)) = ((mapOf (Ucd.brackets.take i)).put (.int .i32 (Ucd.brackets.getD i (0, 0)).1) (.held (sd (1, (Ucd.brackets.getD i (0, 0)).2)))).put (.int .i32 (Ucd.brackets.getD i (0, 0)).2) (.held (sd (2, (Ucd.brackets.getD i (0, 0)).1))) from rfl] at HS
      generalize (Ucd.brackets.getD i (0, 0)).1 = pa at *
      generalize (Ucd.brackets.getD i (0, 0)).2 = pb at *
      obtain ⟨g0, g1⟩ := cells2 wr (.int .i32 pa) (.int .i32 pb) 55
      have HOA := hide (HO.out.alloc (.cells #[.int .i32 pa, .int .i32 pb] 55))
      go_wp2_with (first
        | (refine wpList_store_new wr rfl 55 _ _ rfl rfl #[.int .i32 0, .int .i32 0] #[.int .i32 pa, .int .i32 pb] rfl rfl (two_info pairInfo32 _ _) rfl (two_one _ _) ?_)
        | (at_mapUpdate; refine wpList_mapUpdate_own _ rfl _ _ _ 65 rfl 21 64 law_key Tryd.underlying65 asIs w.heap.size (2 * i + 1) _ rfl hown1 (by unfold maxLen; omega) _ _ (.int .i32 pb) rfl rfl (keyOf_int_mk Tryd.underlying21 HKB.out) _ [] rfl ?_; intro w2 hown2 hgrow2)
        | (at_mapUpdate; refine wpList_mapUpdate_own _ rfl _ _ _ 65 rfl 21 64 law_key Tryd.underlying65 asIs w.heap.size (2 * i) _ rfl HOA.out (by unfold maxLen; omega) _ _ (.int .i32 pa) rfl rfl (keyOf_int_mk Tryd.underlying21 HKA.out) _ [] rfl ?_; intro w1 hown1 hgrow1
           have hblk : w1.heap[wr.heap.size]? = some (.cells #[.int .i32 pa, .int .i32 pb] 55 (0, 0)) := (hgrow1.block _ (by simp) (by simp; omega)).trans (heap_alloc_last wr _)
           have f0 : w1.cell? ⟨wr.heap.size, 0, none⟩ = some (.int .i32 pa) := cell_of_block hblk rfl
           have f1 : w1.cell? ⟨wr.heap.size, 1, none⟩ = some (.int .i32 pb) := cell_of_block hblk rfl))
      go_roundw
      case rel =>
        have hba := HB.out.alloc HB.out.size (.cells #[.int .i32 pa, .int .i32 pb] 55)
        have hb1 := hba.grown hgrow1 (by simp; have := HB.out.size; omega) (fun k hk => by cases hk; exact Nat.le_refl _)
        have hb2 := hb1.grown hgrow2 hb1.size (fun k hk => by cases hk; exact Nat.le_refl _)
        exact ⟨i + 1, by first | rfl | (congr 1), by omega, hide hb2, hide (by rw [HS.out]; exact hown2)⟩
      case measure => simp [intOf]; omega
    · obtain rfl : i = 21 := by omega
      go_wp2
      go_ret
      exact ⟨w.heap.size, _, rfl, HB.out, HO.out⟩
theorem sideInfo : (Tryd.prog.info? 64).map (·.size) = some 2 := by kernel_rfl
theorem zeroSide (w : World) : (zeroValue 64).run Tryd.prog w = .ok (sd (0, 0)) w := by kernel_rfl
theorem side_one (x y : Int) : (#[.int .i64 x, .int .i32 y] : Array Value).all (·.oneCell') = true := by simp [Value.oneCell']
theorem lookup_side {w : World} {b n : Nat} (h : w.ownsMap Tryd.prog 21 asIs b n (mapOf Ucd.brackets)) {r : Int} (hr : (Lit.int .i32 r).wf = true) :
    (Instr.lookup 65 (.map (some b)) (.int .i32 r) false).run Tryd.prog w = .ok (.agg #[.int .i64 (Ucd.side r).1, .int .i32 (Ucd.side r).2]) w := by
  obtain ⟨v, ps, hrun, hv⟩ := h.lookup law_key Tryd.underlying65 (zeroSide w) (zd := .held (sd (0, 0))) (zp := []) rfl (keyOf_int_mk Tryd.underlying21 hr)
  rw [mapOf_at] at hv
  simp only [asIs, Option.some.injEq, Prod.mk.injEq, DataW.held.injEq] at hv
  rw [hrun, hv.1]
  rfl
theorem bracket_any (r : Int) (w : World) (hr : (Lit.int .i32 r).wf = true) (hm : Marks w) :
    Calls Tryd.prog 26 #[.int .i32 r] w fun e w' => e = .returned (.tuple #[.int .i64 (Ucd.side r).1, .int .i32 (Ucd.side r).2]) ∧ Below w.heap.size w w' := by
  have HR := hide hr
  have HM := hide hm
  clear hr hm
  by_cases hc : Ucd.cls r = 14
  · generalize hs : Ucd.side r = s
    have HS := hide hs
    clear hs
    obtain ⟨k, p⟩ := s
    show Calls Tryd.prog 26 #[.int .i32 r] w fun e w' => e = .returned (.tuple #[.int .i64 k, .int .i32 p]) ∧ Below w.heap.size w w'
    go_enter Tryd.func26, Tryd.ntmps26
    go_wp2_with fail
    refine (class_any r w HR.out).mono ?_
    rintro e w1 ⟨rfl, hb1⟩
    rw [hc]
    have HM1 := hide (HM.out.below hb1)
    go_wp2_with fail
    refine (sides_any w1 HM1.out).mono ?_
    rintro e w2 ⟨b, n, rfl, hb2, hown⟩
    have hlk := lookup_side hown HR.out
    rw [HS.out] at hlk
    have HB := hide (hb1.trans (hb2.mono hb1.size))
    obtain ⟨g0, g1⟩ := cells2 w2 (.int .i64 k) (.int .i32 p) 64
    clear hown hb1 hb2
    go_wp2_with (first
      | (refine wpList_store_new w2 rfl 64 _ _ rfl rfl #[.int .i64 0, .int .i32 0] #[.int .i64 k, .int .i32 p] rfl rfl (two_info sideInfo _ _) rfl (side_one _ _) ?_))
    go_region
    all_goals (try go_wp2)
    all_goals go_ret2
    all_goals exact ⟨rfl, (HB.out.alloc HB.out.size _).drew⟩
  · have hs := Ucd.side_class hc
    rw [hs]
    have hcI : ¬ Ucd.cls r = 14 := hc
    clear hs
    go_enter Tryd.func26, Tryd.ntmps26
    go_wp2_with fail
    refine (class_any r w HR.out).mono ?_
    rintro e w1 ⟨rfl, hb1⟩
    generalize Ucd.cls r = c at *
    go_wp2
    go_ret2
    exact ⟨rfl, hb1⟩
end Go.Proofs.YtchpdokjalbpnaaDoor
