import Derived.Test.YtmdmehopefgndaaGreatDoorRows
import Derived.Test.YtmdmehopefgndaaGreatDoorZ18
import Derived.Test.YtmdmehopefgndaaGreatDoorZ01
import Derived.Test.YtmdmehopefgndaaGreatDoorZ19
import Derived.Maps.Own
import Derived.Maps.OwnOps
import Derived.Maps.Views
import Derived.WalkKit
import Derived.WalkSpells
import Derived.WalkLawsBesides
import Derived.Outline
import Derived.Test.YtmdmehopefgndaaGreatDoorZ07
import Derived.Great.BuildSlice
import Derived.Test.YtmdmehopefgndaaGreatDoorZ17
import Derived.Deep.RegionHeld3
import Derived.Deep.RegionHeldLaw
import Derived.Deep.RegionLaw
import Derived.Deep.LoopGhost
/- The two listed tables; the contracts of sides and Bracket. -/
namespace Go.Proofs.YtmdmehopefgndaaGreatDoor
open Go.RowKit Go.Maps
set_option linter.unusedVariables false
set_option maxHeartbeats 1000000
set_option maxRecDepth 100000
def pairCells (l : List (Int × Int)) : Array Value := ((Ucd.flat2 l).map (Value.int .i32)).toArray
/-- The two tables lie where start-up laid them. -/
def Marks (w : World) : Prop := (∀ i, i < 20 → w.cell? ⟨0, i, none⟩ = (pairCells Ucd.mirrored)[i]?) ∧ (∀ i, i < 42 → w.cell? ⟨1, i, none⟩ = (pairCells Ucd.brackets)[i]?)
theorem Marks.lt {w : World} (h : Marks w) : 1 < w.heap.size := World.block_lt_of_cell? w (u := .int .i32 40) (a := ⟨1, 0, none⟩) (by rw [h.2 0 (by omega)]; rfl)
theorem Marks.below {w w' : World} (h : Marks w) (hb : Below w.heap.size w w') : Marks w' :=
  ⟨fun i hi => (hb.cell (p := ⟨0, i, none⟩) (by have := h.lt; show 0 < _; omega)).trans (h.1 i hi), fun i hi => (hb.cell (p := ⟨1, i, none⟩) h.lt).trans (h.2 i hi)⟩
/-- A whole array out of a block, by its cells. -/
theorem wpList_load_cells {P : Program} {ops : Array Oper} {rest : List Oper} {o : Oper} {a : Act} {w : World} {Q : Exit → Act → World → Prop} (hgd : o.guard = none) (ty : TypeId) (x : Operand) (ho : o.op = .load ty x)
    (g : Nat) (hx : a.eval x = .pointer (some ⟨g, 0, none⟩)) (cs : Array Value) (d : TypeDesc) (hc : ∀ i, i < cs.size → w.cell? ⟨g, i, none⟩ = cs[i]?)
    (hu : P.underlying ty = some d) (hd : (match d with | .struct _ | .array _ _ => true | _ => false) = true) (hi : (P.info? ty).map (·.size) = some cs.size)
    (h : wpList P ops Q rest (a.put o.dst (.agg cs)) w) : wpList P ops Q (o :: rest) a w := by
  refine wpList_plain hgd fun K hK => ?_
  have hl := run_loadCells_list (P := P) w ⟨g, 0, none⟩ cs.toList (fun j v hv => by
    have hadd : (⟨g, 0, none⟩ : Addr).add j = ⟨g, j, none⟩ := by unfold Addr.add; split <;> simp_all
    have hj : j < cs.size := by
      have := (List.getElem?_eq_some_iff.1 hv).1
      simpa using this
    rw [hadd, hc j hj]
    simpa using hv)
  have hrun : (loadVar ty ⟨g, 0, none⟩).run P w = .ok (.agg cs) w := by
    cases hq : P.info? ty with
    | none => simp [hq] at hi
    | some i =>
      have hs : i.size = cs.size := by simpa [hq] using hi
      have hagg : (isAgg ty).run P w = .ok true w := by
        unfold isAgg
        rw [Sem.run_bind, run_underlying hu w]
        cases d <;> simp_all
      simp only [Array.length_toList, Array.toArray_toList] at hl
      simp [loadVar, Sem.run_bind, hagg, sizeOf, typeInfo, hq, hs, hl]
  unfold Oper.wp execOp
  simp only [ho, hx, Instr.loadAt, Instr.sureAddr, Sem.run_bind, Sem.run_pure, Result.andThen_ok, hrun]
  exact hK _ _ h
theorem pair_at : ∀ (l : List (Int × Int)) (i : Nat), i < l.length → (Ucd.flat2 l)[i * 2]? = some (l.getD i (0, 0)).1 ∧ (Ucd.flat2 l)[i * 2 + 1]? = some (l.getD i (0, 0)).2
  | [], _, h => by simp at h
  | p :: t, 0, _ => ⟨rfl, rfl⟩
  | p :: t, i + 1, h => by
    have := pair_at t i (by simpa using h)
    have e : ∀ j, (Ucd.flat2 (p :: t))[j + 2]? = (Ucd.flat2 t)[j]? := fun j => rfl
    rw [show (i + 1) * 2 = i * 2 + 2 from by omega, show i * 2 + 2 + 1 = i * 2 + 1 + 2 from by omega, e, e, this.1, this.2]
    simp
theorem pair_size (l : List (Int × Int)) : (pairCells l).size = l.length * 2 := by
  have : ∀ l : List (Int × Int), (Ucd.flat2 l).length = l.length * 2 := by
    intro l
    induction l with
    | nil => rfl
    | cons p t ih =>
      show (Ucd.flat2 t).length + 1 + 1 = (t.length + 1) * 2
      omega
  simp [pairCells, this]
theorem extract_pair (l : List (Int × Int)) {i : Nat} (hi : i < l.length) : (pairCells l).extract (i * 2) (i * 2 + 2) = #[.int .i32 (l.getD i (0, 0)).1, .int .i32 (l.getD i (0, 0)).2] := by
  have hs := pair_size l
  obtain ⟨h0, h1⟩ := pair_at l i hi
  apply Array.ext_getElem?
  intro j
  rw [Array.getElem?_extract]
  have e : ∀ k : Nat, (pairCells l)[k]? = (Ucd.flat2 l)[k]?.map (Value.int .i32) := fun (k : Nat) => by simp [pairCells]
  match j with
  | 0 => rw [if_pos (by omega), Nat.add_zero, e, h0]; rfl
  | 1 => rw [if_pos (by omega), e, h1]; rfl
  | j + 2 => rw [if_neg (by omega)]; simp
theorem pairInfo32 : (Tryz.prog.info? 78).map (·.size) = some 2 := by kernel_rfl
theorem run_index_pair (t n : Nat) (hu : Tryz.prog.underlying t = some (.array n 78)) (l : List (Int × Int)) (hl : l.length = n) (w : World) {i : Nat} (hi : i < n) :
    (Instr.index t (.agg (pairCells l)) (.int .i64 (i : Int))).run Tryz.prog w = .ok (.agg #[.int .i32 (l.getD i (0, 0)).1, .int .i32 (l.getD i (0, 0)).2]) w := by
  have h1 : (0 : Int) ≤ (i : Int) ∧ (i : Int) < (n : Int) := by omega
  have hs : (sizeOf 78).run Tryz.prog w = .ok 2 w := by
    have := pairInfo32
    cases hq : Tryz.prog.info? 78 with
    | none => rw [hq] at this; cases this
    | some ie => rw [hq] at this; simp at this; simp [sizeOf, typeInfo, hq, this]
  have hag : (isAgg 78).run Tryz.prog w = .ok true w := by
    unfold isAgg
    rw [Sem.run_bind, run_underlying Tryz.underlying78 w]
    rfl
  simp only [Instr.index, asIntOf, Sem.run_bind, Sem.run_pure, Result.andThen_ok, run_underlying hu]
  rw [if_pos h1]
  simp only [Sem.run_bind, hs, Result.andThen_ok, Int.toNat_natCast, part, hag, if_true, Sem.run_pure, extract_pair l (by omega : i < l.length)]
/-- What stands in the map. -/
def sd (p : Int × Int) : Value := .agg #[.int .i64 p.1, .int .i32 p.2]
def asIs (v : Value) : Option (DataW Value × List MemPlace) := some (.held v, [])
def putPair (D : DataW Value) (p : Int × Int) : DataW Value := (D.put (.int .i32 p.1) (.held (sd (1, p.2)))).put (.int .i32 p.2) (.held (sd (2, p.1)))
def mapOf (l : List (Int × Int)) : DataW Value := l.foldl putPair (.map [])
theorem key_lit (a : Int) : WideAt.IsKeyLit (.int .i32 a) := trivial
theorem putPair_at (D : DataW Value) (hD : IsMap D) (p : Int × Int) (r : Int) (z : DataW Value) :
    (putPair D p).atKey (.int .i32 r) z = if r = p.2 then .held (sd (2, p.1)) else if r = p.1 then .held (sd (1, p.2)) else D.atKey (.int .i32 r) z := by
  unfold putPair
  by_cases h2 : r = p.2
  · subst h2
    rw [if_pos rfl, atKey_put_same (hD.put _ _) (key_lit _)]
  · rw [if_neg h2, atKey_put_other (by simpa using h2)]
    by_cases h1 : r = p.1
    · subst h1
      rw [if_pos rfl, atKey_put_same hD (key_lit _)]
    · rw [if_neg h1, atKey_put_other (by simpa using h1)]
theorem foldl_at (r : Int) (z : DataW Value) : ∀ (l : List (Int × Int)) (D : DataW Value) (acc : Int × Int), IsMap D → D.atKey (.int .i32 r) z = .held (sd acc) → (l.foldl putPair D).atKey (.int .i32 r) z = .held (sd (Ucd.look l r acc))
  | [], _, _, _, h => h
  | p :: t, D, acc, hD, h => by
    refine foldl_at r z t (putPair D p) _ ((hD.put _ _).put _ _) ?_
    rw [putPair_at D hD p r z, h]
    show _ = DataW.held (sd (if r = p.2 then (2, p.1) else if r = p.1 then (1, p.2) else acc))
    by_cases h2 : r = p.2
    · rw [if_pos h2, if_pos h2]
    · rw [if_neg h2, if_neg h2]
      by_cases h1 : r = p.1
      · rw [if_pos h1, if_pos h1]
      · rw [if_neg h1, if_neg h1]
theorem mapOf_at (r : Int) : (mapOf Ucd.brackets).atKey (.int .i32 r) (.held (sd (0, 0))) = .held (sd (Ucd.side r)) := foldl_at r _ Ucd.brackets _ (0, 0) ⟨_, rfl⟩ rfl
theorem brInfo : (Tryz.prog.info? 124).map (·.size) = some (pairCells Ucd.brackets).size := by kernel_rfl
theorem brSize : (pairCells Ucd.brackets).size = 42 := by kernel_rfl
theorem build_side (k p : Int) (w : World) : (Instr.build 101 #[(0, .int .i64 k), (1, .int .i32 p)]).run Tryz.prog w = .ok (sd (k, p)) w := run_build w 101 _ _ (by kernel_rfl)
theorem law_key : Keyed Tryz.prog 21 := int_keyed Tryz.underlying21
theorem two_info {P : Program} {t : TypeId} (h : (P.info? t).map (·.size) = some 2) (x y : Value) : (P.info? t).map (·.size) = some (#[x, y] : Array Value).size := h
theorem two_one (x y : Int) : (#[.int .i32 x, .int .i32 y] : Array Value).all (·.oneCell') = true := by simp [Value.oneCell']
theorem cells2 (w : World) (x y : Value) (t : TypeId) : (w.alloc (.cells #[x, y] t)).cell? ⟨w.heap.size, 0, none⟩ = some x ∧ (w.alloc (.cells #[x, y] t)).cell? ⟨w.heap.size, 1, none⟩ = some y := by
  unfold World.cell?
  rw [heap_alloc_last]
  exact ⟨rfl, rfl⟩
theorem br_ok : ∀ p ∈ Ucd.brackets, (0 ≤ p.1 ∧ p.1 ≤ 1114111) ∧ (0 ≤ p.2 ∧ p.2 ≤ 1114111) := by decide +kernel
theorem run_make_sides (w : World) : (Instr.makeMap 102 (some (.int .i64 42))).run Tryz.prog w = .ok (.map (some w.heap.size)) (w.alloc (.map #[] 0)) := by
  simp [Instr.makeMap, run_underlying Tryz.underlying102, asInt, asIntOf]
theorem cell_of_block {w : World} {b i : Nat} {cs : Array Value} {t : TypeId} {fr : Nat × Nat} {v : Value} (h : w.heap[b]? = some (.cells cs t fr)) (hv : cs[i]? = some v) : w.cell? ⟨b, i, none⟩ = some v := by
  unfold World.cell?
  rw [h]
  exact hv
theorem mapOf_snoc {i : Nat} (h : i < 21) : mapOf (Ucd.brackets.take (i + 1)) = putPair (mapOf (Ucd.brackets.take i)) (Ucd.brackets.getD i (0, 0)) := by
  have hl : i < Ucd.brackets.length := h
  unfold mapOf
  rw [List.take_succ_eq_append_getElem hl, List.foldl_append]
  simp [List.getD, List.getElem?_eq_getElem hl]
theorem sides_any (w : World) (hm : Marks w) : Calls Tryz.prog 49 #[] w fun e w' => ∃ b n, e = .returned (.map (some b)) ∧ Below w.heap.size w w' ∧ w'.ownsMap Tryz.prog 21 asIs b n (mapOf Ucd.brackets) := by
  have hmm := run_make_sides
  have hlt := hm.lt
  have hbs := build_side
  have HM := hide hm
  clear hm
  have HC : Hid (∀ i, i < (pairCells Ucd.brackets).size → (w.alloc (.map #[] 0)).cell? ⟨1, i, none⟩ = (pairCells Ucd.brackets)[i]?) := hide fun i hi => by
    rw [World.cell?_alloc_past _ _ _ (by exact hlt)]
    exact HM.out.2 i (by rw [brSize] at hi; exact hi)
  have H0 := hide (World.ownsMap_made w Tryz.prog 21 asIs)
  have HB0 : Hid (Below w.heap.size w (w.alloc (.map #[] 0))) := hide ((Below.refl _ _).alloc (Nat.le_refl _) _)
  go_enter Tryz.func49, Tryz.ntmps49
  go_wp2_with (first
    | (refine wpList_load_cells rfl 124 _ rfl 1 rfl (pairCells Ucd.brackets) _ HC.out Tryz.underlying124 rfl brInfo ?_))
  go_loopw [6] (fun s6 wr => ∃ i : Nat, s6 = .int .i64 i ∧ i ≤ 21 ∧ Hid (Below w.heap.size w wr) ∧ Hid (wr.ownsMap Tryz.prog 21 asIs w.heap.size (2 * i) (mapOf (Ucd.brackets.take i)))) (fun s6 _ => (21 - intOf s6).toNat)
  case atStart => exact ⟨0, rfl, by omega, HB0, H0⟩
  case round =>
    obtain ⟨i, rfl, hi, HB, HO⟩ := hrel
    have hltw : w.heap.size < wr.heap.size := HO.out.lt
    by_cases hi2 : i < 21
    · have hix := run_index_pair 124 21 Tryz.underlying124 Ucd.brackets rfl wr hi2
      have hok := br_ok (Ucd.brackets.getD i (0, 0)) (by
        have hl : i < Ucd.brackets.length := hi2
        rw [show Ucd.brackets.getD i (0, 0) = Ucd.brackets[i] from by simp [List.getD, List.getElem?_eq_getElem hl]]
        exact List.getElem_mem _)
      have HS := hide (mapOf_snoc hi2)
      have hwa := WalkArith.wf_i32 (n := (Ucd.brackets.getD i (0, 0)).1) (by omega)
      have hwb := WalkArith.wf_i32 (n := (Ucd.brackets.getD i (0, 0)).2) (by omega)
      have HKA := hide hwa
      have HKB := hide hwb
      clear hok hmm hwa hwb
      rw [show putPair (mapOf (Ucd.brackets.take i)) (Ucd.brackets.getD i (0, 0)) = ((mapOf (Ucd.brackets.take i)).put (.int .i32 (Ucd.brackets.getD i (0, 0)).1) (.held (sd (1, (Ucd.brackets.getD i (0, 0)).2)))).put (.int .i32 (Ucd.brackets.getD i (0, 0)).2) (.held (sd (2, (Ucd.brackets.getD i (0, 0)).1))) from rfl] at HS
      generalize (Ucd.brackets.getD i (0, 0)).1 = pa at *
      generalize (Ucd.brackets.getD i (0, 0)).2 = pb at *
      obtain ⟨g0, g1⟩ := cells2 wr (.int .i32 pa) (.int .i32 pb) 78
      have HOA := hide (HO.out.alloc (.cells #[.int .i32 pa, .int .i32 pb] 78))
      go_wp2_with (first
        | (refine wpList_store_new wr rfl 78 _ _ rfl rfl #[.int .i32 0, .int .i32 0] #[.int .i32 pa, .int .i32 pb] rfl rfl (two_info pairInfo32 _ _) rfl (two_one _ _) ?_)
        | (at_mapUpdate; refine wpList_mapUpdate_own _ rfl _ _ _ 102 rfl 21 101 law_key Tryz.underlying102 asIs w.heap.size (2 * i + 1) _ rfl hown1 (by unfold maxLen; omega) _ _ (.int .i32 pb) rfl rfl (keyOf_int_mk Tryz.underlying21 HKB.out) _ [] rfl ?_; intro w2 hown2 hgrow2)
        | (at_mapUpdate; refine wpList_mapUpdate_own _ rfl _ _ _ 102 rfl 21 101 law_key Tryz.underlying102 asIs w.heap.size (2 * i) _ rfl HOA.out (by unfold maxLen; omega) _ _ (.int .i32 pa) rfl rfl (keyOf_int_mk Tryz.underlying21 HKA.out) _ [] rfl ?_; intro w1 hown1 hgrow1
           have hblk : w1.heap[wr.heap.size]? = some (.cells #[.int .i32 pa, .int .i32 pb] 78 (0, 0)) := (hgrow1.block _ (by simp) (by simp; omega)).trans (heap_alloc_last wr _)
           have f0 : w1.cell? ⟨wr.heap.size, 0, none⟩ = some (.int .i32 pa) := cell_of_block hblk rfl
           have f1 : w1.cell? ⟨wr.heap.size, 1, none⟩ = some (.int .i32 pb) := cell_of_block hblk rfl))
      go_roundw
      case rel =>
        have hba := HB.out.alloc HB.out.size (.cells #[.int .i32 pa, .int .i32 pb] 78)
        have hb1 := hba.grown hgrow1 (by simp; have := HB.out.size; omega) (fun k hk => by cases hk; exact Nat.le_refl _)
        have hb2 := hb1.grown hgrow2 hb1.size (fun k hk => by cases hk; exact Nat.le_refl _)
        exact ⟨i + 1, by first | rfl | (congr 1), by omega, hide hb2, hide (by rw [HS.out]; exact hown2)⟩
      case measure => simp [intOf]; omega
    · obtain rfl : i = 21 := by omega
      go_wp2
      go_ret
      exact ⟨w.heap.size, _, rfl, HB.out, HO.out⟩
theorem sideInfo : (Tryz.prog.info? 101).map (·.size) = some 2 := by kernel_rfl
theorem zeroSide (w : World) : (zeroValue 101).run Tryz.prog w = .ok (sd (0, 0)) w := by kernel_rfl
theorem side_one (x y : Int) : (#[.int .i64 x, .int .i32 y] : Array Value).all (·.oneCell') = true := by simp [Value.oneCell']
theorem lookup_side {w : World} {b n : Nat} (h : w.ownsMap Tryz.prog 21 asIs b n (mapOf Ucd.brackets)) {r : Int} (hr : (Lit.int .i32 r).wf = true) :
    (Instr.lookup 102 (.map (some b)) (.int .i32 r) false).run Tryz.prog w = .ok (.agg #[.int .i64 (Ucd.side r).1, .int .i32 (Ucd.side r).2]) w := by
  obtain ⟨v, ps, hrun, hv⟩ := h.lookup law_key Tryz.underlying102 (zeroSide w) (zd := .held (sd (0, 0))) (zp := []) rfl (keyOf_int_mk Tryz.underlying21 hr)
  rw [mapOf_at] at hv
  simp only [asIs, Option.some.injEq, Prod.mk.injEq, DataW.held.injEq] at hv
  rw [hrun, hv.1]
  rfl
theorem bracket_any (r : Int) (w : World) (hr : (Lit.int .i32 r).wf = true) (hm : Marks w) :
    Calls Tryz.prog 36 #[.int .i32 r] w fun e w' => e = .returned (.tuple #[.int .i64 (Ucd.side r).1, .int .i32 (Ucd.side r).2]) ∧ Below w.heap.size w w' := by
  have HR := hide hr
  have HM := hide hm
  clear hr hm
  by_cases hc : Ucd.cls r = 14
  · generalize hs : Ucd.side r = s
    have HS := hide hs
    clear hs
    obtain ⟨k, p⟩ := s
    show Calls Tryz.prog 36 #[.int .i32 r] w fun e w' => e = .returned (.tuple #[.int .i64 k, .int .i32 p]) ∧ Below w.heap.size w w'
    go_enter Tryz.func36, Tryz.ntmps36
    go_wp2_with fail
    refine (class_any r w HR.out).mono ?_
    rintro e w1 ⟨rfl, hb1⟩
    rw [hc]
    have HM1 := hide (HM.out.below hb1)
    go_wp2_with fail
    refine (sides_any w1 HM1.out).mono ?_
    rintro e w2 ⟨b, n, rfl, hb2, hown⟩
    have hlk := lookup_side hown HR.out
    rw [HS.out] at hlk
    have HB := hide (hb1.trans (hb2.mono hb1.size))
    obtain ⟨g0, g1⟩ := cells2 w2 (.int .i64 k) (.int .i32 p) 101
    clear hown hb1 hb2
    go_wp2_with (first
      | (refine wpList_store_new w2 rfl 101 _ _ rfl rfl #[.int .i64 0, .int .i32 0] #[.int .i64 k, .int .i32 p] rfl rfl (two_info sideInfo _ _) rfl (side_one _ _) ?_))
    go_region
    all_goals (try go_wp2)
    all_goals go_ret2
    all_goals exact ⟨rfl, (HB.out.alloc HB.out.size _).drew⟩
  · have hs := Ucd.side_class hc
    rw [hs]
    have hcI : ¬ Ucd.cls r = 14 := hc
    clear hs
    go_enter Tryz.func36, Tryz.ntmps36
    go_wp2_with fail
    refine (class_any r w HR.out).mono ?_
    rintro e w1 ⟨rfl, hb1⟩
    generalize Ucd.cls r = c at *
    go_wp2
    go_ret2
    exact ⟨rfl, hb1⟩
end Go.Proofs.YtmdmehopefgndaaGreatDoor

/- The contracts of Canon, Mirror and works. -/
namespace Go.Proofs.YtmdmehopefgndaaGreatDoor
open Go.RowKit Go.Maps
set_option linter.unusedVariables false
set_option maxHeartbeats 1000000
set_option maxRecDepth 100000
theorem canon_any (r : Int) (w : World) : Calls Tryz.prog 126 #[.int .i32 r] w fun e w' => e = .returned (.int .i32 (Ucd.canon r)) ∧ w = w' := by
  by_cases h1 : r = 9001
  · subst h1
    go_enter Tryz.func126, Tryz.ntmps126
    go_wp2
    go_ret
    exact ⟨rfl, rfl⟩
  · by_cases h2 : r = 9002
    · subst h2
      go_enter Tryz.func126, Tryz.ntmps126
      go_wp2
      go_ret
      exact ⟨rfl, rfl⟩
    · have HC : Hid (Ucd.canon r = r) := hide (by unfold Ucd.canon; rw [if_neg h1, if_neg h2])
      go_enter Tryz.func126, Tryz.ntmps126
      go_wp2
      go_ret
      exact ⟨ret_int HC.out.symm, rfl⟩
theorem miInfo : (Tryz.prog.info? 79).map (·.size) = some (pairCells Ucd.mirrored).size := by kernel_rfl
theorem miSize : (pairCells Ucd.mirrored).size = 20 := by kernel_rfl
theorem oth_step (r : Int) : ∀ (l : List (Int × Int)) (i : Nat), i < l.length → Ucd.oth (l.drop i) r = if r = (l.getD i (0, 0)).1 then some (l.getD i (0, 0)).2 else if r = (l.getD i (0, 0)).2 then some (l.getD i (0, 0)).1 else Ucd.oth (l.drop (i + 1)) r := by
  intro l i h
  rw [List.drop_eq_getElem_cons h]
  have e : l.getD i (0, 0) = l[i] := by simp [List.getD, List.getElem?_eq_getElem h]
  simp only [Ucd.oth, e]
theorem ret_rune_bool {a : Int} {b : Bool} {s : Int × Bool} (h : s = (a, b)) : Ending.returned (.tuple #[.int .i32 a, .bool b]) = .returned (.tuple #[.int .i32 s.1, .bool s.2]) := by rw [h]
theorem mirror_any (r : Int) (w : World) (hr : (Lit.int .i32 r).wf = true) (hm : Marks w) :
    Calls Tryz.prog 26 #[.int .i32 r] w fun e w' => e = .returned (.tuple #[.int .i32 (Ucd.mir r).1, .bool (Ucd.mir r).2]) ∧ Below w.heap.size w w' := by
  have HR := hide hr
  have HM := hide hm
  clear hr hm
  by_cases hk : (Ucd.side r).1 = 0
  · have HX : Hid (Ucd.mir r = match Ucd.oth (Ucd.mirrored.drop 0) r with | some m => (m, true) | none => (0, false)) := hide (by unfold Ucd.mir; rw [if_pos hk]; rfl)
    go_enter Tryz.func26, Tryz.ntmps26
    go_wp2_with fail
    refine (bracket_any r w HR.out HM.out).mono ?_
    rintro e w1 ⟨rfl, hb1⟩
    rw [hk]
    have HM1 := hide (HM.out.below hb1)
    have HC : Hid (∀ i, i < (pairCells Ucd.mirrored).size → w1.cell? ⟨0, i, none⟩ = (pairCells Ucd.mirrored)[i]?) := hide fun i hi => HM1.out.1 i (by rw [miSize] at hi; exact hi)
    generalize (Ucd.side r).2 = z at *
    go_wp2_with (first
      | (refine wpList_load_cells rfl 79 _ rfl 0 rfl (pairCells Ucd.mirrored) _ HC.out Tryz.underlying79 rfl miInfo ?_))
    go_loopw [17] (fun s17 wr => ∃ i : Nat, s17 = .int .i64 i ∧ i ≤ 10 ∧ Below w1.heap.size w1 wr ∧ Hid (Ucd.mir r = match Ucd.oth (Ucd.mirrored.drop i) r with | some m => (m, true) | none => (0, false))) (fun s17 _ => (10 - intOf s17).toNat)
    case atStart => exact ⟨0, rfl, by omega, Below.refl _ _, HX⟩
    case round =>
      obtain ⟨i, rfl, hi, hb, HI⟩ := hrel
      by_cases hi2 : i < 10
      · have hix := run_index_pair 79 10 Tryz.underlying79 Ucd.mirrored rfl wr hi2
        have hst := oth_step r Ucd.mirrored i hi2
        have HB := hide (hb1.trans ((hb.alloc hb.size (.cells #[.int .i32 (Ucd.mirrored.getD i (0, 0)).1, .int .i32 (Ucd.mirrored.getD i (0, 0)).2] 78)).mono hb1.size))
        have HBr := hide (hb.alloc hb.size (.cells #[.int .i32 (Ucd.mirrored.getD i (0, 0)).1, .int .i32 (Ucd.mirrored.getD i (0, 0)).2] 78))
        have HST := hide hst
        clear hst
        generalize (Ucd.mirrored.getD i (0, 0)).1 = pa at *
        generalize (Ucd.mirrored.getD i (0, 0)).2 = pb at *
        obtain ⟨g0, g1⟩ := cells2 wr (.int .i32 pa) (.int .i32 pb) 78
        by_cases h1 : r = pa
        · have HY : Hid (Ucd.mir r = (pb, true)) := hide (by have := HI.out; rw [HST.out, if_pos h1] at this; exact this)
          subst h1
          go_wp2_with (first
            | (refine wpList_store_new wr rfl 78 _ _ rfl rfl #[.int .i32 0, .int .i32 0] #[.int .i32 r, .int .i32 pb] rfl rfl (two_info pairInfo32 _ _) rfl (two_one _ _) ?_))
          go_ret2
          exact ⟨ret_rune_bool HY.out, HB.out⟩
        · by_cases h2 : r = pb
          · have HY : Hid (Ucd.mir r = (pa, true)) := hide (by have := HI.out; rw [HST.out, if_neg h1, if_pos h2] at this; exact this)
            subst h2
            go_wp2_with (first
              | (refine wpList_store_new wr rfl 78 _ _ rfl rfl #[.int .i32 0, .int .i32 0] #[.int .i32 pa, .int .i32 r] rfl rfl (two_info pairInfo32 _ _) rfl (two_one _ _) ?_))
            go_ret2
            exact ⟨ret_rune_bool HY.out, HB.out⟩
          · have HY : Hid (Ucd.mir r = match Ucd.oth (Ucd.mirrored.drop (i + 1)) r with | some m => (m, true) | none => (0, false)) := hide (by have := HI.out; rw [HST.out, if_neg h1, if_neg h2] at this; exact this)
            go_wp2_with (first
              | (refine wpList_store_new wr rfl 78 _ _ rfl rfl #[.int .i32 0, .int .i32 0] #[.int .i32 pa, .int .i32 pb] rfl rfl (two_info pairInfo32 _ _) rfl (two_one _ _) ?_))
            go_roundw
            case rel => exact ⟨i + 1, by first | rfl | (congr 1), by omega, HBr.out, HY⟩
            case measure => simp [intOf]; omega
      · obtain rfl : i = 10 := by omega
        have HY : Hid (Ucd.mir r = (0, false)) := hide (by have := HI.out; rw [List.drop_of_length_le (by decide)] at this; exact this)
        go_wp2
        go_ret2
        exact ⟨ret_rune_bool HY.out, hb1.trans (hb.mono hb1.size)⟩
  · have HX : Hid (Ucd.mir r = ((Ucd.side r).2, true)) := hide (by unfold Ucd.mir; rw [if_neg hk])
    go_enter Tryz.func26, Tryz.ntmps26
    go_wp2_with fail
    refine (bracket_any r w HR.out HM.out).mono ?_
    rintro e w1 ⟨rfl, hb1⟩
    go_wp2
    go_ret2
    exact ⟨ret_rune_bool HX.out, hb1⟩
end Go.Proofs.YtmdmehopefgndaaGreatDoor

/- Slices of pairs of places. -/
namespace Go.Proofs.YtmdmehopefgndaaGreatDoor
open Go.RowKit
set_option linter.unusedVariables false
/-- The cells of pairs. -/
def flat2 (ps : List (Nat × Nat)) : List Value := ps.flatMap fun x => [.int .i64 (x.1 : Int), .int .i64 (x.2 : Int)]
theorem flat2_len (ps : List (Nat × Nat)) : (flat2 ps).length = ps.length * 2 := by
  induction ps with
  | nil => rfl
  | cons x ps ih => rw [flat2, List.flatMap_cons, List.length_append, ← flat2, ih]; simp; omega
theorem flat2_snoc (ps : List (Nat × Nat)) (x : Nat × Nat) : flat2 (ps ++ [x]) = flat2 ps ++ [.int .i64 (x.1 : Int), .int .i64 (x.2 : Int)] := by
  rw [flat2, List.flatMap_append]; simp [flat2]
theorem flat2_at (ps : List (Nat × Nat)) (k : Nat) (h : k < ps.length) : (flat2 ps)[k * 2]? = some (.int .i64 ((ps.getD k (0, 0)).1 : Int)) ∧ (flat2 ps)[k * 2 + 1]? = some (.int .i64 ((ps.getD k (0, 0)).2 : Int)) := by
  induction ps generalizing k with
  | nil => simp at h
  | cons x ps ih =>
    rw [flat2, List.flatMap_cons, ← flat2]
    cases k with
    | zero => simp
    | succ k =>
      have := ih k (by simpa using h)
      rw [show (k + 1) * 2 = k * 2 + 2 from by omega]
      rw [List.getElem?_append_right (by simp), List.getElem?_append_right (by simp)]
      simpa using this
/-- A slice that holds these pairs. -/
structure Pairs (w : World) (ao : Option Addr) (n cap : Nat) (ps : List (Nat × Nat)) : Prop where
  len : ps.length = n
  le : n ≤ cap
  max : cap ≤ maxLen
  cells : 0 < n → ∃ b, ao = some ⟨b, 0, none⟩ ∧ b < w.heap.size ∧ ∀ k, k < n → w.cell? ⟨b, k * 2, none⟩ = some (.int .i64 ((ps.getD k (0, 0)).1 : Int)) ∧ w.cell? ⟨b, k * 2 + 1, none⟩ = some (.int .i64 ((ps.getD k (0, 0)).2 : Int))
  nil : ao = none → cap = 0
theorem Pairs.below {w w' : World} {ao : Option Addr} {n cap : Nat} {ps : List (Nat × Nat)} (h : Pairs w ao n cap ps) (hb : Below w.heap.size w w') : Pairs w' ao n cap ps :=
  ⟨h.len, h.le, h.max, fun h0 => by
    obtain ⟨b, e1, e2, e3⟩ := h.cells h0
    exact ⟨b, e1, Nat.lt_of_lt_of_le e2 hb.size, fun k hk => ⟨(hb.cell (by exact e2)).trans (e3 k hk).1, (hb.cell (by exact e2)).trans (e3 k hk).2⟩⟩, h.nil⟩
theorem pairs_nil (w : World) : Pairs w none 0 0 [] := ⟨rfl, Nat.le_refl _, Nat.zero_le _, fun h => by omega, fun _ => rfl⟩
theorem pairs_of_owns {w : World} {base e n : Nat} {v : Value} {ps : List (Nat × Nat)} (h : w.ownsRow base e 2 v n (flat2 ps)) : ∃ ao cap, v = .slice ao n cap ∧ Pairs w ao n cap ps := by
  have hl : ps.length = n := by have := h.1; rw [flat2_len] at this; omega
  rcases h.2 with ⟨rfl, rfl⟩ | ⟨g, cap, cur, rfl, hb, hg, hn, hc, hs, ht⟩
  · exact ⟨none, 0, rfl, hl, Nat.le_refl _, Nat.zero_le _, fun h0 => by omega, fun _ => rfl⟩
  · refine ⟨_, cap, rfl, hl, hn, hc, fun h0 => ⟨g, rfl, (Array.getElem?_eq_some_iff.1 hg).1, fun k hk => ?_⟩, fun h => by cases h⟩
    have := flat2_at ps k (by omega)
    exact ⟨(h.cellAt (k * 2) (by omega)).trans this.1, (h.cellAt (k * 2 + 1) (by omega)).trans this.2⟩
theorem pairInfo : (Tryz.prog.info? 41).map (fun i => (i.zero, i.size, i.bytes)) = some (some (.agg #[.int .i64 0, .int .i64 0]), 2, 16) := by kernel_rfl
theorem build_pair1 (x y : Int) (w : World) : (Instr.buildSlice 23 1 #[(0, .agg #[.int .i64 x, .int .i64 y])]).run Tryz.prog w = .ok (.slice (some ⟨w.heap.size, 0, none⟩) 1 1) (w.alloc (.cells #[.int .i64 x, .int .i64 y] 41)) := by
  have hq := pairInfo
  cases hi : Tryz.prog.info? 41 with
  | none => rw [hi] at hq; cases hq
  | some ie =>
    rw [hi] at hq
    simp only [Option.map_some, Option.some.injEq, Prod.mk.injEq] at hq
    refine run_buildSlice w 23 41 1 _ _ ie _ Tryz.underlying23 hi hq.1 (by rw [hq.2.1]; decide) (by rw [hq.2.1]; decide) ?_
    rw [hq.2.1]
    kernel_rfl
/-- The cells of a block that was made last. -/
theorem two_new (w : World) (a b : Value) (t : TypeId) : ∀ (j : Nat) (u : Value), [a, b][j]? = some u → (w.alloc (.cells #[a, b] t)).cell? ((⟨w.heap.size, 0, none⟩ : Addr).add j) = some u := by
  intro j u hj
  have hadd : (⟨w.heap.size, 0, none⟩ : Addr).add j = ⟨w.heap.size, j, none⟩ := by unfold Addr.add; split <;> simp_all
  rw [hadd, World.cell?_alloc_mark]
  rw [← hj]
  simp
end Go.Proofs.YtmdmehopefgndaaGreatDoor

/- Brackets of a text: their kinds, who ends whom; those that wait, as they lie in memory. -/
namespace Go.Proofs.YtmdmehopefgndaaGreatDoor
open Go.RowKit
set_option linter.unusedVariables false
set_option maxHeartbeats 1000000
set_option maxRecDepth 100000
namespace Br
/-- What a place is: 1: it opens; 2: it closes; 0: neither. -/
def kd (l t : List Int) (i : Nat) : Int := if t.getD i 0 = 14 then (Ucd.side (l.getD i 0)).1 else 0
/-- What ends an opening one, by Canon. -/
def en (l : List Int) (x : Nat) : Int := Ucd.canon (Ucd.side (l.getD x 0)).2
def mt (l : List Int) (x i : Nat) : Bool := en l x == Ucd.canon (l.getD i 0)
def FF (l t : List Int) : List (Nat × Nat) := F (kd l t) (mt l) l.length
def PP (l t : List Int) : List (Nat × Nat) := PS (kd l t) (mt l) l.length
theorem kd_not {l t : List Int} {i : Nat} (h : ¬ t.getD i 0 = 14) : kd l t i = 0 := by unfold kd; rw [if_neg h]
theorem kd_on {l t : List Int} {i : Nat} (h : t.getD i 0 = 14) : kd l t i = (Ucd.side (l.getD i 0)).1 := by unfold kd; rw [if_pos h]
end Br
/-- The cells of those that wait, the first one first. -/
def wcs (l : List Int) : List Nat → List Value
  | [] => []
  | x :: r => wcs l r ++ [.int .i64 (x : Int), .int .i32 (Br.en l x)]
theorem wcs_len (l : List Int) (W : List Nat) : (wcs l W).length = W.length * 2 := by
  induction W with
  | nil => rfl
  | cons x r ih => rw [wcs, List.length_append, ih, List.length_cons]; simp; omega
theorem wcs_app (l : List Int) (A B : List Nat) : ∃ zs, wcs l (A ++ B) = wcs l B ++ zs := by
  induction A with
  | nil => exact ⟨[], by simp⟩
  | cons x r ih =>
    obtain ⟨zs, e⟩ := ih
    exact ⟨zs ++ [.int .i64 (x : Int), .int .i32 (Br.en l x)], by rw [List.cons_append, wcs, e, List.append_assoc]⟩
theorem owns_cut {w : World} {base : Nat} {e : TypeId} {size g cap n m : Nat} {xs zs : List Value} (h : w.ownsRow base e size (.slice (some ⟨g, 0, none⟩) n cap) n (xs ++ zs)) (hx : xs.length = m * size) (hm : m ≤ n) :
    w.ownsRow base e size (.slice (some ⟨g, 0, none⟩) m cap) m xs := by
  obtain ⟨_, h2⟩ := h
  rcases h2 with ⟨h0, _⟩ | ⟨g', cap', cur, hv, hg, hh, hn, hcap, hsz, htake⟩
  · cases h0
  · cases hv
    refine ⟨hx, .inr ⟨g, cap, cur, rfl, hg, hh, by omega, hcap, hsz, ?_⟩⟩
    have h3 : (cur.toList.take (n * size)).take (m * size) = (xs ++ zs).take (m * size) := by rw [htake]
    rw [List.take_take, Nat.min_eq_left (Nat.mul_le_mul_right _ hm)] at h3
    rw [h3, ← hx, List.take_left']
    rfl
theorem owns_apart {w : World} {b b' : Nat} {e e' : TypeId} {s s' n n' : Nat} {v v' : Value} {xs xs' : List Value} (h : w.ownsRow b e s v n xs) (h' : w.ownsRow b' e' s' v' n' xs') (hne : ¬ e = e') : v.ownBlock = none ∨ v.ownBlock ≠ v'.ownBlock := by
  rcases h.2 with ⟨rfl, _⟩ | ⟨g, cap, cur, rfl, _, hg, _⟩
  · exact .inl rfl
  · refine .inr fun he => ?_
    rcases h'.2 with ⟨rfl, _⟩ | ⟨g', cap', cur', rfl, _, hg', _⟩
    · cases he
    · simp only [Value.ownBlock, Option.some.injEq] at he
      subst he
      rw [hg] at hg'
      simp only [Option.some.injEq, Obj.cells.injEq] at hg'
      exact hne hg'.2.1
/-- What the search keeps: those that wait, and the pairs, in rows of its own. -/
structure SW (l : List Int) (w0 : World) (W : List Nat) (ps : List (Nat × Nat)) (g cap : Nat) (vp : Value) (w : World) : Prop where
  old : Below w0.heap.size w0 w
  wt : w.ownsRow w0.heap.size 159 2 (.slice (some ⟨g, 0, none⟩) W.length cap) W.length (wcs l W)
  ps : w.ownsRow w0.heap.size 41 2 vp ps.length (flat2 ps)
section
variable {l : List Int} {w0 : World} {W : List Nat} {ps : List (Nat × Nat)} {g cap : Nat} {vp : Value} {w : World}
theorem SW.below (h : SW l w0 W ps g cap vp w) {w' : World} (hb : Below w.heap.size w w') : SW l w0 W ps g cap vp w' := ⟨KO.on h.old hb, owns_below h.wt hb, owns_below h.ps hb⟩
theorem SW.caps (h : SW l w0 W ps g cap vp w) : W.length ≤ cap ∧ cap ≤ maxLen ∧ g < w.heap.size := by
  rcases h.wt.2 with ⟨h0, _⟩ | ⟨g', cap', cur, hv, _, hg, h1, h2, _⟩
  · cases h0
  · cases hv; exact ⟨h1, h2, (Array.getElem?_eq_some_iff.1 hg).1⟩
theorem SW.cut (h : SW l w0 W ps g cap vp w) {A R : List Nat} (e : W = A ++ R) : SW l w0 R ps g cap vp w := by
  subst e
  obtain ⟨zs, ez⟩ := wcs_app l A R
  have hw := h.wt
  rw [ez] at hw
  exact ⟨h.old, owns_cut hw (wcs_len l R) (by simp), h.ps⟩
/-- The last one that waits. -/
theorem SW.top (h : SW l w0 W ps g cap vp w) {A R : List Nat} {x : Nat} (e : W = A ++ x :: R) : w.cell? ⟨g, R.length * 2, none⟩ = some (.int .i64 (x : Int)) ∧ w.cell? ⟨g, R.length * 2 + 1, none⟩ = some (.int .i32 (Br.en l x)) := by
  have hw := (h.cut e).wt
  have hl := wcs_len l R
  rw [wcs] at hw
  have hn : (wcs l R ++ [Value.int .i64 (x : Int), Value.int .i32 (Br.en l x)]).length = R.length * 2 + 2 := by rw [List.length_append, hl]; rfl
  refine ⟨(hw.cellAt (R.length * 2) (by rw [List.length_cons]; omega)).trans ?_, (hw.cellAt (R.length * 2 + 1) (by rw [List.length_cons]; omega)).trans ?_⟩
  · rw [List.getElem?_append_right (by omega), hl, Nat.sub_self]; rfl
  · rw [List.getElem?_append_right (by omega), hl, show R.length * 2 + 1 - R.length * 2 = 1 from by omega]; rfl
theorem SW.push (h : SW l w0 W ps g cap vp w) {k : Nat} {o : Obj} {v' : Value} {w' : World} (ho : w'.ownsRow w0.heap.size 159 2 v' (W.length + 1) (wcs l W ++ [.int .i64 (k : Int), .int .i32 (Br.en l k)])) (hg : (w.alloc o).grownBy w' (some g)) :
    ∃ g' cap', v' = .slice (some ⟨g', 0, none⟩) (W.length + 1) cap' ∧ SW l w0 (k :: W) ps g' cap' vp w' := by
  obtain ⟨g', cap', rfl, hb, hle⟩ := owns_pos ho (by omega)
  have ha := owns_apart h.ps h.wt (by decide)
  refine ⟨g', cap', rfl, ?_, ho, ?_⟩
  · refine Below.grown (KO.alloc h.old o) hg (by simp; have := h.old.size; omega) fun j hj => ?_
    cases hj
    exact (h.wt.lt g rfl).1
  · exact (h.ps.alloc o).kept hg ha
theorem SW.pair (h : SW l w0 W ps g cap vp w) {p : Nat × Nat} {o : Obj} {v' : Value} {w' : World} (ho : w'.ownsRow w0.heap.size 41 2 v' (ps.length + 1) (flat2 ps ++ [.int .i64 (p.1 : Int), .int .i64 (p.2 : Int)])) (hg : (w.alloc o).grownBy w' vp.ownBlock) :
    SW l w0 W (ps ++ [p]) g cap v' w' := by
  have ha := owns_apart h.wt h.ps (by decide)
  refine ⟨?_, (h.wt.alloc o).kept hg ha, ?_⟩
  · exact Below.grown (KO.alloc h.old o) hg (by simp; have := h.old.size; omega) fun j hj => (h.ps.lt j hj).1
  · rw [List.length_append, flat2_snoc]; exact ho
end
theorem waitInfo : (Tryz.prog.info? 159).map (fun i => (i.zero, i.size, i.bytes)) = some (some (.agg #[.int .i64 0, .int .i32 0]), 2, 16) := by kernel_rfl
theorem build_wait (x y : Int) (w : World) : (Instr.build 159 #[(0, .int .i64 x), (1, .int .i32 y)]).run Tryz.prog w = .ok (.agg #[.int .i64 x, .int .i32 y]) w := run_build w 159 _ _ (by kernel_rfl)
theorem build_two (x y : Int) (w : World) : (Instr.build 41 #[(0, .int .i64 x), (1, .int .i64 y)]).run Tryz.prog w = .ok (.agg #[.int .i64 x, .int .i64 y]) w := run_build w 41 _ _ (by kernel_rfl)
theorem build_wait1 (x y : Int) (w : World) : (Instr.buildSlice 156 1 #[(0, .agg #[.int .i64 x, .int .i32 y])]).run Tryz.prog w = .ok (.slice (some ⟨w.heap.size, 0, none⟩) 1 1) (w.alloc (.cells #[.int .i64 x, .int .i32 y] 159)) := by
  have hq := waitInfo
  cases hi : Tryz.prog.info? 159 with
  | none => rw [hi] at hq; cases hq
  | some ie =>
    rw [hi] at hq
    simp only [Option.map_some, Option.some.injEq, Prod.mk.injEq] at hq
    refine run_buildSlice w 156 159 1 _ _ ie _ Tryz.underlying156 hi hq.1 (by rw [hq.2.1]; decide) (by rw [hq.2.1]; decide) ?_
    rw [hq.2.1]
    kernel_rfl
/-- One value of two cells is appended. -/
theorem wpList_append_two {P : Program} (w : World) {ops : Array Oper} {rest : List Oper} {o : Oper} {a : Act} {Q : Exit → Act → World → Prop} (hgd : o.guard = none) (s x : Operand) (t : TypeId)
    (ho : o.op = .call { callee := .builtin .append, args := #[s, x], argTypes := #[t, t] })
    (base : Nat) (e : TypeId) (i : TypeInfo) (z : Value) (ht : P.underlying t = some (.slice e)) (hi : P.info? e = some i) (hz : i.zero = some z)
    (hsize : i.size = 2) (hby : i.bytes = 16) (hzs : z.cells.size = 2)
    (v : Value) (n : Nat) (xs : List Value) (hs : a.eval s = v) (p q : Value) (hown : w.ownsRow base e 2 v n xs)
    (g : Nat) (hg : g = w.heap.size) (hx : a.eval x = .slice (some ⟨g, 0, none⟩) 1 1) (h1 : ∀ u ∈ [p, q], u.oneCell' = true)
    (hn : (n + 1) * 16 ≤ 140737488355328) (hbase : base ≤ w.heap.size)
    (h : ∀ v' w', w'.ownsRow base e 2 v' (n + 1) (xs ++ [p, q]) → (w.alloc (.cells #[p, q] e)).grownBy w' v.ownBlock → wpList P ops Q rest (a.put o.dst v') w') :
    wpList P ops Q (o :: rest) a (w.alloc (.cells #[p, q] e)) := by
  subst hg
  refine wpList_append_own _ hgd s x t ho base e i z 2 16 ht hi hz hsize hby hzs (by decide) v n xs hs (hown.alloc _) ⟨w.heap.size, 0, none⟩ 1 1 [p, q] hx rfl (two_new w p q e) h1 (by unfold maxLen; omega) hn (by simp; omega) (fun v' w' g1 g2 _ => h v' w' g1 g2)
end Go.Proofs.YtmdmehopefgndaaGreatDoor
