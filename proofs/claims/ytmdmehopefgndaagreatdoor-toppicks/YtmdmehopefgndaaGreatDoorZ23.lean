import Derived.Test.YtmdmehopefgndaaGreatDoorZ07
import Derived.Test.YtmdmehopefgndaaGreatDoorZ16
import Derived.Maps.OwnSet
import Derived.Maps.OwnOps
import Derived.RangeFuncNested
import Derived.RangeFuncBound
import Derived.RangeFuncCalls
import Derived.RangeFuncLeaves
import Derived.Below
import Derived.Test.YtmdmehopefgndaaGreatDoorZ21
import Derived.Shelf.Abstract
import Derived.Shelf.RegionOpen
import Derived.WalkKit
import Derived.OwnWalkIn
import Derived.TacticsInMore
import Derived.LoopNIn
import Derived.LoopIn
/- The small functions of neutral: isLevel, isSide, isNeutral, levelSide, deeper; the map of types with a side, has. -/
namespace Go.Proofs.YtmdmehopefgndaaGreatDoor
open Go.RowKit Go.Maps
set_option linter.unusedVariables false
set_option maxHeartbeats 1000000
set_option maxRecDepth 100000
theorem isLevel_any (x : Int) (w : World) : Calls Tryz.prog 94 #[.int .i64 x] w fun e w' => e = .returned (.bool (decide (Ne.Lev x))) ∧ w = w' := by
  have hc : (¬ 0 ≤ x ∧ decide (Ne.Lev x) = false) ∨ (0 ≤ x ∧ ¬ x ≤ 126 ∧ decide (Ne.Lev x) = false) ∨ (0 ≤ x ∧ x ≤ 126 ∧ decide (Ne.Lev x) = true) := by
    unfold Ne.Lev
    by_cases h0 : 0 ≤ x
    · by_cases h1 : x ≤ 126
      · exact .inr (.inr ⟨h0, h1, decide_eq_true ⟨h0, h1⟩⟩)
      · exact .inr (.inl ⟨h0, h1, decide_eq_false fun h => h1 h.2⟩)
    · exact .inl ⟨h0, decide_eq_false fun h => h0 h.1⟩
  rcases hc with ⟨h0, e⟩ | ⟨h0, h1, e⟩ | ⟨h0, h1, e⟩
  all_goals
    rw [e]; clear e
    go_enter Tryz.func94, Tryz.ntmps94
    go_wp2
    go_ret
    exact ⟨rfl, rfl⟩
def Sd (x : Int) : Prop := x = 1 ∨ x = 2
theorem sd_tests (x : Int) : x = 1 ∨ (¬ x = 1 ∧ x = 2) ∨ (¬ x = 1 ∧ ¬ x = 2 ∧ ¬ Sd x) := by unfold Sd; omega
instance (x : Int) : Decidable (Sd x) := inferInstanceAs (Decidable (_ ∨ _))
theorem isSide_any (x : Int) (w : World) : Calls Tryz.prog 95 #[.int .i64 x] w fun e w' => e = .returned (.bool (decide (Sd x))) ∧ w = w' := by
  rcases sd_tests x with rfl | ⟨h1, rfl⟩ | ⟨h1, h2, h3⟩
  rotate_left 2
  · rw [decide_eq_false h3]; clear h3
    go_enter Tryz.func95, Tryz.ntmps95
    go_wp2
    go_ret
    exact ⟨ret_bool (by simp [h1, h2]), rfl⟩
  all_goals
    go_enter Tryz.func95, Tryz.ntmps95
    go_wp2
    go_ret
    exact ⟨rfl, rfl⟩
theorem neu_cases (x : Int) : (x = 11) ∨ (¬ x = 11 ∧ x = 12) ∨ (¬ x = 11 ∧ ¬ x = 12 ∧ x = 13) ∨ (¬ x = 11 ∧ ¬ x = 12 ∧ ¬ x = 13 ∧ x = 14) ∨ (¬ x = 11 ∧ ¬ x = 12 ∧ ¬ x = 13 ∧ ¬ x = 14 ∧ x = 20) ∨ (¬ x = 11 ∧ ¬ x = 12 ∧ ¬ x = 13 ∧ ¬ x = 14 ∧ ¬ x = 20 ∧ x = 21) ∨ (¬ x = 11 ∧ ¬ x = 12 ∧ ¬ x = 13 ∧ ¬ x = 14 ∧ ¬ x = 20 ∧ ¬ x = 21 ∧ x = 22) ∨ (¬ x = 11 ∧ ¬ x = 12 ∧ ¬ x = 13 ∧ ¬ x = 14 ∧ ¬ x = 20 ∧ ¬ x = 21 ∧ ¬ x = 22 ∧ x = 23) ∨ (¬ x = 11 ∧ ¬ x = 12 ∧ ¬ x = 13 ∧ ¬ x = 14 ∧ ¬ x = 20 ∧ ¬ x = 21 ∧ ¬ x = 22 ∧ ¬ x = 23) := by omega
theorem isNeutral_any (x : Int) (w : World) : Calls Tryz.prog 98 #[.int .i64 x] w fun e w' => e = .returned (.bool (Ne.neu x)) ∧ w = w' := by
  rcases neu_cases x with rfl | ⟨h1, rfl⟩ | ⟨h1, h2, rfl⟩ | ⟨h1, h2, h3, rfl⟩ | ⟨h1, h2, h3, h4, rfl⟩ | ⟨h1, h2, h3, h4, h5, rfl⟩ | ⟨h1, h2, h3, h4, h5, h6, rfl⟩ | ⟨h1, h2, h3, h4, h5, h6, h7, rfl⟩ | ⟨h1, h2, h3, h4, h5, h6, h7, h8⟩
  rotate_left 8
  · have e : Ne.neu x = false := by simp [Ne.neu, h1, h2, h3, h4, h5, h6, h7, h8]
    rw [e]; clear e
    go_enter Tryz.func98, Tryz.ntmps98
    go_wp2
    go_ret
    exact ⟨rfl, rfl⟩
  all_goals
    go_enter Tryz.func98, Tryz.ntmps98
    go_wp2
    go_ret
    exact ⟨rfl, rfl⟩
theorem nlevelSide_any (lv : Int) (hl : 0 ≤ lv) (w : World) : Calls Tryz.prog 102 #[.int .i64 lv] w fun e w' => e = .returned (.int .i64 (Ne.es lv)) ∧ w = w' := by
  have ht : lv.tmod 2 = lv % 2 := Int.tmod_eq_emod_of_nonneg hl
  have h2 : lv % 2 = 0 ∨ lv % 2 = 1 := by omega
  rcases h2 with h2 | h2
  · have e : Ne.es lv = 1 := by unfold Ne.es; rw [if_neg (by omega)]
    rw [e]
    rw [h2] at ht
    clear e h2
    go_enter Tryz.func102, Tryz.ntmps102
    go_wp2
    go_ret
    exact ⟨rfl, rfl⟩
  · have e : Ne.es lv = 2 := by unfold Ne.es; rw [if_pos h2]
    rw [e]
    rw [h2] at ht
    clear e h2
    go_enter Tryz.func102, Tryz.ntmps102
    go_wp2
    go_ret
    exact ⟨rfl, rfl⟩
theorem deeper_any (x lv : Int) (hx : Ne.sd x ≠ 0) (hl : 0 ≤ lv) (w : World) : Calls Tryz.prog 103 #[.int .i64 x, .int .i64 lv] w fun e w' => e = .returned (.int .i64 (Ne.dp x lv)) ∧ w = w' := by
  have ht : lv.tmod 2 = lv % 2 := Int.tmod_eq_emod_of_nonneg hl
  have h2 : lv % 2 = 0 ∨ lv % 2 = 1 := by omega
  have HS := hide (nlevelSide_any lv hl w)
  have hx4 := Ne.sided_cases hx
  clear hx
  rcases h2 with h2 | h2
  · have e : Ne.es lv = 1 := by unfold Ne.es; rw [if_neg (by omega)]
    rw [e] at HS
    have hd : (x = 1 ∧ Ne.dp x lv = 0) ∨ (x = 2 ∧ Ne.dp x lv = 1) ∨ (x = 4 ∧ Ne.dp x lv = 2) ∨ (x = 7 ∧ Ne.dp x lv = 2) := by
      unfold Ne.dp Ne.lv1
      rw [if_pos h2]
      rcases hx4 with rfl | rfl | rfl | rfl
      · rw [if_pos rfl]; omega
      · rw [if_neg (by omega), if_pos rfl]; omega
      · rw [if_neg (by omega), if_neg (by omega)]; omega
      · rw [if_neg (by omega), if_neg (by omega)]; omega
    rw [h2] at ht
    clear e h2 hx4
    rcases hd with ⟨rfl, e⟩ | ⟨rfl, e⟩ | ⟨rfl, e⟩ | ⟨rfl, e⟩
    all_goals
      rw [e]; clear e
      go_enter Tryz.func103, Tryz.ntmps103
      go_wp2_with (go_at_call 102; refine HS.out.mono ?_; rintro e w' ⟨rfl, rfl⟩)
      go_ret
      exact ⟨rfl, rfl⟩
  · have e : Ne.es lv = 2 := by unfold Ne.es; rw [if_pos h2]
    rw [e] at HS
    have hd : (x = 1 ∧ Ne.dp x lv = 1) ∨ (x = 2 ∧ Ne.dp x lv = 0) ∨ (x = 4 ∧ Ne.dp x lv = 1) ∨ (x = 7 ∧ Ne.dp x lv = 1) := by
      unfold Ne.dp Ne.lv1
      rw [if_neg (by omega)]
      rcases hx4 with rfl | rfl | rfl | rfl
      · rw [if_neg (by omega)]; omega
      · rw [if_pos rfl]; omega
      · rw [if_neg (by omega)]; omega
      · rw [if_neg (by omega)]; omega
    rw [h2] at ht
    clear e h2 hx4
    rcases hd with ⟨rfl, e⟩ | ⟨rfl, e⟩ | ⟨rfl, e⟩ | ⟨rfl, e⟩
    all_goals
      rw [e]; clear e
      go_enter Tryz.func103, Tryz.ntmps103
      go_wp2_with (go_at_call 102; refine HS.out.mono ?_; rintro e w' ⟨rfl, rfl⟩)
      go_ret
      exact ⟨rfl, rfl⟩
/-- A map from ints that answers f. -/
def MK (f : Int → Option Int) (D : DataW Unit) : Prop := IsMap D ∧ ∀ z : Int, Maps.has D (.int .i64 z) = (f z).isSome ∧ ∀ zd, D.atKey (.int .i64 z) zd = match f z with | some y => .lit (.int .i64 y) | none => zd
theorem MK.nil : MK (fun _ => none) (.map []) := ⟨isMap_empty, fun z => ⟨rfl, fun zd => rfl⟩⟩
theorem MK.put {f : Int → Option Int} {D : DataW Unit} (h : MK f D) (k y : Int) : MK (fun z => if z = k then some y else f z) (D.put (.int .i64 k) (.lit (.int .i64 y))) := by
  refine ⟨h.1.put _ _, fun z => ?_⟩
  have ht : WideAt.IsKeyLit (Lit.int .i64 k) := trivial
  by_cases hz : z = k
  · subst hz
    dsimp only
    rw [if_pos rfl]
    exact ⟨has_put_same h.1 ht _, fun zd => atKey_put_same h.1 ht _ _⟩
  · have hne : (Lit.int .i64 z) ≠ (.int .i64 k) := fun e => hz (by simpa using e)
    dsimp only
    rw [if_neg hz]
    obtain ⟨h1, h2⟩ := h.2 z
    exact ⟨(has_put_other hne _).trans h1, fun zd => (atKey_put_other hne _ _).trans (h2 zd)⟩
theorem nlawInt : Keyed Tryz.prog 3 := int_keyed Tryz.underlying3
theorem nzeroInt (w : World) : (zeroValue 3).run Tryz.prog w = .ok (.int .i64 0) w := by kernel_rfl
/-- The map of types with a side lies at mp. -/
def SM (w : World) (mp : Nat) : Prop := ∃ D n, w.ownsMap Tryz.prog 3 (plainElem Tryz.prog 3) mp n D ∧ MK (fun z => if Ne.sd z = 0 then none else some (Ne.sd z)) D
theorem nownsMap_below {w w' : World} {mp n : Nat} {D : DataW Unit} (h : w.ownsMap Tryz.prog 3 (plainElem Tryz.prog 3) mp n D) (hb : Below w.heap.size w w') : w'.ownsMap Tryz.prog 3 (plainElem Tryz.prog 3) mp n D := by
  have hl := h.lt
  obtain ⟨es, clock, h1, h2⟩ := h
  exact ⟨es, clock, (hb.block mp hl).trans h1, h2⟩
theorem SM.below {w w' : World} {mp : Nat} (h : SM w mp) (hb : Below w.heap.size w w') : SM w' mp := by
  obtain ⟨D, n, h1, h2⟩ := h
  exact ⟨D, n, nownsMap_below h1 hb, h2⟩
theorem SM.lt {w : World} {mp : Nat} (h : SM w mp) : mp < w.heap.size := by
  obtain ⟨D, n, h1, h2⟩ := h
  exact h1.lt
/-- The map is asked. -/
theorem SM.look {w : World} {mp : Nat} (h : SM w mp) (z : Int) (hz : (Lit.int .i64 z).wf = true) :
    (Instr.lookup 115 (.map (some mp)) (.int .i64 z) true).run Tryz.prog w = .ok (.tuple #[.int .i64 (Ne.sd z), .bool (Ne.sd z != 0)]) w := by
  obtain ⟨D, n, ho, h⟩ := h
  obtain ⟨v, ps, h1, h2⟩ := ho.look_ok nlawInt Tryz.underlying115 (nzeroInt w) (plainElem_int (H := Unit) Tryz.underlying3 (q := .i64) (a := 0) (by decide)) (keyOf_int_mk Tryz.underlying3 hz)
  obtain ⟨c, rfl, h3, _⟩ := plainElem_int_inv Tryz.underlying3 h2
  obtain ⟨g1, g2⟩ := h.2 z
  rw [h1, g1]
  rw [g2] at h3
  dsimp only at h3 ⊢
  by_cases hs : Ne.sd z = 0
  · rw [if_pos hs] at h3 ⊢
    simp only [Prod.mk.injEq] at h3
    obtain ⟨h3, _⟩ := h3
    simp at h3
    subst h3
    rw [hs]; rfl
  · rw [if_neg hs] at h3 ⊢
    simp only [Prod.mk.injEq] at h3
    obtain ⟨h3, _⟩ := h3
    simp at h3
    subst h3
    rw [show (Ne.sd z != 0) = true from bne_iff_ne.2 hs]; rfl
theorem sides_fun : (fun z : Int => if z = 7 then some (2 : Int) else if z = 4 then some 2 else if z = 2 then some 2 else if z = 1 then some 1 else none) = fun z => if Ne.sd z = 0 then none else some (Ne.sd z) := by
  funext z
  unfold Ne.sd
  by_cases h1 : z = 1
  · subst h1; rfl
  · by_cases h2 : z = 2
    · subst h2; rfl
    · by_cases h4 : z = 4
      · subst h4; rfl
      · by_cases h7 : z = 7
        · subst h7; rfl
        · simp [h1, h2, h4, h7]
theorem nsides_any (w : World) : Calls Tryz.prog 96 #[] w fun e w' => e = .returned (.map (some w.heap.size)) ∧ SM w' w.heap.size ∧ KO w w' := by
  have hmm : ∀ w : World, (Instr.makeMap 115 none).run Tryz.prog w = .ok (.map (some w.heap.size)) (w.alloc (.map #[] 0)) := fun w => by
    simp [Instr.makeMap]
  have H0 := hide (World.ownsMap_made w Tryz.prog 3 (plainElem (H := Unit) Tryz.prog 3))
  have HB := hide ((Below.refl w.heap.size w).alloc (Nat.le_refl _) (.map #[] 0))
  have hk := fun (z : Int) (hz : (Lit.int .i64 z).wf = true) => keyOf_int_mk (P := Tryz.prog) Tryz.underlying3 hz
  have hv := fun (z : Int) (hz : (Lit.int .i64 z).wf = true) => plainElem_int (H := Unit) Tryz.underlying3 hz
  obtain ⟨w1, r1, o1, g1⟩ := H0.out.update nlawInt Tryz.underlying115 (by decide) (hk 1 (by decide)) (hv 1 (by decide))
  obtain ⟨w2, r2, o2, g2⟩ := o1.update nlawInt Tryz.underlying115 (by decide) (hk 2 (by decide)) (hv 2 (by decide))
  obtain ⟨w3, r3, o3, g3⟩ := o2.update nlawInt Tryz.underlying115 (by decide) (hk 4 (by decide)) (hv 2 (by decide))
  obtain ⟨w4, r4, o4, g4⟩ := o3.update nlawInt Tryz.underlying115 (by decide) (hk 7 (by decide)) (hv 2 (by decide))
  have h1 := HB.out.grown g1 HB.out.size (fun j hj => by cases hj; exact Nat.le_refl _)
  have h2 := h1.grown g2 h1.size (fun j hj => by cases hj; exact Nat.le_refl _)
  have h3 := h2.grown g3 h2.size (fun j hj => by cases hj; exact Nat.le_refl _)
  have HB4 := hide (h3.grown g4 h3.size (fun j hj => by cases hj; exact Nat.le_refl _))
  have HO4 := hide o4
  clear hk hv o1 o2 o3 o4 g1 g2 g3 g4 h1 h2 h3 HB H0
  go_enter Tryz.func96, Tryz.ntmps96
  go_wp2
  go_ret
  refine ⟨rfl, ⟨_, _, HO4.out, ?_⟩, HB4.out⟩
  rw [← sides_fun]
  exact (((MK.nil.put 1 1).put 2 2).put 4 2).put 7 2
theorem has_any (mp : Nat) (z : Int) (hz : (Lit.int .i64 z).wf = true) (w : World) (h : SM w mp) : Calls Tryz.prog 97 #[.map (some mp), .int .i64 z] w fun e w' => e = .returned (.bool (Ne.sd z != 0)) ∧ w = w' := by
  have hl := h.look z hz
  clear h hz
  generalize Ne.sd z = y at *
  generalize (y != 0) = b at *
  go_enter Tryz.func97, Tryz.ntmps97
  go_wp2
  go_ret
  exact ⟨rfl, rfl⟩
end Go.Proofs.YtmdmehopefgndaaGreatDoor

/- A range over a function whose iterator may keep state of its own in cells: the caller speaks of what lay when the loop began, the iterator of what it lays itself. -/
namespace Go.Proofs.YtmdmehopefgndaaGreatDoor
open Go.RowKit
set_option linter.unusedVariables false
/-- What lies at or beyond B lies as it lay. -/
structure Beyond (B : Nat) (X Y : World) : Prop where
  size : X.heap.size ≤ Y.heap.size
  same : ∀ k, B ≤ k → k < X.heap.size → Y.heap[k]? = X.heap[k]?
theorem Beyond.refl (B : Nat) (X : World) : Beyond B X X := ⟨Nat.le_refl _, fun _ _ _ => rfl⟩
theorem Beyond.trans {B : Nat} {X Y Z : World} (h : Beyond B X Y) (k : Beyond B Y Z) : Beyond B X Z :=
  ⟨Nat.le_trans h.size k.size, fun i hi hx => (k.same i hi (Nat.lt_of_lt_of_le hx h.size)).trans (h.same i hi hx)⟩
theorem Beyond.mono {B B' : Nat} {X Y : World} (h : Beyond B X Y) (hB : B ≤ B') : Beyond B' X Y := ⟨h.size, fun k hk hx => h.same k (Nat.le_trans hB hk) hx⟩
theorem Beyond.alloc (B : Nat) (X : World) (o : Obj) : Beyond B X (X.alloc o) := ⟨by simp, fun k _ hk => Below.heap_alloc X o k hk⟩
theorem Beyond.drew (B : Nat) (X : World) : Beyond B X X.drew := ⟨Nat.le_refl _, fun _ _ _ => rfl⟩
theorem Beyond.setCell {B : Nat} (X : World) {p : Addr} (hp : p.block < B) (v : Value) : Beyond B X (X.setCell p v) :=
  ⟨by simp [World.setCell], fun k hk _ => Below.heap_setCell X p v k (by omega)⟩
theorem Beyond.putObj {B : Nat} (X : World) {l : Nat} (hl : l < B) (o : Obj) : Beyond B X (X.putObj l o) := ⟨by simp, fun k hk _ => World.putObj_heap_other (by omega)⟩
theorem Beyond.of_grownBy {B : Nat} {X Y : World} {row : Option Nat} (hg : X.grownBy Y row) (hr : ∀ j, row = some j → j < B) : Beyond B X Y :=
  ⟨hg.size, fun k hk hx => hg.block k hx (fun e => by have := hr k e.symm; omega)⟩
theorem Beyond.of_below {B : Nat} {X Y : World} (h : Below X.heap.size X Y) : Beyond B X Y := ⟨h.size, fun k _ hx => h.block k hx⟩
theorem below_put {B : Nat} {W : World} {l : Nat} (hl : B ≤ l) (o : Obj) : Below B W (W.putObj l o) := ⟨rfl, rfl, rfl, by simp, fun k hk => World.putObj_heap_other (by omega)⟩
/-- Below B nothing has turned; and, where c says so, no cell that lay anywhere has. -/
structure Ch (c : Bool) (B : Nat) (X Y : World) : Prop where
  below : Below B X Y
  cells : c = true → ∀ (k : Nat) (o : Obj), X.heap[k]? = some o → o.isCells = true → Y.heap[k]? = some o
theorem Ch.mono {c : Bool} {B B' : Nat} {X Y : World} (h : Ch c B X Y) (hB : B' ≤ B) : Ch c B' X Y := ⟨h.below.mono hB, h.cells⟩
theorem Ch.free {B : Nat} {X Y : World} (h : Below B X Y) : Ch false B X Y := ⟨h, fun h => by cases h⟩
theorem Ch.alloc {c : Bool} {B : Nat} {X : World} (hB : B ≤ X.heap.size) (o : Obj) : Ch c B X (X.alloc o) :=
  ⟨(Below.refl B X).alloc hB o, fun _ k o' hk _ => (Below.heap_alloc X o k (Array.getElem?_eq_some_iff.1 hk).1).trans hk⟩
theorem Ch.trans {c : Bool} {B : Nat} {X Y Z : World} (h : Ch c B X Y) (k : Ch c B Y Z) : Ch c B X Z := ⟨h.below.trans k.below, fun e i o hi ho => k.cells e i o (h.cells e i o hi ho) ho⟩
theorem Ch.put {c : Bool} {B : Nat} {W : World} {l : Nat} (hl : B ≤ l) {o : Obj} (ho : W.heap[l]? = some o) (hc : o.isCells = false) (o' : Obj) : Ch c B W (W.putObj l o') :=
  ⟨below_put hl o', fun _ k o2 hk h2 => by
    by_cases e : k = l
    · subst e; rw [ho] at hk; cases hk; rw [hc] at h2; cases h2
    · exact (World.putObj_heap_other e).trans hk⟩
theorem Ch.cell {B : Nat} {X Y : World} (h : Ch true B X Y) {a : Addr} {v : Value} (hv : X.cell? a = some v) : Y.cell? a = some v := by
  cases ho : X.heap[a.block]? with
  | none => unfold World.cell? at hv; simp [ho] at hv
  | some o =>
    have hc : o.isCells = true := by
      unfold World.cell? at hv
      cases o <;> simp_all [Obj.isCells]
    rw [World.cell?_of_block (w := X) (by rw [ho]; exact h.cells rfl _ o ho hc)]
    exact hv
/-- AN ITERATOR: whatever the caller's J, which speaks of what lay when it was called alone: it hands on xs, one behind the other, till a round says 'no more'. 'Ok': what it reads, which J must keep. -/
def Seq {α : Type} (c : Bool) (P : Program) (gf : Nat) (lb : Array Value) (encs : α → Array Value) (xs : List α) (Ok : World → Prop) : Prop :=
  ∀ (n l : Nat) (J Jx : List α → World → Prop) (W : World),
    (∀ pre X, J pre X → Ok X) → (∀ pre X Y, J pre X → Ch c W.heap.size X Y → J pre Y) → (∀ pre X Y, Jx pre X → Ch c W.heap.size X Y → Jx pre Y) →
    (∀ m pre x X, J pre X → pre ++ [x] <+: xs → W.heap.size ≤ X.heap.size → YieldAt Fence.wide m P l (encs x) X fun e Y => Beyond W.heap.size X Y ∧ ((e = .returned (.bool true) ∧ J (pre ++ [x]) Y) ∨ (e = .returned (.bool false) ∧ Jx (pre ++ [x]) Y))) →
    J [] W →
    CallsIn Fence.wide n P gf (#[.func (.yield l) #[] #[]] ++ lb) W fun e Y => (∃ v, e = .returned v) ∧ W.heap.size ≤ Y.heap.size ∧ (J xs Y ∨ ∃ pre, pre <+: xs ∧ Jx pre Y)
/-- How the body of a round may be left. -/
def rPost {α : Type} (B : Nat) (I : List α → World → Prop) (Ix : Code → List α → World → Prop) (xs : List α) (W : World) : Exit → Act → World → Prop
  | .normal, _, W' => Beyond B W W' ∧ I xs W'
  | .ret, _, W' => Beyond B W W' ∧ Ix .ret xs W'
  | .exit id, _, W' => Beyond B W W' ∧ Ix (.exit id) xs W'
  | .goto t, _, W' => Beyond B W W' ∧ Ix (.goto t) xs W'
  | .panic _, _, _ => False
  | .outgrown, _, _ => False
/-- THE CALLER. -/
theorem wpIn_range {α : Type} {ck : Bool} {P : Program} {n : Nat} {g : Operand} {ps : Array Tmp} {assign body : Code} {Q : Exit → Act → World → Prop} {a : Act} {w : World}
    {gf : Nat} {lb : Array Value} (hg : a.eval g = .func (.func gf) #[] lb) (eg : ∀ args w, (callFunc gf args).run P w = .ok (.enter gf args) w)
    {encs : α → Array Value} {xs : List α} {Ok : World → Prop} (hseq : Seq ck P gf lb encs xs Ok) (hps : ∀ x, (encs x).size = ps.size)
    (I : List α → World → Prop) (Ix : Code → List α → World → Prop) (hOk : ∀ pre X, I pre X → Ok X)
    (hI : ∀ pre X Y, I pre X → Ch ck w.heap.size X Y → I pre Y) (hIx : ∀ c pre X Y, Ix c pre X → Ch ck w.heap.size X Y → Ix c pre Y) (h0 : I [] w) (a₁ : α → Act)
    (hassign : ∀ (m l : Nat) (x : α) (W : World) (K : Act → World → Prop), K (a₁ x) W →
      assign.wpIn (Fence.wide.inRound l) m P (Exit.then K (fun _ _ _ => False)) { tmps := (ps.zip (encs x)).foldl (fun t (p, v) => t.setIfInBounds p v) a.tmps, defers := [] } W)
    (hbody : ∀ (m l : Nat) (pre : List α) (x : α) (W : World), I pre W → pre ++ [x] <+: xs → w.heap.size ≤ W.heap.size → body.wpIn (Fence.wide.inRound l) m P (rPost w.heap.size I Ix (pre ++ [x]) W) (a₁ x) W)
    (hdone : ∀ (D : Nat) (W : World), w.heap.size ≤ D → w.heap.size ≤ W.heap.size → I xs W → W.heap[D]? = some (.deferred (some [])) → Q .normal { a with defers := { target := .collected D, args := #[] } :: a.defers } W)
    (hstop : ∀ (D : Nat) (c : Code) (pre : List α) (W : World), w.heap.size ≤ D → w.heap.size ≤ W.heap.size → pre <+: xs → Ix c pre W → W.heap[D]? = some (.deferred (some [])) → c.wpIn Fence.wide n P Q { a with defers := { target := .collected D, args := #[] } :: a.defers } W) :
    (Code.rangeFunc g ps assign body).wpIn Fence.wide n P Q a w := by
  refine wpIn_rangeFunc ?_
  intro fn hfn
  obtain ⟨mk, hmk⟩ : ∃ mk : LoopState → Option Code → Loop, mk = fun st pe => { state := st, pending := pe, fn, tmps := a.tmps, params := ps, assign, body, defers := w.heap.size } := ⟨_, rfl⟩
  obtain ⟨V, hV⟩ : ∃ V, (w.alloc (.deferred (some []))).alloc (.loop (mk .ready none)) = V := ⟨_, rfl⟩
  have hsz : V.heap.size = w.heap.size + 2 := by rw [← hV]; simp
  have hbV : Ch ck w.heap.size w V := by rw [← hV]; exact (Ch.alloc (Nat.le_refl _) _).trans (Ch.alloc (by simp) _)
  have hLV : V.heap[w.heap.size + 1]? = some (.loop (mk .ready none)) := by
    rw [← hV]; have := World.alloc_heap_new (w.alloc (.deferred (some []))) (.loop (mk .ready none)); rwa [World.size_alloc] at this
  have hDV : V.heap[w.heap.size]? = some (.deferred (some [])) := by
    rw [← hV]; exact (Below.heap_alloc _ _ _ (by simp)).trans (World.alloc_heap_new w _)
  refine ⟨w.heap.size + 1, [{ target := .collected w.heap.size, args := #[] }], V, { target := .fn (.func gf) lb, args := #[.func (.yield (w.heap.size + 1)) #[] #[]] }, V, gf,
    #[.func (.yield (w.heap.size + 1)) #[] #[]] ++ lb, V, ?_, ?_, fun _ _ => trivial, ?_, fun h => (by cases h), ?_⟩
  · rw [← hV, hmk]; exact run_enterLoop_outer _ _ _ _ _
  · simp only [resolve, hg]
    simp [go_sem]
  · simp [invoke, go_sem, eg]
  · refine (hseq (n - 1) (w.heap.size + 1)
      (fun pre W => I pre W ∧ W.heap[w.heap.size + 1]? = some (.loop (mk .ready none)) ∧ W.heap[w.heap.size]? = some (.deferred (some [])))
      (fun pre W => ∃ c, Ix c pre W ∧ W.heap[w.heap.size + 1]? = some (.loop (mk .done (some c))) ∧ W.heap[w.heap.size]? = some (.deferred (some [])))
      V (fun pre X h => hOk pre X h.1)
      (fun pre X Y h hb => ⟨hI pre X Y h.1 (hb.mono (by omega)), (hb.below.block _ (by omega)).trans h.2.1, (hb.below.block _ (by omega)).trans h.2.2⟩)
      (fun pre X Y h hb => by
        obtain ⟨c, hc, hl, hk⟩ := h
        exact ⟨c, hIx c pre X Y hc (hb.mono (by omega)), (hb.below.block _ (by omega)).trans hl, (hb.below.block _ (by omega)).trans hk⟩)
      ?_ ⟨hI [] w V h0 hbV, hLV, hDV⟩).mono ?_
    · rintro m pre x X ⟨hi, hl, hk⟩ hpre hXs
      have hy := run_yield (P := P) (args := encs x) hl (by rw [hmk]; exact hps x)
      rw [hmk] at hy
      refine ⟨fn, _, assign, body, hy, roundIn_of_wpIn hfn (hassign _ _ x X _ ⟨_, run_beginRound hl (by rw [hmk]), ?_⟩)⟩
      have hlt : w.heap.size + 1 < X.heap.size := (Array.getElem?_eq_some_iff.1 hl).1
      obtain ⟨X2, hX2⟩ : ∃ X2, X.putObj (w.heap.size + 1) (.loop { mk .ready none with state := .busy }) = X2 := ⟨_, rfl⟩
      rw [hX2]
      have hl2 : X2.heap[w.heap.size + 1]? = some (.loop { mk .ready none with state := .busy }) := by rw [← hX2]; exact World.putObj_heap_same hlt
      have hk2 : X2.heap[w.heap.size]? = some (.deferred (some [])) := by rw [← hX2]; exact (World.putObj_heap_other (by omega)).trans hk
      have hb2 : Ch ck w.heap.size X X2 := by rw [← hX2]; exact Ch.put (by omega) hl rfl _
      have hy2 : Beyond V.heap.size X X2 := by rw [← hX2]; exact Beyond.putObj X (by omega) _
      have hs2 : X2.heap.size = X.heap.size := by rw [← hX2]; simp
      refine wpIn_mono (hbody _ _ pre x X2 (hI _ _ _ hi hb2) hpre (by omega)) ?_
      have fin : ∀ (jump : Option Code) (Y : World), Beyond w.heap.size X2 Y →
          (Instr.endRound (w.heap.size + 1) jump).run P Y = .ok (.bool jump.isNone) (Y.putObj (w.heap.size + 1) (.loop (mk (if jump.isNone then .ready else .done) jump))) ∧
          Ch ck w.heap.size Y (Y.putObj (w.heap.size + 1) (.loop (mk (if jump.isNone then .ready else .done) jump))) ∧
          (Y.putObj (w.heap.size + 1) (.loop (mk (if jump.isNone then .ready else .done) jump))).heap[w.heap.size + 1]? = some (.loop (mk (if jump.isNone then .ready else .done) jump)) ∧
          (Y.putObj (w.heap.size + 1) (.loop (mk (if jump.isNone then .ready else .done) jump))).heap[w.heap.size]? = some (.deferred (some [])) ∧
          Beyond V.heap.size X (Y.putObj (w.heap.size + 1) (.loop (mk (if jump.isNone then .ready else .done) jump))) := fun jump Y hY => by
        have hl3 := (hY.same _ (by omega) (by omega)).trans hl2
        have hr := run_endRound (P := P) jump hl3
        have hlt3 : w.heap.size + 1 < Y.heap.size := (Array.getElem?_eq_some_iff.1 hl3).1
        refine ⟨by rw [hr, hmk], Ch.put (by omega) hl3 rfl _, World.putObj_heap_same hlt3, (World.putObj_heap_other (by omega)).trans ((hY.same _ (Nat.le_refl _) (by omega)).trans hk2), ?_⟩
        exact hy2.trans ((hY.mono (by omega)).trans (Beyond.putObj Y (by omega) _))
      rintro e a3 Y hp
      cases e with
      | normal =>
        obtain ⟨hY, hi3⟩ := hp
        obtain ⟨hr, hb3, hl4, hk4, hy4⟩ := fin none Y hY
        exact ⟨_, _, hr, hy4, .inl ⟨rfl, hI _ _ _ hi3 hb3, hl4, hk4⟩⟩
      | ret =>
        obtain ⟨hY, hi3⟩ := hp
        obtain ⟨hr, hb3, hl4, hk4, hy4⟩ := fin (some .ret) Y hY
        exact ⟨_, _, hr, hy4, .inr ⟨rfl, .ret, hIx _ _ _ _ hi3 hb3, hl4, hk4⟩⟩
      | exit id =>
        obtain ⟨hY, hi3⟩ := hp
        obtain ⟨hr, hb3, hl4, hk4, hy4⟩ := fin (some (.exit id)) Y hY
        exact ⟨_, _, hr, hy4, .inr ⟨rfl, .exit id, hIx _ _ _ _ hi3 hb3, hl4, hk4⟩⟩
      | goto t =>
        obtain ⟨hY, hi3⟩ := hp
        obtain ⟨hr, hb3, hl4, hk4, hy4⟩ := fin (some (.goto t)) Y hY
        exact ⟨_, _, hr, hy4, .inr ⟨rfl, .goto t, hIx _ _ _ _ hi3 hb3, hl4, hk4⟩⟩
      | panic ch => exact hp.elim
      | outgrown => exact hp.elim
    · rintro e Y ⟨⟨v, rfl⟩, hYs, (⟨hi, hl, hk⟩ | ⟨pre, hpre, c, hi, hl, hk⟩)⟩
      · exact ⟨none, _, by have := run_endLoop (P := P) hl (by rw [hmk]; simp); rw [hmk] at this; exact this, hdone _ _ (Nat.le_refl _) (by simp; omega) (hI _ _ _ hi (Ch.put (by omega) hl rfl _)) ((World.putObj_heap_other (by omega)).trans hk)⟩
      · exact ⟨some c, _, by have := run_endLoop (P := P) hl (by rw [hmk]; simp); rw [hmk] at this; exact this, hstop _ c pre _ (Nat.le_refl _) (by simp; omega) hpre (hIx _ _ _ _ hi (Ch.put (by omega) hl rfl _)) ((World.putObj_heap_other (by omega)).trans hk)⟩
end Go.Proofs.YtmdmehopefgndaaGreatDoor

/- nearest: the side that was last met on a way, for either way (slices.All, slices.Backward). -/
namespace Go.Proofs.YtmdmehopefgndaaGreatDoor
open Go.RowKit Go.Shelf
set_option linter.unusedVariables false
set_option maxHeartbeats 1000000
set_option maxRecDepth 100000
attribute [local go_sem] Oper.semAt_some
theorem Row.ch {B : Nat} {X Y : World} (h : Ch true B X Y) {k : IntKind} {ao : Option Addr} {n cap : Nat} {t : List Int} (hr : Row k X ao n cap t) : Row k Y ao n cap t :=
  ⟨hr.len, hr.le, hr.max, fun h0 => by
    obtain ⟨b, off, e, hb, hc⟩ := hr.cells h0
    exact ⟨b, off, e, Nat.lt_of_lt_of_le hb h.below.size, fun i hi => h.cell (hc i hi)⟩, hr.nil⟩
/-- What a round is handed: a place, and what stands there. -/
def enc2 (x : Nat × Int) : Array Value := #[Value.int .i64 (x.1 : Int), Value.int .i64 x.2]
/-- slices.All's function. -/
theorem all1_seq (Bs : Nat) (ao : Option Addr) (n cap : Nat) (t : List Int) (hn : n ≤ 4611686018427387904) :
    Seq true Tryz.prog 118 #[.pointer (some ⟨Bs, 0, none⟩)] enc2 (Ne.ups t)
      (fun X => X.cell? ⟨Bs, 0, none⟩ = some (.slice ao n cap) ∧ Row .i64 X ao n cap t) := by
  intro m l J Jx W hOk hJ hJx hY h0
  obtain ⟨cB, hrow⟩ := hOk _ _ h0
  have hlen := hrow.len
  refine callsIn_of_wp Tryz.func118 rfl trivial ?_
  simp only [Tryz.ntmps118, List.size_toArray, List.length_cons, List.length_nil, Nat.reduceAdd, Nat.reduceSub, Array.replicate_succ, Array.replicate_zero, List.push_toArray, List.append_toArray, List.nil_append, List.cons_append]
  gi_wp2
  gi_loopw [7] (fun p wr => ∃ k : Nat, k ≤ n ∧ p = .int .i64 (k : Int) ∧ W.heap.size ≤ wr.heap.size ∧ J ((Ne.ups t).take k) wr) (fun p _ => n - (intOf p).toNat)
  case atStart => exact ⟨0, by omega, rfl, Nat.le_refl _, by simpa using h0⟩
  case round =>
    obtain ⟨k, hk, rfl, hsz, hJk⟩ := hrel
    obtain ⟨cB', hrow'⟩ := hOk _ _ hJk
    by_cases hlt : k < n
    · obtain ⟨b, off, hao, hbl, hc⟩ := hrow'.cells (by omega)
      have hci := hc k (by omega)
      have hin : (k : Int) < (n : Int) := by omega
      have hat := Ne.ups_at t (show k < t.length by omega)
      obtain ⟨p, hp⟩ : ∃ p, t.getD k 0 = p := ⟨_, rfl⟩
      rw [hp] at hci hat
      have htk := take_snoc' _ _ _ hat
      obtain ⟨fn, tmps, assign, body, hy, hR⟩ := hY (m - 1) _ (k, p) wr hJk (by rw [← htk]; exact prefix_take _ _) hsz
      rw [← htk] at hR
      dsimp only [enc2] at hy
      rw [hao] at cB'
      rw [hao]
      clear hat htk hp hc hrow' hrow cB hJk hao
      gi_wp2
      refine ⟨fun h => (by cases h), ?_⟩
      refine hR.mono ?_
      rintro e W3 ⟨hbey, (⟨rfl, hJ3⟩ | ⟨rfl, hJx3⟩)⟩
      · gi_wp2
        go_roundw
        case rel => exact ⟨k + 1, by omega, by go_num, Nat.le_trans hsz hbey.size, hJ3⟩
        case measure => simp [intOf]; omega
      · gi_wp2
        refine bodyPost_ret (results_none rfl _ _ _) rfl ?_
        exact ⟨⟨_, rfl⟩, Nat.le_trans hsz hbey.size, .inr ⟨_, prefix_take _ _, hJx3⟩⟩
    · obtain rfl : k = n := by omega
      have hne : ¬ ((k : Int) < (k : Int)) := by omega
      gi_wp2
      go_end0
      exact ⟨⟨_, rfl⟩, hsz, .inl (by rw [← hlen, ← Ne.ups_len, List.take_length] at hJk; exact hJk)⟩
/-- slices.Backward's function. -/
theorem back1_seq (Bs : Nat) (ao : Option Addr) (n cap : Nat) (t : List Int) (hn : n ≤ 4611686018427387904) :
    Seq true Tryz.prog 119 #[.pointer (some ⟨Bs, 0, none⟩)] enc2 (Ne.downs t)
      (fun X => X.cell? ⟨Bs, 0, none⟩ = some (.slice ao n cap) ∧ Row .i64 X ao n cap t) := by
  intro m l J Jx W hOk hJ hJx hY h0
  obtain ⟨cB, hrow⟩ := hOk _ _ h0
  have hlen := hrow.len
  refine callsIn_of_wp Tryz.func119 rfl trivial ?_
  simp only [Tryz.ntmps119, List.size_toArray, List.length_cons, List.length_nil, Nat.reduceAdd, Nat.reduceSub, Array.replicate_succ, Array.replicate_zero, List.push_toArray, List.append_toArray, List.nil_append, List.cons_append]
  have e1 : wrap64 ((n : Int) - 1) = (n : Int) - 1 := w64_small (by omega) (by omega)
  gi_wp2
  gi_loopw [3] (fun p wr => ∃ k : Nat, k ≤ n ∧ p = .int .i64 ((n : Int) - 1 - (k : Int)) ∧ W.heap.size ≤ wr.heap.size ∧ J ((Ne.downs t).take k) wr) (fun p _ => (intOf p + 1).toNat)
  case atStart => exact ⟨0, by omega, by simp, Nat.le_refl _, by simpa using h0⟩
  case round =>
    obtain ⟨k, hk, rfl, hsz, hJk⟩ := hrel
    obtain ⟨cB', hrow'⟩ := hOk _ _ hJk
    by_cases hlt : k < n
    · obtain ⟨i, hi⟩ : ∃ i : Nat, n - 1 - k = i := ⟨_, rfl⟩
      have hii : (n : Int) - 1 - (k : Int) = (i : Int) := by omega
      obtain ⟨b, off, hao, hbl, hc⟩ := hrow'.cells (by omega)
      have hci := hc i (by omega)
      have hin : (i : Int) < (n : Int) := by omega
      have hat := Ne.downs_at t (show k < t.length by omega)
      rw [hlen, hi] at hat
      obtain ⟨p, hp⟩ : ∃ p, t.getD i 0 = p := ⟨_, rfl⟩
      rw [hp] at hci hat
      have htk := take_snoc' _ _ _ hat
      obtain ⟨fn, tmps, assign, body, hy, hR⟩ := hY (m - 1) _ (i, p) wr hJk (by rw [← htk]; exact prefix_take _ _) hsz
      rw [← htk] at hR
      dsimp only [enc2] at hy
      rw [hii]
      rw [hao] at cB'
      have e2 : wrap64 ((i : Int) - 1) = (i : Int) - 1 := w64_small (by omega) (by omega)
      clear hat htk hp hc hrow' hrow cB hJk hao
      gi_wp2
      refine ⟨fun h => (by cases h), ?_⟩
      refine hR.mono ?_
      rintro e W3 ⟨hbey, (⟨rfl, hJ3⟩ | ⟨rfl, hJx3⟩)⟩
      · gi_wp2
        go_roundw
        case rel => exact ⟨k + 1, by omega, congrArg (Value.int .i64) (by omega), Nat.le_trans hsz hbey.size, hJ3⟩
        case measure => simp [intOf]
      · gi_wp2
        refine bodyPost_ret (results_none rfl _ _ _) rfl ?_
        exact ⟨⟨_, rfl⟩, Nat.le_trans hsz hbey.size, .inr ⟨_, prefix_take _ _, hJx3⟩⟩
    · obtain rfl : k = n := by omega
      have hii : (k : Int) - 1 - (k : Int) = -1 := by omega
      rw [hii]
      gi_wp2
      go_end0
      exact ⟨⟨_, rfl⟩, hsz, .inl (by rw [← hlen, ← Ne.downs_len, List.take_length] at hJk; exact hJk)⟩
theorem all_any (ao : Option Addr) (n cap : Nat) (w : World) :
    Calls Tryz.prog 100 #[.slice ao n cap] w fun e w' => e = .returned (.func (.func 118) #[] #[.pointer (some ⟨w.heap.size, 0, none⟩)]) ∧ w' = w.alloc (.cells #[.slice ao n cap] 27) := by
  go_enter Tryz.func100, Tryz.ntmps100
  go_wp2
  go_ret
  exact ⟨rfl, rfl⟩
theorem back_any (ao : Option Addr) (n cap : Nat) (w : World) :
    Calls Tryz.prog 101 #[.slice ao n cap] w fun e w' => e = .returned (.func (.func 119) #[] #[.pointer (some ⟨w.heap.size, 0, none⟩)]) ∧ w' = w.alloc (.cells #[.slice ao n cap] 27) := by
  go_enter Tryz.func101, Tryz.ntmps101
  go_wp2
  go_ret
  exact ⟨rfl, rfl⟩
end Go.Proofs.YtmdmehopefgndaaGreatDoor
