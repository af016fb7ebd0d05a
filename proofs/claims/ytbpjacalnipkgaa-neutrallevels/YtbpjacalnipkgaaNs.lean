/- The small functions of neutral: isLevel, isSide, isNeutral, levelSide, deeper; the map of types with a side, has. -/
import Derived.Test.YtbpjacalnipkgaaInts
import Derived.Test.YtbpjacalnipkgaaNm
import Derived.Maps.OwnSet
import Derived.Maps.OwnOps
namespace Go.Proofs.Ytbpjacalnipkgaa
open Go.RowKit Go.Maps
set_option linter.unusedVariables false
set_option maxHeartbeats 1000000
set_option maxRecDepth 100000
theorem isLevel_any (x : Int) (w : World) : Calls Try.prog 16 #[.int .i64 x] w fun e w' => e = .returned (.bool (decide (Ne.Lev x))) ∧ w = w' := by
  have hc : (¬ 0 ≤ x ∧ decide (Ne.Lev x) = false) ∨ (0 ≤ x ∧ ¬ x ≤ 126 ∧ decide (Ne.Lev x) = false) ∨ (0 ≤ x ∧ x ≤ 126 ∧ decide (Ne.Lev x) = true) := by
    unfold Ne.Lev
    by_cases h0 : 0 ≤ x
    · by_cases h1 : x ≤ 126
      · exact .inr (.inr ⟨h0, h1, decide_eq_true ⟨h0, h1⟩⟩)
      · exact .inr (.inl ⟨h0, h1, decide_eq_false fun h => h1 h.2⟩)
    · exact .inl ⟨h0, decide_eq_false fun h => h0 h.1⟩
  rcases hc with ⟨h0, e⟩ | ⟨h0, h1, e⟩ | ⟨h0, h1, e⟩
  all_goals
    rw [e]; clear e
    go_enter Try.func16, Try.ntmps16
    go_wp2
    go_ret
    exact ⟨rfl, rfl⟩
def Sd (x : Int) : Prop := x = 1 ∨ x = 2
theorem sd_tests (x : Int) : x = 1 ∨ (¬ x = 1 ∧ x = 2) ∨ (¬ x = 1 ∧ ¬ x = 2 ∧ ¬ Sd x) := by unfold Sd; omega
instance (x : Int) : Decidable (Sd x) := inferInstanceAs (Decidable (_ ∨ _))
theorem isSide_any (x : Int) (w : World) : Calls Try.prog 17 #[.int .i64 x] w fun e w' => e = .returned (.bool (decide (Sd x))) ∧ w = w' := by
  rcases sd_tests x with rfl | ⟨h1, rfl⟩ | ⟨h1, h2, h3⟩
  rotate_left 2
  · rw [decide_eq_false h3]; clear h3
    go_enter Try.func17, Try.ntmps17
    go_wp2
    go_ret
    exact ⟨ret_bool (by simp [h1, h2]), rfl⟩
  all_goals
    go_enter Try.func17, Try.ntmps17
    go_wp2
    go_ret
    exact ⟨rfl, rfl⟩
theorem neu_cases (x : Int) : (x = 11) ∨ (¬ x = 11 ∧ x = 12) ∨ (¬ x = 11 ∧ ¬ x = 12 ∧ x = 13) ∨ (¬ x = 11 ∧ ¬ x = 12 ∧ ¬ x = 13 ∧ x = 14) ∨ (¬ x = 11 ∧ ¬ x = 12 ∧ ¬ x = 13 ∧ ¬ x = 14 ∧ x = 20) ∨ (¬ x = 11 ∧ ¬ x = 12 ∧ ¬ x = 13 ∧ ¬ x = 14 ∧ ¬ x = 20 ∧ x = 21) ∨ (¬ x = 11 ∧ ¬ x = 12 ∧ ¬ x = 13 ∧ ¬ x = 14 ∧ ¬ x = 20 ∧ ¬ x = 21 ∧ x = 22) ∨ (¬ x = 11 ∧ ¬ x = 12 ∧ ¬ x = 13 ∧ ¬ x = 14 ∧ ¬ x = 20 ∧ ¬ x = 21 ∧ ¬ x = 22 ∧ x = 23) ∨ (¬ x = 11 ∧ ¬ x = 12 ∧ ¬ x = 13 ∧ ¬ x = 14 ∧ ¬ x = 20 ∧ ¬ x = 21 ∧ ¬ x = 22 ∧ ¬ x = 23) := by omega
theorem isNeutral_any (x : Int) (w : World) : Calls Try.prog 20 #[.int .i64 x] w fun e w' => e = .returned (.bool (Ne.neu x)) ∧ w = w' := by
  rcases neu_cases x with rfl | ⟨h1, rfl⟩ | ⟨h1, h2, rfl⟩ | ⟨h1, h2, h3, rfl⟩ | ⟨h1, h2, h3, h4, rfl⟩ | ⟨h1, h2, h3, h4, h5, rfl⟩ | ⟨h1, h2, h3, h4, h5, h6, rfl⟩ | ⟨h1, h2, h3, h4, h5, h6, h7, rfl⟩ | ⟨h1, h2, h3, h4, h5, h6, h7, h8⟩
  rotate_left 8
  · have e : Ne.neu x = false := by simp [Ne.neu, h1, h2, h3, h4, h5, h6, h7, h8]
    rw [e]; clear e
    go_enter Try.func20, Try.ntmps20
    go_wp2
    go_ret
    exact ⟨rfl, rfl⟩
  all_goals
    go_enter Try.func20, Try.ntmps20
    go_wp2
    go_ret
    exact ⟨rfl, rfl⟩
theorem levelSide_any (lv : Int) (hl : 0 ≤ lv) (w : World) : Calls Try.prog 24 #[.int .i64 lv] w fun e w' => e = .returned (.int .i64 (Ne.es lv)) ∧ w = w' := by
  have ht : lv.tmod 2 = lv % 2 := Int.tmod_eq_emod_of_nonneg hl
  have h2 : lv % 2 = 0 ∨ lv % 2 = 1 := by omega
  rcases h2 with h2 | h2
  · have e : Ne.es lv = 1 := by unfold Ne.es; rw [if_neg (by omega)]
    rw [e]
    rw [h2] at ht
    clear e h2
    go_enter Try.func24, Try.ntmps24
    go_wp2
    go_ret
    exact ⟨rfl, rfl⟩
  · have e : Ne.es lv = 2 := by unfold Ne.es; rw [if_pos h2]
    rw [e]
    rw [h2] at ht
    clear e h2
    go_enter Try.func24, Try.ntmps24
    go_wp2
    go_ret
    exact ⟨rfl, rfl⟩
theorem deeper_any (x lv : Int) (hx : Ne.sd x ≠ 0) (hl : 0 ≤ lv) (w : World) : Calls Try.prog 28 #[.int .i64 x, .int .i64 lv] w fun e w' => e = .returned (.int .i64 (Ne.dp x lv)) ∧ w = w' := by
  have ht : lv.tmod 2 = lv % 2 := Int.tmod_eq_emod_of_nonneg hl
  have h2 : lv % 2 = 0 ∨ lv % 2 = 1 := by omega
  have HS := hide (levelSide_any lv hl w)
  have hx4 := Ne.sided_cases hx
  clear hx
  rcases h2 with h2 | h2
  · have e : Ne.es lv = 1 := by unfold Ne.es; rw [if_neg (by omega)]
    rw [e] at HS
    have hd : (x = 1 ∧ Ne.dp x lv = 0) ∨ (x = 2 ∧ Ne.dp x lv = 1) ∨ (x = 4 ∧ Ne.dp x lv = 2) ∨ (x = 7 ∧ Ne.dp x lv = 2) := by
      unfold Ne.dp Ne.lv1
      rw [if_pos h2]
      rcases hx4 with rfl | rfl | rfl | rfl
      · rw [if_pos rfl]; omega
      · rw [if_neg (by omega), if_pos rfl]; omega
      · rw [if_neg (by omega), if_neg (by omega)]; omega
      · rw [if_neg (by omega), if_neg (by omega)]; omega
    rw [h2] at ht
    clear e h2 hx4
    rcases hd with ⟨rfl, e⟩ | ⟨rfl, e⟩ | ⟨rfl, e⟩ | ⟨rfl, e⟩
    all_goals
      rw [e]; clear e
      go_enter Try.func28, Try.ntmps28
      go_wp2_with (go_at_call 24; refine HS.out.mono ?_; rintro e w' ⟨rfl, rfl⟩)
      go_ret
      exact ⟨rfl, rfl⟩
  · have e : Ne.es lv = 2 := by unfold Ne.es; rw [if_pos h2]
    rw [e] at HS
    have hd : (x = 1 ∧ Ne.dp x lv = 1) ∨ (x = 2 ∧ Ne.dp x lv = 0) ∨ (x = 4 ∧ Ne.dp x lv = 1) ∨ (x = 7 ∧ Ne.dp x lv = 1) := by
      unfold Ne.dp Ne.lv1
      rw [if_neg (by omega)]
      rcases hx4 with rfl | rfl | rfl | rfl
      · rw [if_neg (by omega)]; omega
      · rw [if_pos rfl]; omega
      · rw [if_neg (by omega)]; omega
      · rw [if_neg (by omega)]; omega
    rw [h2] at ht
    clear e h2 hx4
    rcases hd with ⟨rfl, e⟩ | ⟨rfl, e⟩ | ⟨rfl, e⟩ | ⟨rfl, e⟩
    all_goals
      rw [e]; clear e
      go_enter Try.func28, Try.ntmps28
      go_wp2_with (go_at_call 24; refine HS.out.mono ?_; rintro e w' ⟨rfl, rfl⟩)
      go_ret
      exact ⟨rfl, rfl⟩
/-- A map from ints that answers f. -/
def MK (f : Int → Option Int) (D : DataW Unit) : Prop := IsMap D ∧ ∀ z : Int, Maps.has D (.int .i64 z) = (f z).isSome ∧ ∀ zd, D.atKey (.int .i64 z) zd = match f z with | some y => .lit (.int .i64 y) | none => zd
theorem MK.nil : MK (fun _ => none) (.map []) := ⟨isMap_empty, fun z => ⟨rfl, fun zd => rfl⟩⟩
theorem MK.put {f : Int → Option Int} {D : DataW Unit} (h : MK f D) (k y : Int) : MK (fun z => if z = k then some y else f z) (D.put (.int .i64 k) (.lit (.int .i64 y))) := by
  refine ⟨h.1.put _ _, fun z => ?_⟩
  have ht : WideAt.IsKeyLit (Lit.int .i64 k) := trivial
  by_cases hz : z = k
  · subst hz
    dsimp only
    rw [if_pos rfl]
    exact ⟨has_put_same h.1 ht _, fun zd => atKey_put_same h.1 ht _ _⟩
  · have hne : (Lit.int .i64 z) ≠ (.int .i64 k) := fun e => hz (by simpa using e)
    dsimp only
    rw [if_neg hz]
    obtain ⟨h1, h2⟩ := h.2 z
    exact ⟨(has_put_other hne _).trans h1, fun zd => (atKey_put_other hne _ _).trans (h2 zd)⟩
theorem lawInt : Keyed Try.prog 3 := int_keyed Try.underlying3
theorem zeroInt (w : World) : (zeroValue 3).run Try.prog w = .ok (.int .i64 0) w := by kernel_rfl
/-- The map of types with a side lies at mp. -/
def SM (w : World) (mp : Nat) : Prop := ∃ D n, w.ownsMap Try.prog 3 (plainElem Try.prog 3) mp n D ∧ MK (fun z => if Ne.sd z = 0 then none else some (Ne.sd z)) D
theorem ownsMap_below {w w' : World} {mp n : Nat} {D : DataW Unit} (h : w.ownsMap Try.prog 3 (plainElem Try.prog 3) mp n D) (hb : Below w.heap.size w w') : w'.ownsMap Try.prog 3 (plainElem Try.prog 3) mp n D := by
  have hl := h.lt
  obtain ⟨es, clock, h1, h2⟩ := h
  exact ⟨es, clock, (hb.block mp hl).trans h1, h2⟩
theorem SM.below {w w' : World} {mp : Nat} (h : SM w mp) (hb : Below w.heap.size w w') : SM w' mp := by
  obtain ⟨D, n, h1, h2⟩ := h
  exact ⟨D, n, ownsMap_below h1 hb, h2⟩
theorem SM.lt {w : World} {mp : Nat} (h : SM w mp) : mp < w.heap.size := by
  obtain ⟨D, n, h1, h2⟩ := h
  exact h1.lt
/-- The map is asked. -/
theorem SM.look {w : World} {mp : Nat} (h : SM w mp) (z : Int) (hz : (Lit.int .i64 z).wf = true) :
    (Instr.lookup 40 (.map (some mp)) (.int .i64 z) true).run Try.prog w = .ok (.tuple #[.int .i64 (Ne.sd z), .bool (Ne.sd z != 0)]) w := by
  obtain ⟨D, n, ho, h⟩ := h
  obtain ⟨v, ps, h1, h2⟩ := ho.look_ok lawInt Try.underlying40 (zeroInt w) (plainElem_int (H := Unit) Try.underlying3 (q := .i64) (a := 0) (by decide)) (keyOf_int_mk Try.underlying3 hz)
  obtain ⟨c, rfl, h3, _⟩ := plainElem_int_inv Try.underlying3 h2
  obtain ⟨g1, g2⟩ := h.2 z
  rw [h1, g1]
  rw [g2] at h3
  dsimp only at h3 ⊢
  by_cases hs : Ne.sd z = 0
  · rw [if_pos hs] at h3 ⊢
    simp only [Prod.mk.injEq] at h3
    obtain ⟨h3, _⟩ := h3
    simp at h3
    subst h3
    rw [hs]; rfl
  · rw [if_neg hs] at h3 ⊢
    simp only [Prod.mk.injEq] at h3
    obtain ⟨h3, _⟩ := h3
    simp at h3
    subst h3
    rw [show (Ne.sd z != 0) = true from bne_iff_ne.2 hs]; rfl
theorem sides_fun : (fun z : Int => if z = 7 then some (2 : Int) else if z = 4 then some 2 else if z = 2 then some 2 else if z = 1 then some 1 else none) = fun z => if Ne.sd z = 0 then none else some (Ne.sd z) := by
  funext z
  unfold Ne.sd
  by_cases h1 : z = 1
  · subst h1; rfl
  · by_cases h2 : z = 2
    · subst h2; rfl
    · by_cases h4 : z = 4
      · subst h4; rfl
      · by_cases h7 : z = 7
        · subst h7; rfl
        · simp [h1, h2, h4, h7]
theorem sides_any (w : World) : Calls Try.prog 18 #[] w fun e w' => e = .returned (.map (some w.heap.size)) ∧ SM w' w.heap.size ∧ KO w w' := by
  have hmm : ∀ w : World, (Instr.makeMap 40 none).run Try.prog w = .ok (.map (some w.heap.size)) (w.alloc (.map #[] 0)) := fun w => by
    simp [Instr.makeMap]
  have H0 := hide (World.ownsMap_made w Try.prog 3 (plainElem (H := Unit) Try.prog 3))
  have HB := hide ((Below.refl w.heap.size w).alloc (Nat.le_refl _) (.map #[] 0))
  have hk := fun (z : Int) (hz : (Lit.int .i64 z).wf = true) => keyOf_int_mk (P := Try.prog) Try.underlying3 hz
  have hv := fun (z : Int) (hz : (Lit.int .i64 z).wf = true) => plainElem_int (H := Unit) Try.underlying3 hz
  obtain ⟨w1, r1, o1, g1⟩ := H0.out.update lawInt Try.underlying40 (by decide) (hk 1 (by decide)) (hv 1 (by decide))
  obtain ⟨w2, r2, o2, g2⟩ := o1.update lawInt Try.underlying40 (by decide) (hk 2 (by decide)) (hv 2 (by decide))
  obtain ⟨w3, r3, o3, g3⟩ := o2.update lawInt Try.underlying40 (by decide) (hk 4 (by decide)) (hv 2 (by decide))
  obtain ⟨w4, r4, o4, g4⟩ := o3.update lawInt Try.underlying40 (by decide) (hk 7 (by decide)) (hv 2 (by decide))
  have h1 := HB.out.grown g1 HB.out.size (fun j hj => by cases hj; exact Nat.le_refl _)
  have h2 := h1.grown g2 h1.size (fun j hj => by cases hj; exact Nat.le_refl _)
  have h3 := h2.grown g3 h2.size (fun j hj => by cases hj; exact Nat.le_refl _)
  have HB4 := hide (h3.grown g4 h3.size (fun j hj => by cases hj; exact Nat.le_refl _))
  have HO4 := hide o4
  clear hk hv o1 o2 o3 o4 g1 g2 g3 g4 h1 h2 h3 HB H0
  go_enter Try.func18, Try.ntmps18
  go_wp2
  go_ret
  refine ⟨rfl, ⟨_, _, HO4.out, ?_⟩, HB4.out⟩
  rw [← sides_fun]
  exact (((MK.nil.put 1 1).put 2 2).put 4 2).put 7 2
theorem has_any (mp : Nat) (z : Int) (hz : (Lit.int .i64 z).wf = true) (w : World) (h : SM w mp) : Calls Try.prog 19 #[.map (some mp), .int .i64 z] w fun e w' => e = .returned (.bool (Ne.sd z != 0)) ∧ w = w' := by
  have hl := h.look z hz
  clear h hz
  generalize Ne.sd z = y at *
  generalize (y != 0) = b at *
  go_enter Try.func19, Try.ntmps19
  go_wp2
  go_ret
  exact ⟨rfl, rfl⟩
end Go.Proofs.Ytbpjacalnipkgaa
