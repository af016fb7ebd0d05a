/- Move: where a place is behind an edit. -/
import Derived.Test.YteiljaecaahonaaArgs
import Derived.Test.YteiljaecaahonaaRows
import Derived.WalkKit
import Derived.WalkSpells
import Derived.WalkLawsBesides
namespace Go.Proofs.Yteiljaecaahonaa
open Go.RowKit
set_option linter.unusedVariables false
set_option maxHeartbeats 1000000
set_option maxRecDepth 100000
theorem infoInt : (Try.prog.info? 3).map (fun i => (i.zero, i.size, i.bytes)) = some (some (.int .i64 0), 1, 8) := by kernel_rfl
theorem cellsInt : Try.prog.cellsOf 3 = 1 := by kernel_rfl
theorem plainInt : Try.prog.plainKey 3 = true := by kernel_rfl
theorem idx4i (v0 v1 v2 v3 : Value) (w : World) : (Instr.index 94 (.agg #[v0, v1, v2, v3]) (.int .i64 0)).run Try.prog w = .ok v0 w ∧ (Instr.index 94 (.agg #[v0, v1, v2, v3]) (.int .i64 1)).run Try.prog w = .ok v1 w ∧
    (Instr.index 94 (.agg #[v0, v1, v2, v3]) (.int .i64 2)).run Try.prog w = .ok v2 w ∧ (Instr.index 94 (.agg #[v0, v1, v2, v3]) (.int .i64 3)).run Try.prog w = .ok v3 w := by
  obtain ⟨i5, hi, _⟩ := info_parts infoInt
  exact ⟨run_index_arr w .i64 _ 0 v0 Try.underlying94 hi cellsInt plainInt (by omega) rfl, run_index_arr w .i64 _ 1 v1 Try.underlying94 hi cellsInt plainInt (by omega) rfl,
    run_index_arr w .i64 _ 2 v2 Try.underlying94 hi cellsInt plainInt (by omega) rfl, run_index_arr w .i64 _ 3 v3 Try.underlying94 hi cellsInt plainInt (by omega) rfl⟩
/-- Where a place is behind an edit. -/
def mvN (i a g c : Int) : Int := if i < a then i else if a + g ≤ i then i - g + c else a
/-- A number that Move takes. -/
def Near (x : Int) : Prop := 0 ≤ x ∧ x ≤ 1099511627776
theorem near_or (x : Int) : Near x ∨ x < 0 ∨ (¬ x < 0 ∧ 1099511627776 < x) := by unfold Near; omega
theorem move_ok (i a g c : Int) (w : World) (hi : Near i) (ha : Near a) (hg : Near g) (hc : Near c) :
    Calls Try.prog 32 #[.int .i64 i, .int .i64 a, .int .i64 g, .int .i64 c] w fun e w' => e = .returned (.tuple #[.int .i64 (mvN i a g c), .int .i64 0]) ∧ w = w' := by
  unfold Near at hi ha hg hc
  obtain ⟨hi1, hi2⟩ := hi
  obtain ⟨ha1, ha2⟩ := ha
  obtain ⟨hg1, hg2⟩ := hg
  obtain ⟨hc1, hc2⟩ := hc
  have ix0 := fun v0 v1 v2 v3 w' => (idx4i v0 v1 v2 v3 w').1
  have ix1 := fun v0 v1 v2 v3 w' => (idx4i v0 v1 v2 v3 w').2.1
  have ix2 := fun v0 v1 v2 v3 w' => (idx4i v0 v1 v2 v3 w').2.2.1
  have ix3 := fun v0 v1 v2 v3 w' => (idx4i v0 v1 v2 v3 w').2.2.2
  by_cases h1 : i < a
  · have HE := hide (show mvN i a g c = i from by unfold mvN; rw [if_pos h1])
    go_enter Try.func32, Try.ntmps32
    go_wp2
    refine wp_loop_rounds 5 ?_
    iterate 5 (rw [rounds_succ]; go_wp2)
    go_ret2
    exact ⟨ret_ints HE.out.symm rfl, rfl⟩
  · by_cases h2 : a + g ≤ i
    · have HE := hide (show mvN i a g c = i - g + c from by unfold mvN; rw [if_neg h1, if_pos h2])
      go_enter Try.func32, Try.ntmps32
      go_wp2
      refine wp_loop_rounds 5 ?_
      iterate 5 (rw [rounds_succ]; go_wp2)
      go_ret2
      exact ⟨ret_ints HE.out.symm rfl, rfl⟩
    · have HE := hide (show mvN i a g c = a from by unfold mvN; rw [if_neg h1, if_neg h2])
      go_enter Try.func32, Try.ntmps32
      go_wp2
      refine wp_loop_rounds 5 ?_
      iterate 5 (rw [rounds_succ]; go_wp2)
      go_ret2
      exact ⟨ret_ints HE.out.symm rfl, rfl⟩
theorem move_bad (i a g c : Int) (w : World) (h : ¬ (Near i ∧ Near a ∧ Near g ∧ Near c)) :
    Calls Try.prog 32 #[.int .i64 i, .int .i64 a, .int .i64 g, .int .i64 c] w fun e w' => e = .returned (.tuple #[.int .i64 0, .int .i64 2]) ∧ w = w' := by
  have ix0 := fun v0 v1 v2 v3 w' => (idx4i v0 v1 v2 v3 w').1
  have ix1 := fun v0 v1 v2 v3 w' => (idx4i v0 v1 v2 v3 w').2.1
  have ix2 := fun v0 v1 v2 v3 w' => (idx4i v0 v1 v2 v3 w').2.2.1
  have ix3 := fun v0 v1 v2 v3 w' => (idx4i v0 v1 v2 v3 w').2.2.2
  rcases near_or i with hi | hi | hi
  · rcases near_or a with ha | ha | ha
    · rcases near_or g with hg | hg | hg
      · rcases near_or c with hc | hc | hc
        · exact absurd ⟨hi, ha, hg, hc⟩ h
        all_goals
          clear h
          unfold Near at hi ha hg
          obtain ⟨hi1, hi2⟩ := hi
          obtain ⟨ha1, ha2⟩ := ha
          obtain ⟨hg1, hg2⟩ := hg
          try obtain ⟨hc, hc2⟩ := hc
          go_enter Try.func32, Try.ntmps32
          go_wp2
          refine wp_loop_rounds 5 ?_
          iterate 4 (rw [rounds_succ]; go_wp2)
          go_ret2
          exact ⟨rfl, rfl⟩
      all_goals
        clear h
        unfold Near at hi ha
        obtain ⟨hi1, hi2⟩ := hi
        obtain ⟨ha1, ha2⟩ := ha
        try obtain ⟨hg, hg2⟩ := hg
        go_enter Try.func32, Try.ntmps32
        go_wp2
        refine wp_loop_rounds 5 ?_
        iterate 3 (rw [rounds_succ]; go_wp2)
        go_ret2
        exact ⟨rfl, rfl⟩
    all_goals
      clear h
      unfold Near at hi
      obtain ⟨hi1, hi2⟩ := hi
      try obtain ⟨ha, ha2⟩ := ha
      go_enter Try.func32, Try.ntmps32
      go_wp2
      refine wp_loop_rounds 5 ?_
      iterate 2 (rw [rounds_succ]; go_wp2)
      go_ret2
      exact ⟨rfl, rfl⟩
  all_goals
    clear h
    try obtain ⟨hi, hi2⟩ := hi
    go_enter Try.func32, Try.ntmps32
    go_wp2
    refine wp_loop_rounds 5 ?_
    rw [rounds_succ]
    go_wp2
    go_ret2
    exact ⟨rfl, rfl⟩
end Go.Proofs.Yteiljaecaahonaa
