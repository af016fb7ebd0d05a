/- ParaMoves: where any place is behind any edit is as the document has it. -/
import Derived.Test.YteiljaecaahonaaMove
import Derived.Test.YteiljaecaahonaaKeep
import Derived.Test.YteiljaecaahonaaSame2
namespace Go.Proofs.Yteiljaecaahonaa
open Go.RowKit
set_option linter.unusedVariables false
set_option maxHeartbeats 2000000
set_option maxRecDepth 100000
theorem rmove_ok (i a g c : Int) (w : World) (hi : Near i) (ha : Near a) (hg : Near g) (hc : Near c) :
    Calls Try.prog 33 #[.int .i64 i, .int .i64 a, .int .i64 g, .int .i64 c] w fun e w' => e = .returned (.tuple #[.int .i64 (mvN i a g c), .int .i64 0]) ∧ Below w.heap.size w w' := by
  unfold Near at hi ha hg hc
  obtain ⟨hi1, hi2⟩ := hi
  obtain ⟨ha1, ha2⟩ := ha
  obtain ⟨hg1, hg2⟩ := hg
  obtain ⟨hc1, hc2⟩ := hc
  have HKA := hide (show KO w (w.alloc (.cells #[.int .i64 i, .int .i64 a, .int .i64 g, .int .i64 c] 94)) from KO.alloc (KO.refl _) _)
  by_cases h2 : a + g ≤ i
  · have HE := hide (show mvN i a g c = i + c - g from by unfold mvN; rw [if_neg (by omega), if_pos h2]; omega)
    go_enter Try.func33, Try.ntmps33
    go_wp2
    refine wp_loop_rounds 5 ?_
    iterate 5 (rw [rounds_succ]; go_wp2)
    go_ret2
    exact ⟨ret_ints HE.out.symm rfl, HKA.out⟩
  · by_cases h1 : i < a
    · have HE := hide (show mvN i a g c = i from by unfold mvN; rw [if_pos h1])
      go_enter Try.func33, Try.ntmps33
      go_wp2
      refine wp_loop_rounds 5 ?_
      iterate 5 (rw [rounds_succ]; go_wp2)
      go_ret2
      exact ⟨ret_ints HE.out.symm rfl, HKA.out⟩
    · have HE := hide (show mvN i a g c = a from by unfold mvN; rw [if_neg h1, if_neg h2])
      go_enter Try.func33, Try.ntmps33
      go_wp2
      refine wp_loop_rounds 5 ?_
      iterate 5 (rw [rounds_succ]; go_wp2)
      go_ret2
      exact ⟨ret_ints HE.out.symm rfl, HKA.out⟩
theorem rmove_bad (i a g c : Int) (w : World) (h : ¬ (Near i ∧ Near a ∧ Near g ∧ Near c)) :
    Calls Try.prog 33 #[.int .i64 i, .int .i64 a, .int .i64 g, .int .i64 c] w fun e w' => e = .returned (.tuple #[.int .i64 0, .int .i64 2]) ∧ Below w.heap.size w w' := by
  have HKA := hide (show KO w (w.alloc (.cells #[.int .i64 i, .int .i64 a, .int .i64 g, .int .i64 c] 94)) from KO.alloc (KO.refl _) _)
  rcases near_or i with hi | hi | hi
  · rcases near_or a with ha | ha | ha
    · rcases near_or g with hg | hg | hg
      · rcases near_or c with hc | hc | hc
        · exact absurd ⟨hi, ha, hg, hc⟩ h
        all_goals
          clear h
          unfold Near at hi ha hg
          obtain ⟨hi1, hi2⟩ := hi
          obtain ⟨ha1, ha2⟩ := ha
          obtain ⟨hg1, hg2⟩ := hg
          try obtain ⟨hc, hc2⟩ := hc
          go_enter Try.func33, Try.ntmps33
          go_wp2
          refine wp_loop_rounds 5 ?_
          iterate 4 (rw [rounds_succ]; go_wp2)
          go_ret2
          exact ⟨rfl, HKA.out⟩
      all_goals
        clear h
        unfold Near at hi ha
        obtain ⟨hi1, hi2⟩ := hi
        obtain ⟨ha1, ha2⟩ := ha
        try obtain ⟨hg, hg2⟩ := hg
        go_enter Try.func33, Try.ntmps33
        go_wp2
        refine wp_loop_rounds 5 ?_
        iterate 3 (rw [rounds_succ]; go_wp2)
        go_ret2
        exact ⟨rfl, HKA.out⟩
    all_goals
      clear h
      unfold Near at hi
      obtain ⟨hi1, hi2⟩ := hi
      try obtain ⟨ha, ha2⟩ := ha
      go_enter Try.func33, Try.ntmps33
      go_wp2
      refine wp_loop_rounds 5 ?_
      iterate 2 (rw [rounds_succ]; go_wp2)
      go_ret2
      exact ⟨rfl, HKA.out⟩
  all_goals
    clear h
    try obtain ⟨hi, hi2⟩ := hi
    go_enter Try.func33, Try.ntmps33
    go_wp2
    refine wp_loop_rounds 5 ?_
    rw [rounds_succ]
    go_wp2
    go_ret2
    exact ⟨rfl, HKA.out⟩
theorem both_moves (i a g c : Int) : ∃ n e : Int, (∀ w, Calls Try.prog 32 #[.int .i64 i, .int .i64 a, .int .i64 g, .int .i64 c] w (fun r w' => r = .returned (.tuple #[.int .i64 n, .int .i64 e]) ∧ w = w')) ∧
    (∀ w, Calls Try.prog 33 #[.int .i64 i, .int .i64 a, .int .i64 g, .int .i64 c] w (fun r w' => r = .returned (.tuple #[.int .i64 n, .int .i64 e]) ∧ Below w.heap.size w w')) := by
  by_cases h : Near i ∧ Near a ∧ Near g ∧ Near c
  · exact ⟨_, _, fun w => move_ok i a g c w h.1 h.2.1 h.2.2.1 h.2.2.2, fun w => rmove_ok i a g c w h.1 h.2.1 h.2.2.1 h.2.2.2⟩
  · exact ⟨_, _, fun w => move_bad i a g c w h, fun w => rmove_bad i a g c w h⟩
theorem ParaMoves_walk (w : World) (i a g c : Int) (hi : (Lit.int .i64 i).wf = true) (ha : (Lit.int .i64 a).wf = true) (hg : (Lit.int .i64 g).wf = true) (hc : (Lit.int .i64 c).wf = true) :
    Calls Try.prog 8 #[.agg #[.int .i64 i, .int .i64 a, .int .i64 g, .int .i64 c]] w fun e w' => e = .returned (.bool true) ∧ Below w.heap.size w w' := by
  obtain ⟨V, hV⟩ : ∃ V, w.alloc (.cells #[.int .i64 i, .int .i64 a, .int .i64 g, .int .i64 c] 69) = V := ⟨_, rfl⟩
  have hkV : KO w V := by rw [← hV]; exact KO.alloc (KO.refl _) _
  have cV : ∀ j, V.cell? ⟨w.heap.size, j, none⟩ = (#[.int .i64 i, .int .i64 a, .int .i64 g, .int .i64 c] : Array Value)[j]? := fun j => by rw [← hV, World.cell?_alloc_mark]
  have c0 : V.cell? ⟨w.heap.size, 0, none⟩ = some (.int .i64 i) := cV 0
  have c1 : V.cell? ⟨w.heap.size, 1, none⟩ = some (.int .i64 a) := cV 1
  have c2 : V.cell? ⟨w.heap.size, 2, none⟩ = some (.int .i64 g) := cV 2
  have c3 : V.cell? ⟨w.heap.size, 3, none⟩ = some (.int .i64 c) := cV 3
  have HKV := hide hkV
  obtain ⟨n, e, M1, M2⟩ := both_moves i a g c
  have HM1 := hide M1
  have HM2 := hide M2
  have M3 := fun w => move_ok 5 3 1 4 w (by unfold Near; omega) (by unfold Near; omega) (by unfold Near; omega) (by unfold Near; omega)
  rw [show mvN 5 3 1 4 = 8 from by decide] at M3
  have HM3 := hide M3
  clear hi ha hg hc M1 M2 M3 cV hkV
  go_enter Try.func8, Try.ntmps8
  go_wp2_with fail
  clear hV
  refine (HM1.out V).mono ?_
  rintro r w' ⟨rfl, rfl⟩
  go_wp2_with fail
  refine (HM2.out V).mono ?_
  rintro r w2 ⟨rfl, hb2⟩
  have k2 := KO.on HKV.out hb2
  clear hb2
  go_wp2_with fail
  refine (HM3.out w2).mono ?_
  rintro r w' ⟨rfl, rfl⟩
  go_wp2_with fail
  refine (pnames_any w2).mono ?_
  rintro r w' ⟨rfl, rfl⟩
  go_wp2_with fail
  go_ret
  exact ⟨ret_bool (by simp), k2⟩
end Go.Proofs.Yteiljaecaahonaa
