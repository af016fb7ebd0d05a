/- works: the chapter's examples; ExplicitRemoves. -/
import Derived.Test.YthohbiklnknofaaRes
namespace Go.Proofs.Ythohbiklnknofaa
open Go.RowKit
set_option linter.unusedVariables false
set_option maxHeartbeats 1000000
set_option maxRecDepth 100000
theorem ex_l0 : Ex.LV 0 [18, 1, 14] = [-1, 1, 1] := by decide
theorem ex_t0 : Ex.TY 0 [18, 1, 14] = [18, 2, 2] := by decide
theorem ex_l1 : Ex.LV 1 [20, 2, 23] = [1, 2, 1] := by decide
theorem ex_f0 : Ex.Formed [18, 1, 14] := by
  intro i hi
  match i, hi with
  | 0, _ => decide
  | 1, _ => decide
  | 2, _ => decide
theorem ex_f1 : Ex.Formed [20, 2, 23] := by
  intro i hi
  match i, hi with
  | 0, _ => decide
  | 1, _ => decide
  | 2, _ => decide
theorem rremoved_any (x : Int) (w : World) : Calls Try.prog 43 #[.int .i64 x] w fun e w' => e = .returned (.bool (Ex.rm x)) ∧ w = w' := by
  rcases rm_cases x with ⟨hs, h⟩ | ⟨hs, h1, h2, h3, h4, h5, h6⟩
  · rcases h with rfl | rfl | rfl | rfl | rfl | rfl
    all_goals
      clear hs
      go_enter Try.func43, Try.ntmps43
      go_wp2
      go_ret
      exact ⟨rfl, rfl⟩
  · rw [hs]
    have q1 : (x == 17) = false := beq_false_of_ne h1
    have q2 : (x == 15) = false := beq_false_of_ne h2
    have q3 : (x == 18) = false := beq_false_of_ne h3
    have q4 : (x == 16) = false := beq_false_of_ne h4
    have q5 : (x == 19) = false := beq_false_of_ne h5
    have q6 : (x == 10) = false := beq_false_of_ne h6
    clear hs
    go_enter Try.func43, Try.ntmps43
    go_wp2
    go_ret
    exact ⟨rfl, rfl⟩
end Go.Proofs.Ythohbiklnknofaa
