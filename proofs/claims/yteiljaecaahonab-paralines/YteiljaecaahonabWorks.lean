/- The chapter's examples. -/
import Derived.Test.YteiljaecaahonabBounds
import Derived.Test.YteiljaecaahonabMove
import Derived.ChangeKeysEq
import Derived.Deep.QuietTactic
import Derived.BigQuiet
namespace Go.Proofs.Yteiljaecaahonab
open Go.RowKit
set_option linter.unusedVariables false
set_option maxHeartbeats 1000000
set_option maxRecDepth 100000
theorem itemsI_step (w : World) (d i : Nat) (xs ys : Array Value) (a b : Int) (is : List Nat) (ha : xs[i]? = some (.int .i64 a)) (hb : ys[i]? = some (.int .i64 b)) :
    (Op.eqItems (d + 1) 3 1 xs ys (i :: is)).run Try.prog w = if a = b then (Op.eqItems (d + 1) 3 1 xs ys is).run Try.prog w else .ok false w := by
  simp only [Op.eqItems, Sem.run_bind, Nat.mul_one, run_part_plain w plainInt ha, run_part_plain w plainInt hb, Result.andThen_ok, run_equalIn_int w _ 3 .i64 .i64 _ _ Try.underlying3]
  by_cases h : a = b
  · simp [h]
  · simp [h]
theorem run_eq2 (a0 a1 b0 b1 : Int) (w : World) :
    (Op.equalIn 10000 31 (.agg #[.int .i64 a0, .int .i64 a1]) (.agg #[.int .i64 b0, .int .i64 b1])).run Try.prog w = .ok ([a0, a1] == [b0, b1]) w := by
  obtain ⟨i5, hi, _⟩ := info_parts infoInt
  rw [run_equalIn_array w 9999 _ _ Try.underlying31 hi, cellsInt, show List.range 2 = [0, 1] from rfl]
  rw [itemsI_step w 9998 0 _ _ a0 b0 _ (by simp) (by simp), itemsI_step w 9998 1 _ _ a1 b1 _ (by simp) (by simp)]
  by_cases h0 : a0 = b0 <;> by_cases h1 : a1 = b1 <;> simp [h0, h1, Op.eqItems]
theorem run_same2 (a0 a1 : Int) (w : World) : (Op.equalIn 10000 31 (.agg #[.int .i64 a0, .int .i64 a1]) (.agg #[.int .i64 a0, .int .i64 a1])).run Try.prog w = .ok true w := by
  rw [run_eq2]; simp
theorem ex_pars : pars [97, 8233, 98] = [(0, 2), (2, 3)] := by decide +kernel
theorem ex_seps : seps [97, 8233, 98] = 1 := by decide +kernel
theorem pworks_any (w : World) : Calls Try.prog 12 #[] w fun e w' => e = .returned (.bool true) ∧ Below w.heap.size w w' := by
  have hk1 : KO w (w.alloc (.cells #[.int .i32 97, .int .i32 8233, .int .i32 98] 21)) := KO.alloc (KO.refl _) _
  have HB := hide (bounds_any (some ⟨w.heap.size, 0, none⟩) 3 3 [97, 8233, 98] _ (row_lit .i32 w [97, 8233, 98] 21 (by decide)) (by decide) (by omega))
  rw [ex_pars, ex_seps] at HB
  have heq := run_same2
  have hbd := build_pair
  go_enter Try.func12, Try.ntmps12
  go_wp2_with fail
  refine HB.out.mono ?_
  rintro e w1 ⟨a1, c1, rfl, hp, hb1⟩
  have kk1 : KO w w1 := KO.on hk1 hb1
  have HP := hide hp
  have HF := hide (find_ok (some ⟨w1.heap.size, 0, none⟩) 3 3 [97, 8233, 98] 2 _ (row_lit .i32 w1 [97, 8233, 98] 21 (by decide)) (by decide) (by omega))
  rw [show seps (List.take 2 [97, 8233, 98]) = 1 from by decide +kernel] at HF
  have hk2 : KO w1 (w1.alloc (.cells #[.int .i32 97, .int .i32 8233, .int .i32 98] 21)) := KO.alloc (KO.refl _) _
  clear hp hb1 hk1
  go_wp2_with fail
  refine HF.out.mono ?_
  rintro e w2 ⟨rfl, hb2⟩
  have kk2 : KO w1 w2 := KO.on hk2 hb2
  have kk3 : KO w w2 := KO.on kk1 kk2
  have hp2 := HP.out.below kk2
  obtain ⟨b, rfl, _, hc⟩ := hp2.cells (by omega)
  have c0 := (hc 0 (by omega)).1
  have c1 := (hc 0 (by omega)).2
  have c2 := (hc 1 (by omega)).1
  have c3 := (hc 1 (by omega)).2
  simp only [List.getD_cons_zero, List.getD_cons_succ, Nat.zero_mul, Nat.one_mul, Nat.zero_add, Nat.reduceAdd] at c0 c1 c2 c3
  have HM := hide (move_ok 3 3 0 4 w2 (by unfold Near; omega) (by unfold Near; omega) (by unfold Near; omega) (by unfold Near; omega))
  rw [show mvN 3 3 0 4 = 7 from by decide] at HM
  clear hb2 hk2 kk2 kk1 hp2 hc
  go_wp2_with fail
  refine HM.out.mono ?_
  rintro e w3 ⟨rfl, rfl⟩
  go_wp2_with fail
  go_ret
  exact ⟨rfl, kk3⟩
end Go.Proofs.Yteiljaecaahonab
