/- '==' of two pairs of ints. -/
import Derived.Test.YtmcbldllbnjipaaInts
import Derived.ChangeKeysEq
namespace Go.Proofs.Ytmcbldllbnjipaa
open Go.RowKit
set_option linter.unusedVariables false
set_option maxHeartbeats 1000000
set_option maxRecDepth 100000
theorem plainInt : Try.prog.plainKey 3 = true := by kernel_rfl
theorem itemsI_step (w : World) (d i : Nat) (xs ys : Array Value) (a b : Int) (is : List Nat) (ha : xs[i]? = some (.int .i64 a)) (hb : ys[i]? = some (.int .i64 b)) :
    (Op.eqItems (d + 1) 3 1 xs ys (i :: is)).run Try.prog w = if a = b then (Op.eqItems (d + 1) 3 1 xs ys is).run Try.prog w else .ok false w := by
  simp only [Op.eqItems, Sem.run_bind, Nat.mul_one, run_part_plain w plainInt ha, run_part_plain w plainInt hb, Result.andThen_ok, run_equalIn_int w _ 3 .i64 .i64 _ _ Try.underlying3]
  by_cases h : a = b
  · simp [h]
  · simp [h]
theorem run_eq2 (a0 a1 b0 b1 : Int) (w : World) :
    (Op.equalIn 10000 39 (.agg #[.int .i64 a0, .int .i64 a1]) (.agg #[.int .i64 b0, .int .i64 b1])).run Try.prog w = .ok ([a0, a1] == [b0, b1]) w := by
  obtain ⟨i5, hi, _⟩ := info_parts infoInt
  rw [run_equalIn_array w 9999 _ _ Try.underlying39 hi, cellsInt, show List.range 2 = [0, 1] from rfl]
  rw [itemsI_step w 9998 0 _ _ a0 b0 _ (by simp) (by simp), itemsI_step w 9998 1 _ _ a1 b1 _ (by simp) (by simp)]
  by_cases h0 : a0 = b0 <;> by_cases h1 : a1 = b1 <;> simp [h0, h1, Op.eqItems]
theorem run_same2 (a0 a1 : Int) (w : World) : (Op.equalIn 10000 39 (.agg #[.int .i64 a0, .int .i64 a1]) (.agg #[.int .i64 a0, .int .i64 a1])).run Try.prog w = .ok true w := by
  rw [run_eq2]; simp
end Go.Proofs.Ytmcbldllbnjipaa
