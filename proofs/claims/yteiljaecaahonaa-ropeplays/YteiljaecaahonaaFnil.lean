/- A function value is not nil. -/
import Derived.Test.YteiljaecaahonaaAll
namespace Go.Proofs.Yteiljaecaahonaa
open Go.RowKit
set_option maxRecDepth 100000
theorem fn_eq_nil (f : Nat) (lb : Array Value) (w : World) : (Op.equalIn (9999 + 1) 53 (.func (.func f) #[] lb) .nilFunc).run Try.prog w = .ok false w := by
  unfold Op.equalIn
  simp [go_sem, run_underlying Try.underlying53]
theorem fn_not_nil (f : Nat) (lb : Array Value) (w : World) : (binOp BinOp.eql 53 (.func (.func f) #[] lb) .nilFunc).run Try.prog w = .ok (.bool false) w := by
  have h := fn_eq_nil f lb w
  simp [binOp, go_sem, Op.equal, show Op.maxDepth = 9999 + 1 from rfl, h]
end Go.Proofs.Yteiljaecaahonaa
