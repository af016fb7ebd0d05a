/- The document's behind as one; ahead; Formed. -/
import Derived.Test.YthohbiklnknofaaRd17
import Derived.Test.YthohbiklnknofaaRd15
import Derived.Test.YthohbiklnknofaaRd18
import Derived.Test.YthohbiklnknofaaRd16
import Derived.Test.YthohbiklnknofaaRd21
import Derived.Test.YthohbiklnknofaaRd20
import Derived.Test.YthohbiklnknofaaRd22
namespace Go.Proofs.Ythohbiklnknofaa
open Go.RowKit
set_option linter.unusedVariables false
set_option maxHeartbeats 2000000
set_option maxRecDepth 100000
theorem rbehind_any {w : World} {st : List Ex.Ent} {g n cap : Nat} {oi oe va : Nat} {b : Int} {k : Nat} (h : WA w st g n cap) (hok : Ex.Ok b ⟨st, oi, oe, va⟩ k) (hb0 : 0 ≤ b) (hb1 : b ≤ 1) (hk : k ≤ 1000) (ao : Option Addr) (nc capc : Nat) (c : List Int) (hr : Row .i64 w ao nc capc c) (hnc : nc ≤ 300) (i : Nat) (hi : i < nc) (S : Ex.St) (hS : Ex.step ⟨st, oi, oe, va⟩ (c.getD i 0) (c.drop (i + 1)) = S) :
    Calls Try.prog 45 #[.agg #[.slice (some ⟨g, 0, none⟩) n cap, .int .i64 (oi : Int), .int .i64 (oe : Int), .int .i64 (va : Int)], .slice ao nc capc, .int .i64 (i : Int)] w fun e w' => ∃ g' n' cap', e = .returned (.agg #[.slice (some ⟨g', 0, none⟩) n' cap', .int .i64 (S.oi : Int), .int .i64 (S.oe : Int), .int .i64 (S.va : Int)]) ∧ WA w' S.st g' n' cap' ∧ Below w.heap.size w w' := by
  by_cases h17 : c.getD i 0 = 17
  · have := rbeh_17 h hok hb0 hb1 hk ao nc capc c hr hnc i hi h17
    rw [h17] at hS; subst hS; exact this
  by_cases h15 : c.getD i 0 = 15
  · have := rbeh_15 h hok hb0 hb1 hk ao nc capc c hr hnc i hi h15
    rw [h15] at hS; subst hS; exact this
  by_cases h18 : c.getD i 0 = 18
  · have := rbeh_18 h hok hb0 hb1 hk ao nc capc c hr hnc i hi h18
    rw [h18] at hS; subst hS; exact this
  by_cases h16 : c.getD i 0 = 16
  · have := rbeh_16 h hok hb0 hb1 hk ao nc capc c hr hnc i hi h16
    rw [h16] at hS; subst hS; exact this
  by_cases h19 : c.getD i 0 = 19
  · have := rbeh_pdf h hok hb0 hb1 hk ao nc capc c hr hnc i hi h19
    rw [h19] at hS; subst hS; exact this
  by_cases h23 : c.getD i 0 = 23
  · have := rbeh_pdi h hok hb0 hb1 hk ao nc capc c hr hnc i hi h23
    rw [h23] at hS; subst hS; exact this
  by_cases h21 : c.getD i 0 = 21
  · have := rbeh_21 h hok hb0 hb1 hk ao nc capc c hr hnc i hi h21
    rw [h21] at hS; subst hS; exact this
  by_cases h20 : c.getD i 0 = 20
  · have := rbeh_20 h hok hb0 hb1 hk ao nc capc c hr hnc i hi h20
    rw [h20] at hS; subst hS; exact this
  by_cases h22 : c.getD i 0 = 22
  · have := rbeh_22 h hok hb0 hb1 hk ao nc capc c hr hnc i hi h22
    rw [h22] at hS; subst hS; exact this
  have := rbeh_other h hok hb0 hb1 hk ao nc capc c hr hnc i hi (c.getD i 0) rfl ⟨h17, h15, h18, h16, h19, h23, h20, h21, h22⟩
  rw [step_other ⟨h17, h15, h18, h16, h19, h23⟩ ⟨h20, h21, h22⟩] at hS
  subst hS
  exact this
end Go.Proofs.Ythohbiklnknofaa
