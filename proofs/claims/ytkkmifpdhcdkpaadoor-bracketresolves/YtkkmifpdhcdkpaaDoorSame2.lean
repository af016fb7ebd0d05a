/- Like lists of pairs; the names of the errors. -/
import Derived.Test.YtkkmifpdhcdkpaaDoorEq2
import Derived.Test.YtkkmifpdhcdkpaaDoorPairs
import Derived.Deep.QuietTactic
import Derived.BigQuiet
namespace Go.Proofs.YtkkmifpdhcdkpaaDoor
open Go.RowKit
set_option linter.unusedVariables false
set_option maxHeartbeats 1000000
set_option maxRecDepth 100000
theorem same2_yes (a0 a1 : Option Addr) (n c0 c1 : Nat) (ps : List (Nat × Nat)) (w : World) (h0 : Pairs w a0 n c0 ps) (h1 : Pairs w a1 n c1 ps) :
    Calls Tryd.prog 12 #[.slice a0 n c0, .slice a1 n c1] w fun e w' => e = .returned (.bool true) ∧ ∃ k, w' = w.drewN k := by
  have hx := h0.le
  have hm := h0.max
  unfold maxLen at hm
  have hl := h0.len
  have H0 := hide h0
  have H1 := hide h1
  have HL := hide hl
  have heq := run_same2
  clear h0 h1 hl
  go_enter Tryd.func12, Tryd.ntmps12
  go_wp2
  go_loopw [5] (fun i wr => ∃ k nq : Nat, k ≤ n ∧ i = .int .i64 k ∧ wr = w.drewN nq) (fun i _ => n - (intOf i).toNat)
  case atStart => exact ⟨0, 0, Nat.zero_le _, rfl, rfl⟩
  case round =>
    obtain ⟨k, nq, hk, rfl, rfl⟩ := hrel
    by_cases hlt : k < n
    · obtain ⟨b0, rfl, _, hc0⟩ := H0.out.cells (by omega)
      obtain ⟨b1, rfl, _, hc1⟩ := H1.out.cells (by omega)
      obtain ⟨g0, g1⟩ := hc0 k hlt
      obtain ⟨g2, g3⟩ := hc1 k hlt
      clear hc0 hc1
      generalize (ps.getD k (0, 0)).1 = x at *
      generalize (ps.getD k (0, 0)).2 = y at *
      have hlt' : (k : Int) < (n : Int) := by omega
      go_wp2
      go_quiet (fail)
      go_wp2
      go_roundw
      case rel => exact ⟨k + 1, _, by omega, by go_num, by first | rfl | exact World.drewN_drewN _ _ _⟩
      case measure => simp [intOf]; omega
    · go_wp2
      go_ret
      exact ⟨rfl, _, rfl⟩
end Go.Proofs.YtkkmifpdhcdkpaaDoor
