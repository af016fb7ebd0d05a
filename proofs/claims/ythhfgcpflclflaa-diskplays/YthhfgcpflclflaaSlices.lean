/- Pieces of slices: what they are, and that they are rows. -/
import Derived.Test.YthhfgcpflclflaaArgs
import Derived.WalkKit
namespace Go.Proofs.Ythhfgcpflclflaa
open Go.RowKit
set_option linter.unusedVariables false
/-- Where a piece begins. -/
def tl (ao : Option Addr) (cap j : Nat) : Option Addr := if cap = j then ao else ao.map (·.add j)
theorem Row.drop {k : IntKind} {w : World} {ao : Option Addr} {n cap : Nat} {xs : List Int} (h : Row k w ao n cap xs) {j : Nat} (hj : j ≤ n) : Row k w (tl ao cap j) (n - j) (cap - j) (xs.drop j) := by
  have hle := h.le
  refine ⟨by rw [List.length_drop, h.len], by omega, by have := h.max; omega, fun h0 => ?_, fun hn => ?_⟩
  · obtain ⟨b, off, rfl, hb, hc⟩ := h.cells (by omega)
    refine ⟨b, off + j, ?_, hb, hc.drop j⟩
    unfold tl
    rw [if_neg (by omega)]
    simp only [Option.map_some, Option.some.injEq]
    unfold Addr.add
    split <;> simp_all
  · have : ao = none := by
      unfold tl at hn
      split at hn
      · exact hn
      · simpa using hn
    have := h.nil this
    omega
theorem run_from {P : Program} {t e : TypeId} {i : TypeInfo} (ht : P.underlying t = some (.slice e)) (hi : P.info? e = some i) (hc : P.cellsOf e = 1) (ao : Option Addr) (n cap j : Nat) (hj : j ≤ n) (w : World) :
    (Instr.slice t (.slice ao n cap) (some (.int .i64 (j : Int))) none none).run P w = .ok (.slice (tl ao cap j) (n - j) (cap - j)) w := by
  have e1 : (0 : Int) ≤ (j : Int) ∧ (j : Int) ≤ (n : Int) := by omega
  simp [Instr.slice, run_underlying ht, Instr.sliceBounds, go_sem, e1, run_sizeOf w hi, hc, tl]
theorem run_upto {P : Program} {t e : TypeId} {i : TypeInfo} (ht : P.underlying t = some (.slice e)) (hi : P.info? e = some i) (hc : P.cellsOf e = 1) (ao : Option Addr) (n cap j : Nat) (hj : j ≤ cap) (w : World) :
    (Instr.slice t (.slice ao n cap) none (some (.int .i64 (j : Int))) none).run P w = .ok (.slice ao j cap) w := by
  have e1 : (0 : Int) ≤ (j : Int) ∧ (j : Int) ≤ (cap : Int) := by omega
  simp [Instr.slice, run_underlying ht, Instr.sliceBounds, go_sem, e1, run_sizeOf w hi, hc]
end Go.Proofs.Ythhfgcpflclflaa
