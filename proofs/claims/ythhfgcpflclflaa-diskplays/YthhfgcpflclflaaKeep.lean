/- What a call keeps; small laws on numbers and lists. -/
import Derived.Test.YthhfgcpflclflaaArgs
namespace Go.Proofs.Ythhfgcpflclflaa
open Go.RowKit
set_option linter.unusedVariables false
theorem w64_small {x : Int} (h1 : -9223372036854775808 ≤ x) (h2 : x ≤ 9223372036854775807) : wrap64 x = x := by unfold wrap64; omega
theorem w64_nat {x : Int} {k : Nat} (h : x = (k : Int)) (hk : k ≤ 9223372036854775807) : wrap64 x = (k : Int) := by rw [h]; exact w64_small (by omega) (by omega)
def KO (w w' : World) : Prop := Below w.heap.size w w'
theorem KO.refl (w : World) : KO w w := Below.refl _ _
theorem KO.drew {w w' : World} (h : KO w w') : KO w w'.drew := Below.drew h
theorem KO.alloc {w w' : World} (h : KO w w') (o : Obj) : KO w (w'.alloc o) := Below.alloc h (Below.size h) o
theorem KO.on {w a b : World} (h : KO w a) (k : Below a.heap.size a b) : KO w b := Below.trans h (k.mono (Below.size h))
theorem take_snoc' {α : Type} (l : List α) (k : Nat) (x : α) (h : l[k]? = some x) : l.take (k + 1) = l.take k ++ [x] := by
  obtain ⟨hk, hx⟩ := List.getElem?_eq_some_iff.1 h
  rw [List.take_succ_eq_append_getElem hk, hx]
theorem prefix_at {α : Type} {pre xs : List α} {x : α} (h : pre ++ [x] <+: xs) : xs[pre.length]? = some x ∧ pre = xs.take pre.length := by
  obtain ⟨t, rfl⟩ := h
  constructor
  · simp
  · simp
theorem prefix_take {α : Type} (xs : List α) (k : Nat) : xs.take k <+: xs := List.take_prefix k xs
end Go.Proofs.Ythhfgcpflclflaa
