/- An argument that is a struct of three lists of numbers: what its reading gives. -/
import Derived.Test.YthhfgcpflclflaaArgs
import Derived.Lib.SmallJoins
import Derived.SizedLaws
namespace Go.Proofs.Ythhfgcpflclflaa
open Go.ChangeShapes Go.WideShapes Go.ChangeAt Go.RowKit
set_option linter.unusedVariables false
/-- One of its lists. -/
theorem open_row1 {H : Type} {enc : TypeId × Value → H} {P : Program} {W : World} {t e : TypeId} {k : IntKind} {c : Value} {y : DataW H × List MemPlace} {fuel : Nat}
    (ht : P.underlying t = some (.slice e)) (he : P.underlying e = some (.int k)) (hc : P.cellsOf e = 1) (h : DataW.trod enc P W 0 (fun _ => true) true fuel t [c] = some y) :
    ∃ (a : Option Addr) (len cap : Nat) (zs : List Int), c = .slice a len cap ∧ Row k W a len cap zs ∧ (∀ n ∈ zs, (Lit.int k n).wf = true) ∧ ((y.1 = .nil ∧ cap = 0) ∨ ∃ elems spare, y.1 = .slice elems spare ∧ elems.length + spare.length = cap) := by
  rcases open_ints ht he hc h with ⟨hcs, hx⟩ | ⟨x, l, cc, zs, hcs, _, hl, hm, hz, hx, hcell, hwz⟩
  · simp only [List.cons.injEq, and_true] at hcs
    subst hcs
    subst hx
    exact ⟨none, 0, 0, [], rfl, ⟨rfl, Nat.le_refl _, Nat.zero_le _, fun h0 => by omega, fun _ => rfl⟩, by simp, .inl ⟨rfl, rfl⟩⟩
  · simp only [List.cons.injEq, and_true] at hcs
    subst hcs
    subst hx
    simp only [if_true] at hz
    refine ⟨some x, l, cc, zs.take l, rfl, row_of_cells hl hm hz hcell, fun n hn => hwz n (List.mem_of_mem_take hn), .inr ⟨_, _, rfl, ?_⟩⟩
    simp [lits]; omega
/-- How long it is. -/
theorem sized_row1 {H : Type} {P : Program} {ts : List TypeId} {ds : List (DataW H)} (h : (DataW.weightsEach P ts ds).all (· ≤ reachBytes) = true) {j : Nat} {t e : TypeId} {d : DataW H} {len cap bytes : Nat} (ht : ts[j]? = some t) (hd : ds[j]? = some d) (hu : P.underlying t = some (.slice e)) (hb : P.bytesOf e = bytes) (hle : len ≤ cap)
    (hdd : (d = .nil ∧ cap = 0) ∨ ∃ elems spare, d = .slice elems spare ∧ elems.length + spare.length = cap) : len * bytes ≤ 140737488351232 := by
  rcases hdd with ⟨_, h0⟩ | ⟨elems, spare, rfl, hcap⟩
  · have : len = 0 := by omega
    rw [this]; omega
  · have hx := sized_slice h ht hd hu
    rw [hb, hcap] at hx
    have : len * bytes ≤ cap * bytes := Nat.mul_le_mul_right _ hle
    simp only [reachBytes] at hx
    omega
/-- The parts' weights are among the whole's. -/
theorem sized_parts {H : Type} {P : Program} {t : TypeId} {ts : List TypeId} {fs : Array Field} {parts : List (DataW H)} {r : List (DataW H)} (hs : P.underlying t = some (.struct fs)) (h : (DataW.weightsEach P (t :: ts) (.agg parts :: r)).all (· ≤ reachBytes) = true) :
    (DataW.weightsEach P (fs.toList.map (·.type)) parts).all (· ≤ reachBytes) = true := by
  simp only [DataW.weightsEach, DataW.weights, hs, List.all_append, Bool.and_eq_true] at h
  exact h.1
end Go.Proofs.Ythhfgcpflclflaa
