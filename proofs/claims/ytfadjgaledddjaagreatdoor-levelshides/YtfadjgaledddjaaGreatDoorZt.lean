import Derived.Test.YtfadjgaledddjaaGreatDoorZa
import Derived.Lib.SmallJoins
import Derived.SizedLaws
/- An argument that is a struct of three lists of numbers: what its reading gives. -/
namespace Go.Proofs.YtfadjgaledddjaaGreatDoor
open Go.ChangeShapes Go.WideShapes Go.ChangeAt Go.RowKit
set_option linter.unusedVariables false
/-- One of its lists. -/
theorem open_row1 {H : Type} {enc : TypeId × Value → H} {P : Program} {W : World} {t e : TypeId} {k : IntKind} {c : Value} {y : DataW H × List MemPlace} {fuel : Nat}
    (ht : P.underlying t = some (.slice e)) (he : P.underlying e = some (.int k)) (hc : P.cellsOf e = 1) (h : DataW.trod enc P W 0 (fun _ => true) true fuel t [c] = some y) :
    ∃ (a : Option Addr) (len cap : Nat) (zs : List Int), c = .slice a len cap ∧ Row k W a len cap zs ∧ (∀ n ∈ zs, (Lit.int k n).wf = true) ∧ ((y.1 = .nil ∧ cap = 0) ∨ ∃ elems spare, y.1 = .slice elems spare ∧ elems.length + spare.length = cap) := by
  rcases open_ints ht he hc h with ⟨hcs, hx⟩ | ⟨x, l, cc, zs, hcs, _, hl, hm, hz, hx, hcell, hwz⟩
  · simp only [List.cons.injEq, and_true] at hcs
    subst hcs
    subst hx
    exact ⟨none, 0, 0, [], rfl, ⟨rfl, Nat.le_refl _, Nat.zero_le _, fun h0 => by omega, fun _ => rfl⟩, by simp, .inl ⟨rfl, rfl⟩⟩
  · simp only [List.cons.injEq, and_true] at hcs
    subst hcs
    subst hx
    simp only [if_true] at hz
    refine ⟨some x, l, cc, zs.take l, rfl, row_of_cells hl hm hz hcell, fun n hn => hwz n (List.mem_of_mem_take hn), .inr ⟨_, _, rfl, ?_⟩⟩
    simp [lits]; omega
/-- How long it is. -/
theorem sized_row1 {H : Type} {P : Program} {ts : List TypeId} {ds : List (DataW H)} (h : (DataW.weightsEach P ts ds).all (· ≤ reachBytes) = true) {j : Nat} {t e : TypeId} {d : DataW H} {len cap bytes : Nat} (ht : ts[j]? = some t) (hd : ds[j]? = some d) (hu : P.underlying t = some (.slice e)) (hb : P.bytesOf e = bytes) (hle : len ≤ cap)
    (hdd : (d = .nil ∧ cap = 0) ∨ ∃ elems spare, d = .slice elems spare ∧ elems.length + spare.length = cap) : len * bytes ≤ 140737488351232 := by
  rcases hdd with ⟨_, h0⟩ | ⟨elems, spare, rfl, hcap⟩
  · have : len = 0 := by omega
    rw [this]; omega
  · have hx := sized_slice h ht hd hu
    rw [hb, hcap] at hx
    have : len * bytes ≤ cap * bytes := Nat.mul_le_mul_right _ hle
    simp only [reachBytes] at hx
    omega
/-- The parts' weights are among the whole's. -/
theorem sized_parts {H : Type} {P : Program} {t : TypeId} {ts : List TypeId} {fs : Array Field} {parts : List (DataW H)} {r : List (DataW H)} (hs : P.underlying t = some (.struct fs)) (h : (DataW.weightsEach P (t :: ts) (.agg parts :: r)).all (· ≤ reachBytes) = true) :
    (DataW.weightsEach P (fs.toList.map (·.type)) parts).all (· ≤ reachBytes) = true := by
  simp only [DataW.weightsEach, DataW.weights, hs, List.all_append, Bool.and_eq_true] at h
  exact h.1
end Go.Proofs.YtfadjgaledddjaaGreatDoor

/- An argument that is an array of two slices of numbers: what its reading gives. -/
namespace Go.Proofs.YtfadjgaledddjaaGreatDoor
open Go.ChangeShapes Go.WideShapes Go.ChangeAt Go.RowKit
set_option linter.unusedVariables false
theorem open_two {H : Type} {enc : TypeId × Value → H} {P : Program} {w : World} {base : Nat} {spare : Nat → Bool} {held : Bool} {r : Reach} {b0 : Nat} {t e : TypeId} {v : Value} {d : DataW H} {p : List MemPlace} (ht : P.underlying t = some (.array 2 e)) (hce : P.cellsOf e = 1) (hct : P.cellsOf t = 2)
    (hv : Value.okWide P w r b0 t v) (h : DataW.Trod enc P w base spare held t v d p) :
    ∃ (v0 v1 : Value) (y0 y1 : DataW H × List MemPlace) (n : Nat), v = .agg #[v0, v1] ∧ d = .agg [y0.1, y1.1] ∧ p = y0.2 ++ y1.2 ∧ DataW.trod enc P w base spare held n e [v0] = some y0 ∧ DataW.trod enc P w base spare held n e [v1] = some y1 := by
  obtain ⟨cs, rfl, hsz⟩ : ∃ cs, v = .agg cs ∧ cs.size = P.cellsOf t := by
    simp only [Value.okWide, ht] at hv
    obtain ⟨cs, h1, h2, _⟩ := hv
    exact ⟨cs, h1, h2⟩
  obtain ⟨c0, c1, rfl⟩ := Go.Joins.array2 (hsz.trans hct)
  obtain ⟨fuel, hf⟩ := h
  cases fuel with
  | zero => simp [DataW.trod] at hf
  | succ n =>
    simp only [DataW.trod, ht, Value.cells, hct, hce] at hf
    rw [if_pos (by rfl)] at hf
    obtain ⟨xs, hm, hx⟩ := Option.map_eq_some_iff.1 hf
    have hl : xs.length = 2 := by simpa using Lib.mapM_length hm
    obtain ⟨y0, y1, rfl⟩ : ∃ y0 y1, xs = [y0, y1] := by
      match xs, hl with
      | [a, b], _ => exact ⟨a, b, rfl⟩
    obtain ⟨q0, h0, g0⟩ := Lib.mapM_at hm 0 0 (by simp)
    obtain ⟨q1, h1, g1⟩ := Lib.mapM_at hm 1 1 (by simp)
    simp at h0 h1
    subst h0 h1
    simp only [Prod.mk.injEq] at hx
    refine ⟨c0, c1, _, _, n, rfl, hx.1.symm, by rw [← hx.2]; simp, by simpa using g0, by simpa using g1⟩
/-- The parts' weights are among the whole's. -/
theorem sized_two {H : Type} {P : Program} {t e : TypeId} {ts : List TypeId} {n : Nat} {d0 d1 : DataW H} {r : List (DataW H)} (hs : P.underlying t = some (.array n e)) (h : (DataW.weightsEach P (t :: ts) (.agg [d0, d1] :: r)).all (· ≤ reachBytes) = true) :
    (DataW.weightsEach P [e, e] [d0, d1]).all (· ≤ reachBytes) = true := by
  simp only [DataW.weightsEach, DataW.weights, hs, List.all_append, Bool.and_eq_true, DataW.weightsAll, List.all_nil, and_true] at h ⊢
  exact h.1
theorem sized_tail {H : Type} {P : Program} {t : TypeId} {ts : List TypeId} {d : DataW H} {r : List (DataW H)} (h : (DataW.weightsEach P (t :: ts) (d :: r)).all (· ≤ reachBytes) = true) : (DataW.weightsEach P ts r).all (· ≤ reachBytes) = true := by
  simp only [DataW.weightsEach, List.all_append, Bool.and_eq_true] at h
  exact h.2
end Go.Proofs.YtfadjgaledddjaaGreatDoor
