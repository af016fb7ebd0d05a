/- Arguments that are arrays of three integers, or structs of any number of one-cell fields: what their readings give. -/
import Derived.Test.YthhfgcpflclflaaArgs
import Derived.Lib.SmallJoins
import Derived.SizedLaws
namespace Go.Proofs.Ythhfgcpflclflaa
open Go.ChangeShapes Go.WideShapes Go.ChangeAt Go.RowKit Go.Deep
set_option linter.unusedVariables false
section
variable {H : Type} {enc : TypeId × Value → H} {P : Program} {w : World} {base : Nat} {spare : Nat → Bool} {held : Bool} {r : Reach} {b0 : Nat} {t : TypeId} {v : Value} {d : DataW H} {p : List MemPlace}
/-- A struct whose fields have one cell each: its cells, and each field's reading. -/
theorem open_fields {fs : Array Field} (hs : P.underlying t = some (.struct fs)) (hone : oneCellFields P fs = true) (hC : P.cellsOf t = fs.size) (hv : Value.okWide P w r b0 t v) (h : DataW.Trod enc P w base spare held t v d p) :
    ∃ (cs : Array Value) (ys : List (DataW H × List MemPlace)) (n : Nat), v = .agg cs ∧ cs.size = fs.size ∧ ys.length = fs.size ∧ d = .agg (ys.map (·.1)) ∧ p = ys.flatMap (·.2) ∧
      ∀ (i : Nat) (f : Field) (c : Value), fs[i]? = some f → cs[i]? = some c → DataW.trod enc P w base spare held n f.type [c] = ys[i]? := by
  obtain ⟨cs, rfl, hsz⟩ := okWide_struct hs hv
  obtain ⟨fuel, hf⟩ := h
  obtain ⟨ys, n, _, hx, _, hl, hall⟩ := DataW.trod_struct hs hf
  simp only [Prod.mk.injEq] at hx
  refine ⟨cs, ys, n, rfl, hsz.trans hC, hl, hx.1, hx.2, fun i f c hi hc => ?_⟩
  obtain ⟨o, k⟩ := hone_of hone i f hi
  have := hall i f hi
  rw [o, k] at this
  rw [← this]
  congr 1
  have hc2 : cs.toList[i]? = some c := by rw [Array.getElem?_toList]; exact hc
  obtain ⟨hlt, e⟩ := List.getElem?_eq_some_iff.1 hc2
  show [c] = (cs.toList.drop i).take 1
  rw [List.drop_eq_getElem_cons hlt, e]
  rfl
theorem five_cells {cs : Array Value} (h : cs.size = 5) : ∃ c0 c1 c2 c3 c4, cs = #[c0, c1, c2, c3, c4] := by
  obtain ⟨l⟩ := cs
  match l, h with
  | [c0, c1, c2, c3, c4], _ => exact ⟨c0, c1, c2, c3, c4, rfl⟩
theorem five_list {α : Type} {ys : List α} (h : ys.length = 5) : ∃ y0 y1 y2 y3 y4, ys = [y0, y1, y2, y3, y4] := by
  match ys, h with
  | [y0, y1, y2, y3, y4], _ => exact ⟨y0, y1, y2, y3, y4, rfl⟩
theorem open_five {f0 f1 f2 f3 f4 : Field} (hs : P.underlying t = some (.struct #[f0, f1, f2, f3, f4])) (hone : oneCellFields P #[f0, f1, f2, f3, f4] = true) (hC : P.cellsOf t = 5) (hv : Value.okWide P w r b0 t v) (h : DataW.Trod enc P w base spare held t v d p) :
    ∃ (c0 c1 c2 c3 c4 : Value) (y0 y1 y2 y3 y4 : DataW H × List MemPlace) (n : Nat), v = .agg #[c0, c1, c2, c3, c4] ∧ d = .agg [y0.1, y1.1, y2.1, y3.1, y4.1] ∧ p = y0.2 ++ (y1.2 ++ (y2.2 ++ (y3.2 ++ y4.2))) ∧
      DataW.trod enc P w base spare held n f0.type [c0] = some y0 ∧ DataW.trod enc P w base spare held n f1.type [c1] = some y1 ∧ DataW.trod enc P w base spare held n f2.type [c2] = some y2 ∧ DataW.trod enc P w base spare held n f3.type [c3] = some y3 ∧ DataW.trod enc P w base spare held n f4.type [c4] = some y4 := by
  obtain ⟨cs, ys, n, rfl, h1, h2, rfl, rfl, hall⟩ := open_fields hs hone hC hv h
  obtain ⟨c0, c1, c2, c3, c4, rfl⟩ := five_cells h1
  obtain ⟨y0, y1, y2, y3, y4, rfl⟩ := five_list h2
  exact ⟨c0, c1, c2, c3, c4, y0, y1, y2, y3, y4, n, rfl, rfl, by simp, hall 0 f0 c0 rfl rfl, hall 1 f1 c1 rfl rfl, hall 2 f2 c2 rfl rfl, hall 3 f3 c3 rfl rfl, hall 4 f4 c4 rfl rfl⟩
/-- An array of three one-cell elements. -/
theorem open_three {e : TypeId} (ht : P.underlying t = some (.array 3 e)) (hce : P.cellsOf e = 1) (hct : P.cellsOf t = 3) (hv : Value.okWide P w r b0 t v) (h : DataW.Trod enc P w base spare held t v d p) :
    ∃ (c0 c1 c2 : Value) (y0 y1 y2 : DataW H × List MemPlace) (n : Nat), v = .agg #[c0, c1, c2] ∧ d = .agg [y0.1, y1.1, y2.1] ∧ p = y0.2 ++ (y1.2 ++ y2.2) ∧
      DataW.trod enc P w base spare held n e [c0] = some y0 ∧ DataW.trod enc P w base spare held n e [c1] = some y1 ∧ DataW.trod enc P w base spare held n e [c2] = some y2 := by
  obtain ⟨cs, rfl, hsz⟩ : ∃ cs, v = .agg cs ∧ cs.size = P.cellsOf t := by
    simp only [Value.okWide, ht] at hv
    obtain ⟨cs, h1, h2, _⟩ := hv
    exact ⟨cs, h1, h2⟩
  obtain ⟨c0, c1, c2, rfl⟩ := Go.Joins.array3 (hsz.trans hct)
  obtain ⟨fuel, hf⟩ := h
  cases fuel with
  | zero => simp [DataW.trod] at hf
  | succ n =>
    simp only [DataW.trod, ht, Value.cells, hct, hce] at hf
    rw [if_pos (by rfl)] at hf
    obtain ⟨xs, hm, hx⟩ := Option.map_eq_some_iff.1 hf
    have hl : xs.length = 3 := by simpa using Lib.mapM_length hm
    obtain ⟨y0, y1, y2, rfl⟩ : ∃ y0 y1 y2, xs = [y0, y1, y2] := by
      match xs, hl with
      | [a, b, c], _ => exact ⟨a, b, c, rfl⟩
    obtain ⟨q0, h0, g0⟩ := Lib.mapM_at hm 0 0 (by simp)
    obtain ⟨q1, h1, g1⟩ := Lib.mapM_at hm 1 1 (by simp)
    obtain ⟨q2, h2, g2⟩ := Lib.mapM_at hm 2 2 (by simp)
    simp at h0 h1 h2
    subst h0 h1 h2
    simp only [Prod.mk.injEq] at hx
    exact ⟨c0, c1, c2, _, _, _, n, rfl, hx.1.symm, by rw [← hx.2]; simp, by simpa using g0, by simpa using g1, by simpa using g2⟩
end
end Go.Proofs.Ythhfgcpflclflaa
