/- Lists of calls (structs of three numbers and a list of numbers): what a walk is told of one, and how an argument's reading gives it. -/
import Derived.Test.YteiljaecaahonaaArgs
import Derived.Test.YteiljaecaahonaaRows
import Derived.Deep.Slices
import Derived.Lib.SmallJoins
namespace Go.Proofs.Yteiljaecaahonaa
open Go.ChangeShapes Go.WideShapes Go.ChangeAt Go.RowKit Go.Deep
set_option linter.unusedVariables false
/-- A call lies at a place. -/
structure ActAt (w : World) (b off : Nat) (kd fr tu : Int) (ta : Option Addr) (tn tc : Nat) (zs : List Int) : Prop where
  c0 : w.cell? ⟨b, off, none⟩ = some (.int .i64 kd)
  c1 : w.cell? ⟨b, off + 1, none⟩ = some (.int .i64 fr)
  c2 : w.cell? ⟨b, off + 2, none⟩ = some (.int .i64 tu)
  c3 : w.cell? ⟨b, off + 3, none⟩ = some (.slice ta tn tc)
  f0 : (Lit.int .i64 kd).wf = true
  f1 : (Lit.int .i64 fr).wf = true
  f2 : (Lit.int .i64 tu).wf = true
  row : Row .i32 w ta tn tc zs
  wf : ∀ z ∈ zs, (Lit.int .i32 z).wf = true
/-- A slice of calls. -/
structure Acts (w : World) (ao : Option Addr) (n cap : Nat) : Prop where
  le : n ≤ cap
  max : cap ≤ maxLen
  cells : 0 < n → ∃ b off, ao = some ⟨b, off, none⟩ ∧ b < w.heap.size ∧ ∀ i, i < n → ∃ kd fr tu ta tn tc zs, ActAt w b (off + i * 4) kd fr tu ta tn tc zs
theorem ActAt.below {w w' : World} {b off : Nat} {kd fr tu : Int} {ta : Option Addr} {tn tc : Nat} {zs : List Int} (h : ActAt w b off kd fr tu ta tn tc zs) (hb : Below w.heap.size w w') (hl : b < w.heap.size) : ActAt w' b off kd fr tu ta tn tc zs :=
  ⟨(hb.cell (by exact hl)).trans h.c0, (hb.cell (by exact hl)).trans h.c1, (hb.cell (by exact hl)).trans h.c2, (hb.cell (by exact hl)).trans h.c3, h.f0, h.f1, h.f2, h.row.below hb, h.wf⟩
theorem actCells : Try.prog.cellsOf 30 = 4 := by kernel_rfl
theorem actOne : Try.prog.cellsOf 3 = 1 ∧ Try.prog.cellsOf 22 = 1 ∧ Try.prog.cellsOf 21 = 1 := ⟨by kernel_rfl, by kernel_rfl, by kernel_rfl⟩
theorem list4 {α : Type} {l : List α} (h : l.length = 4) : ∃ a b c d, l = [a, b, c, d] := by
  match l, h with
  | [a, b, c, d], _ => exact ⟨a, b, c, d, rfl⟩
theorem open_act {H : Type} {enc : TypeId × Value → H} {W : World} {fuel : Nat} {cs : List Value} {x : DataW H × List MemPlace} (hl : cs.length = 4)
    (h : DataW.trod enc Try.prog W 0 (fun _ => true) true fuel 30 cs = some x) :
    ∃ kd fr tu ta tn tc zs, cs = [.int .i64 kd, .int .i64 fr, .int .i64 tu, .slice ta tn tc] ∧ (Lit.int .i64 kd).wf = true ∧ (Lit.int .i64 fr).wf = true ∧ (Lit.int .i64 tu).wf = true ∧ Row .i32 W ta tn tc zs ∧ ∀ z ∈ zs, (Lit.int .i32 z).wf = true := by
  obtain ⟨v0, v1, v2, v3, rfl⟩ := list4 hl
  obtain ⟨y0, y1, y2, y3, n, _, _, h0, h1, h2, h3⟩ := Go.Joins.trod_struct4 Try.underlying30 h
  simp only [actOne.1, actOne.2.1, List.drop_zero, List.drop_succ_cons, List.take_succ_cons, List.take_zero] at h0 h1 h2 h3
  obtain ⟨kd, e0, _, w0⟩ := DataW.trod_int Try.underlying3 h0
  obtain ⟨fr, e1, _, w1⟩ := DataW.trod_int Try.underlying3 h1
  obtain ⟨tu, e2, _, w2⟩ := DataW.trod_int Try.underlying3 h2
  obtain ⟨ta, tn, tc, e3⟩ := Go.Joins.slice_form Try.underlying22 h3
  simp only [List.cons.injEq, and_true] at e0 e1 e2 e3
  subst e0 e1 e2 e3
  obtain ⟨zs, hr, hw, _⟩ := open_row (enc := enc) (P := Try.prog) (d := y3.1) (p := y3.2) Try.underlying22 Try.underlying21 actOne.2.2 ⟨n, by simpa [Value.cells] using h3⟩
  exact ⟨kd, fr, tu, ta, tn, tc, zs, rfl, w0, w1, w2, hr, hw⟩
/-- AN ARGUMENT THAT IS A LIST OF CALLS. -/
theorem open_acts {H : Type} {enc : TypeId × Value → H} {W : World} {a : Option Addr} {len cap : Nat} {d : DataW H} {p : List MemPlace}
    (h : DataW.Trod enc Try.prog W 0 (fun _ => true) true 23 (.slice a len cap) d p) : Acts W a len cap := by
  obtain ⟨fuel, hf⟩ := h
  rcases open_slice Try.underlying23 hf with ⟨hcs, _⟩ | ⟨x, l, c, m, n, D, Pl, hcs, _, hl, hm, hmm, _, hx⟩
  · simp [Value.cells] at hcs
    obtain ⟨rfl, rfl, rfl⟩ := hcs
    exact ⟨Nat.le_refl _, Nat.zero_le _, fun h => by omega⟩
  · simp [Value.cells] at hcs
    obtain ⟨rfl, rfl, rfl⟩ := hcs
    simp only [if_true] at hmm
    subst hmm
    refine ⟨hl, hm, fun h0 => ?_⟩
    have key : ∀ i, i < len → ∃ kd fr tu ta tn tc zs, (∀ j, j < 4 → W.cell? (x.add (i * 4 + j)) = [Value.int .i64 kd, .int .i64 fr, .int .i64 tu, .slice ta tn tc][j]?) ∧ (Lit.int .i64 kd).wf = true ∧ (Lit.int .i64 fr).wf = true ∧ (Lit.int .i64 tu).wf = true ∧ Row .i32 W ta tn tc zs ∧ ∀ z ∈ zs, (Lit.int .i32 z).wf = true := by
      intro i hi
      obtain ⟨cs', h1, h2⟩ := hx i (by omega)
      rw [actCells] at h1
      obtain ⟨_, hlen, hcell⟩ := World.cells?_some h1
      obtain ⟨kd, fr, tu, ta, tn, tc, zs, rfl, w0, w1, w2, hr, hw⟩ := open_act hlen h2
      exact ⟨kd, fr, tu, ta, tn, tc, zs, fun j hj => by have := hcell j hj; rw [add_add] at this; exact this, w0, w1, w2, hr, hw⟩
    obtain ⟨b, off, spot⟩ := x
    obtain ⟨kd, fr, tu, ta, tn, tc, zs, hc, _⟩ := key 0 h0
    have hc0 := hc 0 (by omega)
    have hspot : spot = none := by simpa [Addr.add] using World.cell?_spot hc0
    subst hspot
    have hb : b < W.heap.size := by simpa [Addr.add] using World.block_lt_of_cell? W _ hc0
    refine ⟨b, off, rfl, hb, fun i hi => ?_⟩
    obtain ⟨kd, fr, tu, ta, tn, tc, zs, hc, w0, w1, w2, hr, hw⟩ := key i hi
    have hadd : ∀ j, (⟨b, off, none⟩ : Addr).add j = ⟨b, off + j, none⟩ := fun j => by unfold Addr.add; split <;> simp_all
    have g0 := hc 0 (by omega)
    have g1 := hc 1 (by omega)
    have g2 := hc 2 (by omega)
    have g3 := hc 3 (by omega)
    rw [hadd] at g0 g1 g2 g3
    exact ⟨kd, fr, tu, ta, tn, tc, zs, ⟨by simpa using g0, by rw [Nat.add_assoc]; simpa using g1, by rw [Nat.add_assoc]; simpa using g2, by rw [Nat.add_assoc]; simpa using g3, w0, w1, w2, hr, hw⟩⟩
end Go.Proofs.Yteiljaecaahonaa
