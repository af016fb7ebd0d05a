/- Slices of pairs of whole numbers, wherever they lie: an argument's reading; a copy; what a call owns. -/
import Derived.Test.YtmcbldllbnjipaaArgs
import Derived.Test.YtmcbldllbnjipaaKeep
import Derived.Test.YtmcbldllbnjipaaPairs
import Derived.Laws.AppendOwnNone
import Derived.Deep.Slices
import Derived.Lib.SmallJoins
namespace Go.Proofs.Ytmcbldllbnjipaa
open Go.ChangeShapes Go.WideShapes Go.ChangeAt Go.RowKit Go.Deep
set_option linter.unusedVariables false
set_option maxRecDepth 100000
/-- The cells of pairs. -/
def flz (Z : List (Int × Int)) : List Value := Z.flatMap fun x => [.int .i64 x.1, .int .i64 x.2]
theorem flz_len (Z : List (Int × Int)) : (flz Z).length = Z.length * 2 := by
  induction Z with
  | nil => rfl
  | cons x Z ih => rw [flz, List.flatMap_cons, List.length_append, ← flz, ih]; simp; omega
theorem flz_snoc (Z : List (Int × Int)) (x : Int × Int) : flz (Z ++ [x]) = flz Z ++ [.int .i64 x.1, .int .i64 x.2] := by
  rw [flz, List.flatMap_append]; simp [flz]
theorem flz_at (Z : List (Int × Int)) (k : Nat) (h : k < Z.length) : (flz Z)[k * 2]? = some (.int .i64 (Z.getD k (0, 0)).1) ∧ (flz Z)[k * 2 + 1]? = some (.int .i64 (Z.getD k (0, 0)).2) := by
  induction Z generalizing k with
  | nil => simp at h
  | cons x Z ih =>
    rw [flz, List.flatMap_cons, ← flz]
    cases k with
    | zero => simp
    | succ k =>
      have := ih k (by simpa using h)
      rw [show (k + 1) * 2 = k * 2 + 2 from by omega]
      rw [List.getElem?_append_right (by simp), List.getElem?_append_right (by simp)]
      simpa using this
/-- Pairs of places, as pairs of whole numbers. -/
def zi (ps : List (Nat × Nat)) : List (Int × Int) := ps.map fun x => ((x.1 : Int), (x.2 : Int))
theorem zi_len (ps : List (Nat × Nat)) : (zi ps).length = ps.length := by simp [zi]
theorem zi_at (ps : List (Nat × Nat)) (k : Nat) : (zi ps).getD k (0, 0) = (((ps.getD k (0, 0)).1 : Int), ((ps.getD k (0, 0)).2 : Int)) := by
  unfold zi
  simp only [List.getD, List.getElem?_map]
  cases ps[k]? <;> rfl
/-- A slice that holds these pairs. -/
structure PI (w : World) (ao : Option Addr) (n cap : Nat) (Z : List (Int × Int)) : Prop where
  len : Z.length = n
  le : n ≤ cap
  max : cap ≤ maxLen
  cells : 0 < n → ∃ b off, ao = some ⟨b, off, none⟩ ∧ b < w.heap.size ∧ ∀ k, k < n → w.cell? ⟨b, off + k * 2, none⟩ = some (.int .i64 (Z.getD k (0, 0)).1) ∧ w.cell? ⟨b, off + k * 2 + 1, none⟩ = some (.int .i64 (Z.getD k (0, 0)).2)
  nil : ao = none → cap = 0
theorem PI.below {w w' : World} {ao : Option Addr} {n cap : Nat} {Z : List (Int × Int)} (h : PI w ao n cap Z) (hb : KO w w') : PI w' ao n cap Z :=
  ⟨h.len, h.le, h.max, fun h0 => by
    obtain ⟨b, off, e1, e2, e3⟩ := h.cells h0
    exact ⟨b, off, e1, Nat.lt_of_lt_of_le e2 (Below.size hb), fun k hk => ⟨(Below.cell hb (by exact e2)).trans (e3 k hk).1, (Below.cell hb (by exact e2)).trans (e3 k hk).2⟩⟩, h.nil⟩
theorem pi_nil (w : World) : PI w none 0 0 [] := ⟨rfl, Nat.le_refl _, Nat.zero_le _, fun h => by omega, fun _ => rfl⟩
theorem pi_of_owns {w : World} {base e n : Nat} {v : Value} {Z : List (Int × Int)} (h : w.ownsRow base e 2 v n (flz Z)) : ∃ ao cap, v = .slice ao n cap ∧ PI w ao n cap Z := by
  have hl : Z.length = n := by have := h.1; rw [flz_len] at this; omega
  rcases h.2 with ⟨rfl, rfl⟩ | ⟨g, cap, cur, rfl, hb, hg, hn, hc, hs, ht⟩
  · exact ⟨none, 0, rfl, hl, Nat.le_refl _, Nat.zero_le _, fun h0 => by omega, fun _ => rfl⟩
  · refine ⟨_, cap, rfl, hl, hn, hc, fun h0 => ⟨g, 0, rfl, (Array.getElem?_eq_some_iff.1 hg).1, fun k hk => ?_⟩, fun h => by cases h⟩
    have := flz_at Z k (by omega)
    rw [Nat.zero_add]
    exact ⟨(h.cellAt (k * 2) (by omega)).trans this.1, (h.cellAt (k * 2 + 1) (by omega)).trans this.2⟩
theorem pi_of_pairs {w : World} {ao : Option Addr} {n cap : Nat} {ps : List (Nat × Nat)} (h : Pairs w ao n cap ps) : PI w ao n cap (zi ps) :=
  ⟨by rw [zi_len]; exact h.len, h.le, h.max, fun h0 => by
    obtain ⟨b, e1, e2, e3⟩ := h.cells h0
    refine ⟨b, 0, e1, e2, fun k hk => ?_⟩
    rw [zi_at, Nat.zero_add]
    exact e3 k hk, h.nil⟩
/-- The cells of a slice, as an append reads them. -/
theorem PI.news {w : World} {b off n cap : Nat} {o : Option Nat} {Z : List (Int × Int)} (h : PI w (some ⟨b, off, o⟩) n cap Z) : ∀ j u, (flz Z)[j]? = some u → w.cell? ((⟨b, off, o⟩ : Addr).add j) = some u := by
  intro j u hj
  have hl := h.len
  have hjl : j < n * 2 := by
    have := (List.getElem?_eq_some_iff.1 hj).1
    rw [flz_len] at this
    omega
  obtain ⟨b', off', e1, _, e3⟩ := h.cells (by omega)
  simp only [Option.some.injEq, Addr.mk.injEq] at e1
  obtain ⟨rfl, rfl, rfl⟩ := e1
  have hadd : (⟨b, off, none⟩ : Addr).add j = ⟨b, off + j, none⟩ := by unfold Addr.add; split <;> simp_all
  rw [hadd]
  have hat := flz_at Z (j / 2) (by omega)
  have hc := e3 (j / 2) (by omega)
  rcases Nat.mod_two_eq_zero_or_one j with h0 | h0
  · rw [show j = j / 2 * 2 from by omega] at hj ⊢
    rw [hat.1, Option.some.injEq] at hj
    rw [hc.1, hj]
  · rw [show j = j / 2 * 2 + 1 from by omega] at hj ⊢
    rw [hat.2, Option.some.injEq] at hj
    rw [← Nat.add_assoc, hc.2, hj]
theorem flz_one (Z : List (Int × Int)) : ∀ u ∈ flz Z, u.oneCell' = true := by
  intro u hu
  unfold flz at hu
  obtain ⟨x, _, hx⟩ := List.mem_flatMap.1 hu
  simp only [List.mem_cons, List.not_mem_nil, or_false] at hx
  rcases hx with rfl | rfl <;> rfl
/-- AN ARGUMENT THAT IS A LIST OF PAIRS. -/
theorem pairCells : Try.prog.cellsOf 39 = 2 := by kernel_rfl
theorem intCells1 : Try.prog.cellsOf 3 = 1 := by kernel_rfl
theorem pair_parts {H : Type} {enc : TypeId × Value → H} {W : World} {fuel : Nat} {cs : List Value} {x : DataW H × List MemPlace} (hl : cs.length = 2)
    (h : DataW.trod enc Try.prog W 0 (fun _ => true) true fuel 39 cs = some x) : ∃ p q : Int, cs = [.int .i64 p, .int .i64 q] ∧ (Lit.int .i64 p).wf = true ∧ (Lit.int .i64 q).wf = true := by
  obtain ⟨c0, c1, rfl⟩ : ∃ c0 c1, cs = [c0, c1] := by
    match cs, hl with
    | [a, b], _ => exact ⟨a, b, rfl⟩
  cases fuel with
  | zero => simp [DataW.trod] at h
  | succ n =>
    simp only [DataW.trod, Try.underlying39, pairCells, intCells1] at h
    rw [if_pos (by rfl)] at h
    obtain ⟨xs, hm, hx⟩ := Option.map_eq_some_iff.1 h
    have hl : xs.length = 2 := by simpa using Lib.mapM_length hm
    obtain ⟨y0, y1, rfl⟩ : ∃ y0 y1, xs = [y0, y1] := by
      match xs, hl with
      | [a, b], _ => exact ⟨a, b, rfl⟩
    obtain ⟨q0, h0, g0⟩ := Lib.mapM_at hm 0 0 (by simp)
    obtain ⟨q1, h1, g1⟩ := Lib.mapM_at hm 1 1 (by simp)
    simp at h0 h1
    subst h0 h1
    obtain ⟨p, e0, _, w0⟩ := DataW.trod_int Try.underlying3 (by simpa using g0)
    obtain ⟨q, e1, _, w1⟩ := DataW.trod_int Try.underlying3 (by simpa using g1)
    simp only [List.cons.injEq, and_true] at e0 e1
    exact ⟨p, q, by rw [e0, e1], w0, w1⟩
theorem open_pairs {H : Type} {enc : TypeId × Value → H} {W : World} {a : Option Addr} {len cap : Nat} {d : DataW H} {p : List MemPlace}
    (h : DataW.Trod enc Try.prog W 0 (fun _ => true) true 24 (.slice a len cap) d p) : ∃ Z, PI W a len cap Z ∧ ∀ k, (Lit.int .i64 (Z.getD k (0, 0)).1).wf = true ∧ (Lit.int .i64 (Z.getD k (0, 0)).2).wf = true := by
  obtain ⟨fuel, hf⟩ := h
  rcases open_slice Try.underlying24 hf with ⟨hcs, _⟩ | ⟨x, l, c, m, n, D, Pl, hcs, _, hl, hm, hmm, _, hx⟩
  · simp [Value.cells] at hcs
    obtain ⟨rfl, rfl, rfl⟩ := hcs
    exact ⟨[], pi_nil _, fun k => by simp [List.getD]; decide⟩
  · simp [Value.cells] at hcs
    obtain ⟨rfl, rfl, rfl⟩ := hcs
    simp only [if_true] at hmm
    subst hmm
    have key : ∀ i, i < len → ∃ p q : Int, (∀ j, j < 2 → W.cell? (x.add (i * 2 + j)) = [Value.int .i64 p, .int .i64 q][j]?) ∧ (Lit.int .i64 p).wf = true ∧ (Lit.int .i64 q).wf = true := by
      intro i hi
      obtain ⟨cs', h1, h2⟩ := hx i (by omega)
      rw [pairCells] at h1
      obtain ⟨_, hlen, hcell⟩ := World.cells?_some h1
      obtain ⟨p, q, rfl, w0, w1⟩ := pair_parts hlen h2
      exact ⟨p, q, fun j hj => by have := hcell j hj; rw [add_add] at this; exact this, w0, w1⟩
    obtain ⟨b, off, spot⟩ := x
    rcases Nat.eq_zero_or_pos len with h0 | h0
    · subst h0
      exact ⟨[], ⟨rfl, hl, hm, fun h => by omega, fun h => by cases h⟩, fun k => by simp [List.getD]; decide⟩
    · have hs : spot = none := by
        obtain ⟨p, q, hc, _⟩ := key 0 h0
        have hc0 := hc 0 (by omega)
        simpa [Addr.add] using World.cell?_spot hc0
      subst hs
      have hb : b < W.heap.size := by
        obtain ⟨p, q, hc, _⟩ := key 0 h0
        have hc0 := hc 0 (by omega)
        simpa [Addr.add] using World.block_lt_of_cell? W _ hc0
      have hadd : ∀ j, (⟨b, off, none⟩ : Addr).add j = ⟨b, off + j, none⟩ := fun j => by unfold Addr.add; split <;> simp_all
      have hex : ∀ i : Nat, ∃ z : Int × Int, i < len → (W.cell? ⟨b, off + i * 2, none⟩ = some (.int .i64 z.1) ∧ W.cell? ⟨b, off + i * 2 + 1, none⟩ = some (.int .i64 z.2) ∧ (Lit.int .i64 z.1).wf = true ∧ (Lit.int .i64 z.2).wf = true) := by
        intro i
        by_cases hi : i < len
        · obtain ⟨p, q, hc, w0, w1⟩ := key i hi
          refine ⟨(p, q), fun _ => ⟨?_, ?_, w0, w1⟩⟩
          · have := hc 0 (by omega); rw [hadd] at this; simpa using this
          · have := hc 1 (by omega); rw [hadd] at this; rw [Nat.add_assoc]; simpa using this
        · exact ⟨(0, 0), fun h => absurd h hi⟩
      have hf := fun i => Classical.choose_spec (hex i)
      refine ⟨(List.range len).map fun i => Classical.choose (hex i), ⟨by simp, hl, hm, fun _ => ⟨b, off, rfl, hb, fun k hk => ?_⟩, fun h => by cases h⟩, fun k => ?_⟩
      · have := hf k hk
        simp only [List.getD, List.getElem?_map, List.getElem?_range hk, Option.map_some, Option.getD_some]
        exact ⟨this.1, this.2.1⟩
      · by_cases hk : k < len
        · have := hf k hk
          simp only [List.getD, List.getElem?_map, List.getElem?_range hk, Option.map_some, Option.getD_some]
          exact this.2.2
        · simp only [List.getD]
          rw [List.getElem?_eq_none (by simp; omega)]
          simp; decide
end Go.Proofs.Ytmcbldllbnjipaa
