/- Slices of pairs of places. -/
import Derived.Test.YtmcbldllbnjipaaKeep
import Derived.Test.YtmcbldllbnjipaaRows
import Derived.WalkKit
import Derived.WalkSpells
import Derived.WalkLawsBesides
import Derived.Great.BuildSlice
namespace Go.Proofs.Ytmcbldllbnjipaa
open Go.RowKit
set_option linter.unusedVariables false
/-- The cells of pairs. -/
def flat2 (ps : List (Nat × Nat)) : List Value := ps.flatMap fun x => [.int .i64 (x.1 : Int), .int .i64 (x.2 : Int)]
theorem flat2_len (ps : List (Nat × Nat)) : (flat2 ps).length = ps.length * 2 := by
  induction ps with
  | nil => rfl
  | cons x ps ih => rw [flat2, List.flatMap_cons, List.length_append, ← flat2, ih]; simp; omega
theorem flat2_snoc (ps : List (Nat × Nat)) (x : Nat × Nat) : flat2 (ps ++ [x]) = flat2 ps ++ [.int .i64 (x.1 : Int), .int .i64 (x.2 : Int)] := by
  rw [flat2, List.flatMap_append]; simp [flat2]
theorem flat2_at (ps : List (Nat × Nat)) (k : Nat) (h : k < ps.length) : (flat2 ps)[k * 2]? = some (.int .i64 ((ps.getD k (0, 0)).1 : Int)) ∧ (flat2 ps)[k * 2 + 1]? = some (.int .i64 ((ps.getD k (0, 0)).2 : Int)) := by
  induction ps generalizing k with
  | nil => simp at h
  | cons x ps ih =>
    rw [flat2, List.flatMap_cons, ← flat2]
    cases k with
    | zero => simp
    | succ k =>
      have := ih k (by simpa using h)
      rw [show (k + 1) * 2 = k * 2 + 2 from by omega]
      rw [List.getElem?_append_right (by simp), List.getElem?_append_right (by simp)]
      simpa using this
/-- A slice that holds these pairs. -/
structure Pairs (w : World) (ao : Option Addr) (n cap : Nat) (ps : List (Nat × Nat)) : Prop where
  len : ps.length = n
  le : n ≤ cap
  max : cap ≤ maxLen
  cells : 0 < n → ∃ b, ao = some ⟨b, 0, none⟩ ∧ b < w.heap.size ∧ ∀ k, k < n → w.cell? ⟨b, k * 2, none⟩ = some (.int .i64 ((ps.getD k (0, 0)).1 : Int)) ∧ w.cell? ⟨b, k * 2 + 1, none⟩ = some (.int .i64 ((ps.getD k (0, 0)).2 : Int))
  nil : ao = none → cap = 0
theorem Pairs.below {w w' : World} {ao : Option Addr} {n cap : Nat} {ps : List (Nat × Nat)} (h : Pairs w ao n cap ps) (hb : Below w.heap.size w w') : Pairs w' ao n cap ps :=
  ⟨h.len, h.le, h.max, fun h0 => by
    obtain ⟨b, e1, e2, e3⟩ := h.cells h0
    exact ⟨b, e1, Nat.lt_of_lt_of_le e2 hb.size, fun k hk => ⟨(hb.cell (by exact e2)).trans (e3 k hk).1, (hb.cell (by exact e2)).trans (e3 k hk).2⟩⟩, h.nil⟩
theorem pairs_nil (w : World) : Pairs w none 0 0 [] := ⟨rfl, Nat.le_refl _, Nat.zero_le _, fun h => by omega, fun _ => rfl⟩
theorem pairs_of_owns {w : World} {base e n : Nat} {v : Value} {ps : List (Nat × Nat)} (h : w.ownsRow base e 2 v n (flat2 ps)) : ∃ ao cap, v = .slice ao n cap ∧ Pairs w ao n cap ps := by
  have hl : ps.length = n := by have := h.1; rw [flat2_len] at this; omega
  rcases h.2 with ⟨rfl, rfl⟩ | ⟨g, cap, cur, rfl, hb, hg, hn, hc, hs, ht⟩
  · exact ⟨none, 0, rfl, hl, Nat.le_refl _, Nat.zero_le _, fun h0 => by omega, fun _ => rfl⟩
  · refine ⟨_, cap, rfl, hl, hn, hc, fun h0 => ⟨g, rfl, (Array.getElem?_eq_some_iff.1 hg).1, fun k hk => ?_⟩, fun h => by cases h⟩
    have := flat2_at ps k (by omega)
    exact ⟨(h.cellAt (k * 2) (by omega)).trans this.1, (h.cellAt (k * 2 + 1) (by omega)).trans this.2⟩
theorem pairInfo : (Try.prog.info? 39).map (fun i => (i.zero, i.size, i.bytes)) = some (some (.agg #[.int .i64 0, .int .i64 0]), 2, 16) := by kernel_rfl
theorem build_pair1 (x y : Int) (w : World) : (Instr.buildSlice 24 1 #[(0, .agg #[.int .i64 x, .int .i64 y])]).run Try.prog w = .ok (.slice (some ⟨w.heap.size, 0, none⟩) 1 1) (w.alloc (.cells #[.int .i64 x, .int .i64 y] 39)) := by
  have hq := pairInfo
  cases hi : Try.prog.info? 39 with
  | none => rw [hi] at hq; cases hq
  | some ie =>
    rw [hi] at hq
    simp only [Option.map_some, Option.some.injEq, Prod.mk.injEq] at hq
    refine run_buildSlice w 24 39 1 _ _ ie _ Try.underlying24 hi hq.1 (by rw [hq.2.1]; decide) (by rw [hq.2.1]; decide) ?_
    rw [hq.2.1]
    kernel_rfl
/-- The cells of a block that was made last. -/
theorem two_new (w : World) (a b : Value) (t : TypeId) : ∀ (j : Nat) (u : Value), [a, b][j]? = some u → (w.alloc (.cells #[a, b] t)).cell? ((⟨w.heap.size, 0, none⟩ : Addr).add j) = some u := by
  intro j u hj
  have hadd : (⟨w.heap.size, 0, none⟩ : Addr).add j = ⟨w.heap.size, j, none⟩ := by unfold Addr.add; split <;> simp_all
  rw [hadd, World.cell?_alloc_mark]
  rw [← hj]
  simp
end Go.Proofs.Ytmcbldllbnjipaa
