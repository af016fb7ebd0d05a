/- A row of the caller's own that is written; 'copy' of a whole row. -/
import Derived.Test.YthhfgcpflclflaaInts
import Derived.Laws.CopyOwn
namespace Go.Proofs.Ythhfgcpflclflaa
open Go.RowKit
set_option linter.unusedVariables false
set_option maxHeartbeats 1000000
set_option maxRecDepth 100000
/-- A row of the caller's own that is written. -/
structure OW (base g n cap : Nat) (zs : List Int) (w0 w : World) : Prop where
  own : w.ownsRow base 3 1 (.slice (some ⟨g, 0, none⟩) n cap) n (zs.map (Value.int .i64))
  bel : Below base w0 w
theorem OW.len {base g n cap : Nat} {zs : List Int} {w0 w : World} (h : OW base g n cap zs w0 w) : zs.length = n := by have := h.own.1; simpa using this
theorem OW.set {base g n cap : Nat} {zs : List Int} {w0 w : World} (h : OW base g n cap zs w0 w) (k : Nat) (y : Int) : OW base g n cap (zs.set k y) w0 (w.setCell ⟨g, k, none⟩ (.int .i64 y)) :=
  ⟨owns_set h.own k y, h.bel.setCell (p := ⟨g, k, none⟩) (h.own.lt g rfl).1 _⟩
theorem OW.drew {base g n cap : Nat} {zs : List Int} {w0 w : World} (h : OW base g n cap zs w0 w) : OW base g n cap zs w0 w.drew := ⟨h.own.drew, h.bel.drew⟩
theorem OW.drewN {base g n cap : Nat} {zs : List Int} {w0 w : World} (h : OW base g n cap zs w0 w) (k : Nat) : OW base g n cap zs w0 (w.drewN k) := by
  have hb := h.bel
  exact ⟨⟨h.own.1, h.own.2⟩, ⟨hb.os, hb.tape, hb.output, hb.size, hb.block⟩⟩
theorem OW.cell {base g n cap : Nat} {zs : List Int} {w0 w : World} (h : OW base g n cap zs w0 w) {k : Nat} (hk : k < n) : w.cell? ⟨g, k, none⟩ = some (.int .i64 (zs.getD k 0)) := owns_cell h.own k hk
theorem OW.row {base g n cap : Nat} {zs : List Int} {w0 w : World} (h : OW base g n cap zs w0 w) : Row .i64 w (some ⟨g, 0, none⟩) n cap zs := row_owned h.own
theorem below_setRow' {B : Nat} {w w' : World} (h : Below B w w') {g : Nat} (hg : B ≤ g) (cs : Array Value) : Below B w (w'.setRow g cs) :=
  ⟨h.os, h.tape, h.output, by rw [setRow_size]; exact h.size, fun i hi => by rw [setRow_other _ _ _ _ (by omega)]; exact h.block i hi⟩
theorem block_owns {w : World} {base g n : Nat} {xs : List Value} (h : w.ownsRow base 3 1 (.slice (some ⟨g, 0, none⟩) n n) n xs) : w.heap[g]? = some (.cells xs.toArray 3 (0, 0)) := by
  rcases h.2 with ⟨h0, _⟩ | ⟨g', cap', cur, hv, hbs, hh, hle, hm, hsz, ht⟩
  · cases h0
  · cases hv
    rw [hh]
    have : cur.toList.take (n * 1) = cur.toList := List.take_of_length_le (by rw [Array.length_toList, hsz]; exact Nat.le_refl _)
    rw [this] at ht
    rw [← ht]
theorem splice_all (xs cs : List Value) (h : xs.length = cs.length) : splice xs 0 cs = cs := by
  unfold splice
  simp [← h]
theorem sizeInt : (Try.prog.info? 3).map (·.size) = some 1 := by kernel_rfl
/-- An argument's cells, for a copy. -/
theorem Row.src {w : World} {ao : Option Addr} {n cap : Nat} {zs : List Int} (h : Row .i64 w ao n cap zs) (h0 : 0 < n) : ∃ ad, ao = some ad ∧ ∀ j v, (zs.map (Value.int .i64))[j]? = some v → w.cell? (ad.add j) = some v := by
  obtain ⟨b, off, rfl, hb, hc⟩ := h.cells h0
  refine ⟨_, rfl, fun j v hj => ?_⟩
  have hjl : j < zs.length := by
    have := (List.getElem?_eq_some_iff.1 hj).1
    simpa using this
  have hadd : (⟨b, off, none⟩ : Addr).add j = ⟨b, off + j, none⟩ := by unfold Addr.add; split <;> simp_all
  rw [hadd, hc j hjl]
  rw [List.getElem?_map, List.getElem?_eq_getElem hjl] at hj
  simp only [Option.map_some, Option.some.injEq] at hj
  rw [← hj]
  simp [List.getD, List.getElem?_eq_getElem hjl]
/-- 'copy' of a whole row into one that is as long. -/
theorem run_copy_ints {w1 w0 : World} {B g n cap : Nat} {ao : Option Addr} {c : List Int} {cur : List Value} (h : Row .i64 w1 ao n cap c) (hg : w1.heap[g]? = some (.cells cur.toArray 3 (0, 0))) (hl : cur.length = n) (hb : Below B w0 w1) (hB : B ≤ g) :
    ∃ w2, (Builtin.copy_ #[34, 34] 3 #[.slice (some ⟨g, 0, none⟩) n n, .slice ao n cap]).run Try.prog w1 = .ok (.int .i64 (n : Int)) w2 ∧ w2.heap[g]? = some (.cells (c.map (Value.int .i64)).toArray 3 (0, 0)) ∧ Below B w0 w2 := by
  have hcl : (c.map (Value.int .i64)).length = n := by rw [List.length_map, h.len]
  by_cases h0 : n = 0
  · have hrun := run_copy_none (P := Try.prog) w1 34 34 3 3 (some ⟨g, 0, none⟩) ao n n n cap Try.underlying34 sizeInt (by rw [h0]; rfl)
    refine ⟨w1, by rw [hrun, h0]; rfl, ?_, hb⟩
    have e1 : cur = [] := List.eq_nil_of_length_eq_zero (by omega)
    have e2 : c = [] := List.eq_nil_of_length_eq_zero (by rw [h.len]; exact h0)
    rw [hg, e1, e2]; rfl
  · obtain ⟨ad, rfl, hsrc⟩ := h.src (by omega)
    have hrun := run_copy_row (P := Try.prog) w1 34 34 3 3 g 0 n n ad n cap cur.toArray 3 (c.map (Value.int .i64)) Try.underlying34 sizeInt hg (by rw [hcl]; exact (Nat.min_self n).symm) hsrc (by rw [hcl, List.size_toArray]; omega) (ints_oneCell .i64 c)
    refine ⟨_, by rw [hrun, hcl]; rfl, ?_, below_setRow' hb hB _⟩
    rw [setRow_heap w1 g _ _ _ _ hg]
    have := splice_all cur (c.map (Value.int .i64)) (by rw [hcl, hl])
    unfold splice at this
    rw [hcl] at this
    rw [List.append_assoc, this]
end Go.Proofs.Ythhfgcpflclflaa
