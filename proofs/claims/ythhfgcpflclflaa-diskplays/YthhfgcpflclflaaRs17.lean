/- The document's disk: a step, Stop, Write. -/
import Derived.Test.YthhfgcpflclflaaRd17
namespace Go.Proofs.Ythhfgcpflclflaa
open Go.RowKit
set_option linter.unusedVariables false
set_option maxHeartbeats 1000000
set_option maxRecDepth 100000
theorem blk_put {w : World} {g : Nat} {cs : Array Value} {t : TypeId} {fr : Nat × Nat} (h : w.heap[g]? = some (.cells cs t fr)) (j : Nat) (v : Value) : (w.setCell ⟨g, j, none⟩ v).heap[g]? = some (.cells (cs.setIfInBounds j v) t fr) := by
  obtain ⟨hlt, hk⟩ := Array.getElem?_eq_some_iff.1 h
  show (w.heap.modify g _)[g]? = _
  rw [Array.getElem?_eq_getElem (by rw [Array.size_modify]; exact hlt), Array.getElem_modify_self, hk]
  simp
theorem owns_tag {w : World} {base e size n g cap : Nat} {xs : List Value} (h : w.ownsRow base e size (.slice (some ⟨g, 0, none⟩) n cap) n xs) : ∃ cur, w.heap[g]? = some (.cells cur e (0, 0)) := by
  rcases h.2 with ⟨h0, _⟩ | ⟨g', cap', cur, hv, _, hg, _⟩
  · cases h0
  · cases hv; exact ⟨cur, hg⟩
theorem owns_tag2 {w : World} {base e size n g : Nat} {v : Value} {xs : List Value} (h : w.ownsRow base e size v n xs) (hv : v.ownBlock = some g) : ∃ cur, w.heap[g]? = some (.cells cur e (0, 0)) := by
  rcases h.2 with ⟨rfl, _⟩ | ⟨g', cap', cur, rfl, _, hg, _⟩
  · cases hv
  · cases hv; exact ⟨cur, hg⟩
section
variable {w : World} {g gl cl : Nat} {vw : Value} {d : Dk.Ds}
theorem RD17.ne1 (h : RD17 w g gl cl vw d) : ¬ gl = g := by
  rintro rfl
  obtain ⟨cur, hc⟩ := owns_tag h.lies
  rw [h.disk] at hc
  simp at hc
theorem RD17.ne2 (h : RD17 w g gl cl vw d) : ¬ vw.ownBlock = some g := by
  intro q
  obtain ⟨cur, hc⟩ := owns_tag2 h.waits q
  rw [h.disk] at hc
  simp at hc
theorem RD17.ne3 (h : RD17 w g gl cl vw d) : ¬ vw.ownBlock = some gl := by
  intro q
  obtain ⟨cur, hc⟩ := owns_tag2 h.waits q
  obtain ⟨cur2, hc2⟩ := owns_tag h.lies
  rw [hc2] at hc
  simp at hc
theorem Mod.one (w : World) (g j : Nat) (v : Value) : Mod (fun k => k = g) w (w.setCell ⟨g, j, none⟩ v) := (Mod.refl (fun k => k = g) w).set (p := ⟨g, j, none⟩) (.inl rfl) v
theorem RD17.steps' (h : RD17 w g gl cl vw d) (x : Nat) : RD17 (w.setCell ⟨g, 2, none⟩ (.int .i64 (x : Int))) g gl cl vw { d with steps := x } :=
  ⟨by have := blk_put h.disk 2 (.int .i64 (x : Int)); simpa using this, (Mod.one w g 2 _).owns h.lies fun k hk => by cases hk; exact h.ne1, (Mod.one w g 2 _).owns h.waits fun k hk q => h.ne2 (by rw [hk, q])⟩
theorem RD17.left' (h : RD17 w g gl cl vw d) (x : Int) : RD17 (w.setCell ⟨g, 3, none⟩ (.int .i64 x)) g gl cl vw { d with left := x } :=
  ⟨by have := blk_put h.disk 3 (.int .i64 x); simpa using this, (Mod.one w g 3 _).owns h.lies fun k hk => by cases hk; exact h.ne1, (Mod.one w g 3 _).owns h.waits fun k hk q => h.ne2 (by rw [hk, q])⟩
end
theorem rstep_any (w : World) (g gl cl : Nat) (vw : Value) (d : Dk.Ds) (h : RD17 w g gl cl vw d) (hs : d.steps ≤ 4611686018427387904) (hlf : d.left ≤ 9223372036854775807 ∧ -1 ≤ d.left) :
    Calls Try.prog 42 #[.pointer (some ⟨g, 0, none⟩)] w fun e w' => (∃ v, e = .returned v) ∧ RD17 w' g gl cl vw (Dk.tick d) ∧ Mod (fun k => k = g) w w' := by
  obtain ⟨_, _, c2, c3⟩ := h.cells
  have f2 := h.fz 2
  have h1 := h.steps' (d.steps + 1)
  have HW1 := hide (Mod.one w g 2 (.int .i64 ((d.steps + 1 : Nat) : Int)))
  obtain ⟨V, hV⟩ : ∃ V, w.setCell ⟨g, 2, none⟩ (.int .i64 ((d.steps + 1 : Nat) : Int)) = V := ⟨_, rfl⟩
  rw [hV] at h1 HW1
  obtain ⟨_, _, _, c3'⟩ := h1.cells
  have f3 := h1.fz 3
  have H1 := hide h1
  have HT := hide (show Dk.tick d = { lies := d.lies, waits := d.waits, steps := d.steps + 1, left := if 0 < d.left then d.left - 1 else d.left } from rfl)
  obtain ⟨l0, l1⟩ := hlf
  obtain ⟨ks, hks⟩ : ∃ ks, d.steps = ks := ⟨_, rfl⟩
  have HKS := hide hks
  rw [hks] at hV c2 hs
  obtain ⟨lf, hlf⟩ : ∃ lf, d.left = lf := ⟨_, rfl⟩
  have HLF := hide hlf
  simp only [hlf] at c3 c3' l0 l1
  rw [show ((ks + 1 : Nat) : Int) = (ks : Int) + 1 from by omega] at hV
  clear h h1 hks hlf
  by_cases hp : 0 < lf
  · go_enter Try.func42, Try.ntmps42
    go_wp2
    go_end0
    have h2 := H1.out.left' (lf - 1)
    refine ⟨⟨_, rfl⟩, ?_, HW1.out.trans (Mod.one V g 3 _) fun i q => .inl q⟩
    rw [HT.out, HLF.out, HKS.out, if_pos hp]
    rw [HKS.out] at h2
    exact h2
  · go_enter Try.func42, Try.ntmps42
    go_wp2
    go_end0
    refine ⟨⟨_, rfl⟩, ?_, HW1.out⟩
    rw [HT.out, if_neg (by rw [HLF.out]; omega)]
    exact H1.out
theorem rstop_any (w : World) (g gl cl : Nat) (vw : Value) (d : Dk.Ds) (n : Int) (h : RD17 w g gl cl vw d) :
    Calls Try.prog 28 #[.pointer (some ⟨g, 0, none⟩), .int .i64 n] w fun e w' => e = .returned (.int .i64 (Dk.ST d n).2) ∧ RD17 w' g gl cl vw (Dk.ST d n).1 ∧ Mod (fun k => k = g) w w' := by
  have f3 := h.fz 3
  have h1 := h.left' n
  obtain ⟨_, _, _, c3⟩ := h.cells
  by_cases hn : n < 0
  · have e : Dk.ST d n = (d, 2) := by unfold Dk.ST; rw [if_pos hn]
    rw [e]
    have H := hide h
    clear h h1 e
    go_enter Try.func28, Try.ntmps28
    go_wp2
    go_ret
    exact ⟨rfl, H.out, Mod.refl _ _⟩
  · have e : Dk.ST d n = ({ d with left := n }, 0) := by unfold Dk.ST; rw [if_neg hn]
    rw [e]
    have H := hide h1
    clear h h1 e
    go_enter Try.func28, Try.ntmps28
    go_wp2
    go_ret
    exact ⟨rfl, H.out, Mod.one w g 3 _⟩
end Go.Proofs.Ythhfgcpflclflaa
