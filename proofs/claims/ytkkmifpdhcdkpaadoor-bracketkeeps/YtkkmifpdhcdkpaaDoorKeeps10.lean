/- BracketKeeps: its walk. -/
import Derived.Test.YtkkmifpdhcdkpaaDoorNest10
import Derived.Deep.RegionHeld
import Derived.Deep.RegionHeldLaw
namespace Go.Proofs.YtkkmifpdhcdkpaaDoor
open Go.RowKit
set_option linter.unusedVariables false
set_option maxHeartbeats 4000000
set_option maxRecDepth 100000
namespace Br
theorem keep_facts {l was t : List Int} {lv s : Int} (hw : was.length = t.length) (hl : l.length = t.length) :
    (∀ j, j < (PP l t).length → ((rs was (es lv) s t (PP l t)).getD ((PP l t).getD j (0, 0)).1 0 = 14 ∨ (rs was (es lv) s t (PP l t)).getD ((PP l t).getD j (0, 0)).1 0 = 1 ∨ (rs was (es lv) s t (PP l t)).getD ((PP l t).getD j (0, 0)).1 0 = 2)) ∧
    (∀ i, (fr was t.length (PP l t)).getD i 0 = 0 → (rs was (es lv) s t (PP l t)).getD i 0 = t.getD i 0) ∧
    (∀ j, j < (PP l t).length → ¬ was.getD ((PP l t).getD j (0, 0)).1 0 = 9 → ¬ was.getD ((PP l t).getD j (0, 0)).2 0 = 9 → (rs was (es lv) s t (PP l t)).getD ((PP l t).getD j (0, 0)).1 0 = (rs was (es lv) s t (PP l t)).getD ((PP l t).getD j (0, 0)).2 0) := by
  refine ⟨fun j hj => ?_, fun i hi => keeps was (es lv) s t (PP l t) i hi, fun j hj h1 h2 => ?_⟩
  · obtain ⟨_, _, h3, _⟩ := PP_is (l := l) (t := t) hj
    exact among was (es lv) s (es_cases lv) _ (PP l t) t (.inl h3)
  · obtain ⟨q1, q2, h3, h4, _⟩ := PP_is (l := l) (t := t) hj
    exact alike was (es lv) s h1 h2 (PP l t) t F_places (PP_at hj) (by omega) (by omega) (by omega) (by omega) (by rw [h3, h4])
/-- A pair's places, in their order. -/
def pl (x y q : Nat) : Nat := if q = 0 then x else y
/-- Behind q of a pair's places. -/
def gq (was F : List Int) (x y q : Nat) : List Int := if q = 0 then F else if q = 1 then give was F 1 x else two was F 1 (x, y)
theorem gq_step (was F : List Int) (x y q : Nat) (h : q < 2) : gq was F x y (q + 1) = give was (gq was F x y q) 1 (pl x y q) := by
  have h2 : q = 0 ∨ q = 1 := by omega
  rcases h2 with rfl | rfl <;> rfl
end Br
theorem marked_any (a0 a1 a2 : Option Addr) (n0 n1 n2 c0 c1 c2 x y : Nat) (was : List Int) (w : World) (h1 : Row .i64 w a1 n1 c1 was) (hx : x < n1) (hy : y < n1) :
    Calls Tryd.prog 19 #[.agg #[.slice a0 n0 c0, .slice a1 n1 c1, .slice a2 n2 c2], .agg #[.int .i64 (x : Int), .int .i64 (y : Int)]] w fun e w' => e = .returned (.bool (was.getD x 0 == 9 || was.getD y 0 == 9)) ∧ KO w w' := by
  obtain ⟨W1, hW1⟩ : ∃ W1, w.alloc (.cells #[.slice a0 n0 c0, .slice a1 n1 c1, .slice a2 n2 c2] 36) = W1 := ⟨_, rfl⟩
  have hk1 : KO w W1 := by rw [← hW1]; exact KO.alloc (KO.refl _) _
  have hb1 : W1.heap[w.heap.size]? = some (.cells #[.slice a0 n0 c0, .slice a1 n1 c1, .slice a2 n2 c2] 36 (0, 0)) := by rw [← hW1]; exact heap_alloc_last w _
  have hs1 : W1.heap.size = w.heap.size + 1 := by rw [← hW1]; simp
  obtain ⟨W2, hW2⟩ : ∃ W2, W1.alloc (.cells #[.int .i64 (x : Int), .int .i64 (y : Int)] 42) = W2 := ⟨_, rfl⟩
  have hk2 : KO W1 W2 := by rw [← hW2]; exact KO.alloc (KO.refl _) _
  have hb2 : W2.heap[W1.heap.size]? = some (.cells #[.int .i64 (x : Int), .int .i64 (y : Int)] 42 (0, 0)) := by rw [← hW2]; exact heap_alloc_last W1 _
  have s1 : W2.cell? ⟨w.heap.size, 1, none⟩ = some (.slice a1 n1 c1) := cell_of_block ((hk2.block _ (by omega)).trans hb1) rfl
  have p0 : W2.cell? ⟨W1.heap.size, 0, none⟩ = some (.int .i64 (x : Int)) := cell_of_block hb2 rfl
  have p1 : W2.cell? ⟨W1.heap.size, 1, none⟩ = some (.int .i64 (y : Int)) := cell_of_block hb2 rfl
  have p0' := p0
  have p1' := p1
  rw [hs1] at p0 p1
  have hk := KO.on hk1 hk2
  obtain ⟨b, off, rfl, _, hc⟩ := (h1.below hk).cells (by omega)
  have gx := hc x (by rw [h1.len]; exact hx)
  have gy := hc y (by rw [h1.len]; exact hy)
  have hxi : (x : Int) < (n1 : Int) := by omega
  have hyi : (y : Int) < (n1 : Int) := by omega
  have HK := hide hk
  clear hc h1 hk hk1 hk2 hb1 hb2 hs1
  generalize was.getD x 0 = vx at *
  generalize was.getD y 0 = vy at *
  cases hvx : (vx == 9) with
  | true =>
    have hv : vx = 9 := eq_of_beq hvx
    subst hv
    clear hvx
    go_enter Tryd.func19, Tryd.ntmps19
    go_wp2
    go_ret
    exact ⟨rfl, HK.out⟩
  | false =>
    go_enter Tryd.func19, Tryd.ntmps19
    go_wp2
    go_ret
    exact ⟨ret_bool (by rw [Bool.false_or]), HK.out⟩
end Go.Proofs.YtkkmifpdhcdkpaaDoor
