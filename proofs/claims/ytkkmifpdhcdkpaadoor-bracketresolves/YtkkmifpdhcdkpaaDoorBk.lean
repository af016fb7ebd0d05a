/- Brackets of a text: their kinds, who ends whom; those that wait, as they lie in memory. -/
import Derived.Test.YtkkmifpdhcdkpaaDoorBn
import Derived.Test.YtkkmifpdhcdkpaaDoorSide
import Derived.Test.YtkkmifpdhcdkpaaDoorMirr
import Derived.Test.YtkkmifpdhcdkpaaDoorPairs
import Derived.Test.YtkkmifpdhcdkpaaDoorInts
import Derived.Deep.RegionHeld3
import Derived.Deep.RegionHeldLaw
import Derived.Deep.RegionLaw
import Derived.Deep.LoopGhost
namespace Go.Proofs.YtkkmifpdhcdkpaaDoor
open Go.RowKit
set_option linter.unusedVariables false
set_option maxHeartbeats 1000000
set_option maxRecDepth 100000
namespace Br
/-- What a place is: 1: it opens; 2: it closes; 0: neither. -/
def kd (l t : List Int) (i : Nat) : Int := if t.getD i 0 = 14 then (Ucd.side (l.getD i 0)).1 else 0
/-- What ends an opening one, by Canon. -/
def en (l : List Int) (x : Nat) : Int := Ucd.canon (Ucd.side (l.getD x 0)).2
def mt (l : List Int) (x i : Nat) : Bool := en l x == Ucd.canon (l.getD i 0)
def FF (l t : List Int) : List (Nat × Nat) := F (kd l t) (mt l) l.length
def PP (l t : List Int) : List (Nat × Nat) := PS (kd l t) (mt l) l.length
theorem kd_not {l t : List Int} {i : Nat} (h : ¬ t.getD i 0 = 14) : kd l t i = 0 := by unfold kd; rw [if_neg h]
theorem kd_on {l t : List Int} {i : Nat} (h : t.getD i 0 = 14) : kd l t i = (Ucd.side (l.getD i 0)).1 := by unfold kd; rw [if_pos h]
end Br
/-- The cells of those that wait, the first one first. -/
def wcs (l : List Int) : List Nat → List Value
  | [] => []
  | x :: r => wcs l r ++ [.int .i64 (x : Int), .int .i32 (Br.en l x)]
theorem wcs_len (l : List Int) (W : List Nat) : (wcs l W).length = W.length * 2 := by
  induction W with
  | nil => rfl
  | cons x r ih => rw [wcs, List.length_append, ih, List.length_cons]; simp; omega
theorem wcs_app (l : List Int) (A B : List Nat) : ∃ zs, wcs l (A ++ B) = wcs l B ++ zs := by
  induction A with
  | nil => exact ⟨[], by simp⟩
  | cons x r ih =>
    obtain ⟨zs, e⟩ := ih
    exact ⟨zs ++ [.int .i64 (x : Int), .int .i32 (Br.en l x)], by rw [List.cons_append, wcs, e, List.append_assoc]⟩
theorem owns_cut {w : World} {base : Nat} {e : TypeId} {size g cap n m : Nat} {xs zs : List Value} (h : w.ownsRow base e size (.slice (some ⟨g, 0, none⟩) n cap) n (xs ++ zs)) (hx : xs.length = m * size) (hm : m ≤ n) :
    w.ownsRow base e size (.slice (some ⟨g, 0, none⟩) m cap) m xs := by
  obtain ⟨_, h2⟩ := h
  rcases h2 with ⟨h0, _⟩ | ⟨g', cap', cur, hv, hg, hh, hn, hcap, hsz, htake⟩
  · cases h0
  · cases hv
    refine ⟨hx, .inr ⟨g, cap, cur, rfl, hg, hh, by omega, hcap, hsz, ?_⟩⟩
    have h3 : (cur.toList.take (n * size)).take (m * size) = (xs ++ zs).take (m * size) := by rw [htake]
    rw [List.take_take, Nat.min_eq_left (Nat.mul_le_mul_right _ hm)] at h3
    rw [h3, ← hx, List.take_left']
    rfl
theorem owns_apart {w : World} {b b' : Nat} {e e' : TypeId} {s s' n n' : Nat} {v v' : Value} {xs xs' : List Value} (h : w.ownsRow b e s v n xs) (h' : w.ownsRow b' e' s' v' n' xs') (hne : ¬ e = e') : v.ownBlock = none ∨ v.ownBlock ≠ v'.ownBlock := by
  rcases h.2 with ⟨rfl, _⟩ | ⟨g, cap, cur, rfl, _, hg, _⟩
  · exact .inl rfl
  · refine .inr fun he => ?_
    rcases h'.2 with ⟨rfl, _⟩ | ⟨g', cap', cur', rfl, _, hg', _⟩
    · cases he
    · simp only [Value.ownBlock, Option.some.injEq] at he
      subst he
      rw [hg] at hg'
      simp only [Option.some.injEq, Obj.cells.injEq] at hg'
      exact hne hg'.2.1
/-- What the search keeps: those that wait, and the pairs, in rows of its own. -/
structure SW (l : List Int) (w0 : World) (W : List Nat) (ps : List (Nat × Nat)) (g cap : Nat) (vp : Value) (w : World) : Prop where
  old : Below w0.heap.size w0 w
  wt : w.ownsRow w0.heap.size 67 2 (.slice (some ⟨g, 0, none⟩) W.length cap) W.length (wcs l W)
  ps : w.ownsRow w0.heap.size 42 2 vp ps.length (flat2 ps)
section
variable {l : List Int} {w0 : World} {W : List Nat} {ps : List (Nat × Nat)} {g cap : Nat} {vp : Value} {w : World}
theorem SW.below (h : SW l w0 W ps g cap vp w) {w' : World} (hb : Below w.heap.size w w') : SW l w0 W ps g cap vp w' := ⟨KO.on h.old hb, owns_below h.wt hb, owns_below h.ps hb⟩
theorem SW.caps (h : SW l w0 W ps g cap vp w) : W.length ≤ cap ∧ cap ≤ maxLen ∧ g < w.heap.size := by
  rcases h.wt.2 with ⟨h0, _⟩ | ⟨g', cap', cur, hv, _, hg, h1, h2, _⟩
  · cases h0
  · cases hv; exact ⟨h1, h2, (Array.getElem?_eq_some_iff.1 hg).1⟩
theorem SW.cut (h : SW l w0 W ps g cap vp w) {A R : List Nat} (e : W = A ++ R) : SW l w0 R ps g cap vp w := by
  subst e
  obtain ⟨zs, ez⟩ := wcs_app l A R
  have hw := h.wt
  rw [ez] at hw
  exact ⟨h.old, owns_cut hw (wcs_len l R) (by simp), h.ps⟩
/-- The last one that waits. -/
theorem SW.top (h : SW l w0 W ps g cap vp w) {A R : List Nat} {x : Nat} (e : W = A ++ x :: R) : w.cell? ⟨g, R.length * 2, none⟩ = some (.int .i64 (x : Int)) ∧ w.cell? ⟨g, R.length * 2 + 1, none⟩ = some (.int .i32 (Br.en l x)) := by
  have hw := (h.cut e).wt
  have hl := wcs_len l R
  rw [wcs] at hw
  have hn : (wcs l R ++ [Value.int .i64 (x : Int), Value.int .i32 (Br.en l x)]).length = R.length * 2 + 2 := by rw [List.length_append, hl]; rfl
  refine ⟨(hw.cellAt (R.length * 2) (by rw [List.length_cons]; omega)).trans ?_, (hw.cellAt (R.length * 2 + 1) (by rw [List.length_cons]; omega)).trans ?_⟩
  · rw [List.getElem?_append_right (by omega), hl, Nat.sub_self]; rfl
  · rw [List.getElem?_append_right (by omega), hl, show R.length * 2 + 1 - R.length * 2 = 1 from by omega]; rfl
theorem SW.push (h : SW l w0 W ps g cap vp w) {k : Nat} {o : Obj} {v' : Value} {w' : World} (ho : w'.ownsRow w0.heap.size 67 2 v' (W.length + 1) (wcs l W ++ [.int .i64 (k : Int), .int .i32 (Br.en l k)])) (hg : (w.alloc o).grownBy w' (some g)) :
    ∃ g' cap', v' = .slice (some ⟨g', 0, none⟩) (W.length + 1) cap' ∧ SW l w0 (k :: W) ps g' cap' vp w' := by
  obtain ⟨g', cap', rfl, hb, hle⟩ := owns_pos ho (by omega)
  have ha := owns_apart h.ps h.wt (by decide)
  refine ⟨g', cap', rfl, ?_, ho, ?_⟩
  · refine Below.grown (KO.alloc h.old o) hg (by simp; have := h.old.size; omega) fun j hj => ?_
    cases hj
    exact (h.wt.lt g rfl).1
  · exact (h.ps.alloc o).kept hg ha
theorem SW.pair (h : SW l w0 W ps g cap vp w) {p : Nat × Nat} {o : Obj} {v' : Value} {w' : World} (ho : w'.ownsRow w0.heap.size 42 2 v' (ps.length + 1) (flat2 ps ++ [.int .i64 (p.1 : Int), .int .i64 (p.2 : Int)])) (hg : (w.alloc o).grownBy w' vp.ownBlock) :
    SW l w0 W (ps ++ [p]) g cap v' w' := by
  have ha := owns_apart h.wt h.ps (by decide)
  refine ⟨?_, (h.wt.alloc o).kept hg ha, ?_⟩
  · exact Below.grown (KO.alloc h.old o) hg (by simp; have := h.old.size; omega) fun j hj => (h.ps.lt j hj).1
  · rw [List.length_append, flat2_snoc]; exact ho
end
theorem waitInfo : (Tryd.prog.info? 67).map (fun i => (i.zero, i.size, i.bytes)) = some (some (.agg #[.int .i64 0, .int .i32 0]), 2, 16) := by kernel_rfl
theorem build_wait (x y : Int) (w : World) : (Instr.build 67 #[(0, .int .i64 x), (1, .int .i32 y)]).run Tryd.prog w = .ok (.agg #[.int .i64 x, .int .i32 y]) w := run_build w 67 _ _ (by kernel_rfl)
theorem build_two (x y : Int) (w : World) : (Instr.build 42 #[(0, .int .i64 x), (1, .int .i64 y)]).run Tryd.prog w = .ok (.agg #[.int .i64 x, .int .i64 y]) w := run_build w 42 _ _ (by kernel_rfl)
theorem build_wait1 (x y : Int) (w : World) : (Instr.buildSlice 65 1 #[(0, .agg #[.int .i64 x, .int .i32 y])]).run Tryd.prog w = .ok (.slice (some ⟨w.heap.size, 0, none⟩) 1 1) (w.alloc (.cells #[.int .i64 x, .int .i32 y] 67)) := by
  have hq := waitInfo
  cases hi : Tryd.prog.info? 67 with
  | none => rw [hi] at hq; cases hq
  | some ie =>
    rw [hi] at hq
    simp only [Option.map_some, Option.some.injEq, Prod.mk.injEq] at hq
    refine run_buildSlice w 65 67 1 _ _ ie _ Tryd.underlying65 hi hq.1 (by rw [hq.2.1]; decide) (by rw [hq.2.1]; decide) ?_
    rw [hq.2.1]
    kernel_rfl
/-- One value of two cells is appended. -/
theorem wpList_append_two {P : Program} (w : World) {ops : Array Oper} {rest : List Oper} {o : Oper} {a : Act} {Q : Exit → Act → World → Prop} (hgd : o.guard = none) (s x : Operand) (t : TypeId)
    (ho : o.op = .call { callee := .builtin .append, args := #[s, x], argTypes := #[t, t] })
    (base : Nat) (e : TypeId) (i : TypeInfo) (z : Value) (ht : P.underlying t = some (.slice e)) (hi : P.info? e = some i) (hz : i.zero = some z)
    (hsize : i.size = 2) (hby : i.bytes = 16) (hzs : z.cells.size = 2)
    (v : Value) (n : Nat) (xs : List Value) (hs : a.eval s = v) (p q : Value) (hown : w.ownsRow base e 2 v n xs)
    (g : Nat) (hg : g = w.heap.size) (hx : a.eval x = .slice (some ⟨g, 0, none⟩) 1 1) (h1 : ∀ u ∈ [p, q], u.oneCell' = true)
    (hn : (n + 1) * 16 ≤ 140737488355328) (hbase : base ≤ w.heap.size)
    (h : ∀ v' w', w'.ownsRow base e 2 v' (n + 1) (xs ++ [p, q]) → (w.alloc (.cells #[p, q] e)).grownBy w' v.ownBlock → wpList P ops Q rest (a.put o.dst v') w') :
    wpList P ops Q (o :: rest) a (w.alloc (.cells #[p, q] e)) := by
  subst hg
  refine wpList_append_own _ hgd s x t ho base e i z 2 16 ht hi hz hsize hby hzs (by decide) v n xs hs (hown.alloc _) ⟨w.heap.size, 0, none⟩ 1 1 [p, q] hx rfl (two_new w p q e) h1 (by unfold maxLen; omega) hn (by simp; omega) (fun v' w' g1 g2 _ => h v' w' g1 g2)
end Go.Proofs.YtkkmifpdhcdkpaaDoor
