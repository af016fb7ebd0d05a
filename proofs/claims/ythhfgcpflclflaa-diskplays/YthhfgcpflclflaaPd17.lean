/- The program's disk, as it lies in memory; what tells of it, a step, Stop. -/
import Derived.Test.YthhfgcpflclflaaRs17
import Derived.Test.YthhfgcpflclflaaSegs
namespace Go.Proofs.Ythhfgcpflclflaa
open Go.RowKit
set_option linter.unusedVariables false
set_option maxHeartbeats 1000000
set_option maxRecDepth 100000
/-- The cells of a sector; of sectors; of a write; of writes. -/
def uv (s : List Int) : List Value := s.map (Value.int .u8)
def lv (ls : List (List Int)) : List Value := ls.flatMap uv
def xe (x : Nat × List Int) : List Value := .int .i64 (x.1 : Int) :: uv x.2
def xv (ws : List (Nat × List Int)) : List Value := ws.flatMap xe
theorem uv_len (s : List Int) : (uv s).length = s.length := by simp [uv]
theorem xe_len (x : Nat × List Int) : (xe x).length = x.2.length + 1 := by simp [xe, uv_len]
theorem uv_one (s : List Int) : ∀ v ∈ uv s, v.oneCell' = true := fun v hv => by
  obtain ⟨x, _, rfl⟩ := List.mem_map.1 hv
  rfl
theorem xe_one (x : Nat × List Int) : ∀ v ∈ xe x, v.oneCell' = true := fun v hv => by
  rcases List.mem_cons.1 hv with rfl | h
  · rfl
  · exact uv_one _ v h
theorem lv_one (ls : List (List Int)) : ∀ v ∈ lv ls, v.oneCell' = true := fun v hv => by
  obtain ⟨s, _, h⟩ := List.mem_flatMap.1 hv
  exact uv_one s v h
theorem xv_one (ws : List (Nat × List Int)) : ∀ v ∈ xv ws, v.oneCell' = true := fun v hv => by
  obtain ⟨s, _, h⟩ := List.mem_flatMap.1 hv
  exact xe_one s v h
/-- Is it stopped, and how many steps are left. -/
def sb (l : Int) : Bool := decide (0 ≤ l)
def sl (l : Int) : Int := if 0 ≤ l then l else 0
/-- The program's disk: its block, the block of what lies, what waits. -/
structure PD17 (w : World) (g gl cl : Nat) (vw : Value) (d : Dk.Ds) : Prop where
  disk : w.heap[g]? = some (.cells #[.slice (some ⟨gl, 0, none⟩) d.lies.length cl, vw, .int .i64 (d.steps : Int), .bool (sb d.left), .int .i64 (sl d.left)] 42 (0, 0))
  lies : w.ownsRow 0 75 64 (.slice (some ⟨gl, 0, none⟩) d.lies.length cl) d.lies.length (lv d.lies)
  waits : w.ownsRow 0 82 65 vw d.waits.length (xv d.waits)
  wf : Dk.Wf d
section
variable {w w' : World} {g gl cl : Nat} {vw : Value} {d : Dk.Ds}
theorem PD17.cells (h : PD17 w g gl cl vw d) : w.cell? ⟨g, 0, none⟩ = some (.slice (some ⟨gl, 0, none⟩) d.lies.length cl) ∧ w.cell? ⟨g, 1, none⟩ = some vw ∧ w.cell? ⟨g, 2, none⟩ = some (.int .i64 (d.steps : Int)) ∧ w.cell? ⟨g, 3, none⟩ = some (.bool (sb d.left)) ∧ w.cell? ⟨g, 4, none⟩ = some (.int .i64 (sl d.left)) := by
  simp [World.cell?, h.disk]
theorem PD17.fz (h : PD17 w g gl cl vw d) (j : Nat) : w.frozen? ⟨g, j, none⟩ = false := by simp [World.frozen?, h.disk]
theorem PD17.keep (h : PD17 w g gl cl vw d) {F : Nat → Prop} (hm : Mod F w w') (hF : ∀ k, RF g gl vw k → ¬ F k) : PD17 w' g gl cl vw d :=
  ⟨(hm.block g (Array.getElem?_eq_some_iff.1 h.disk).1 (hF g (.inl rfl))).trans h.disk, hm.owns h.lies fun k hk => hF k (.inr (.inl (by cases hk; rfl))), hm.owns h.waits fun k hk => hF k (.inr (.inr hk)), h.wf⟩
theorem PD17.ko (h : PD17 w g gl cl vw d) (hk : KO w w') : PD17 w' g gl cl vw d := h.keep (F := fun _ => False) (Mod.of_ko hk) fun _ _ q => q
theorem PD17.drewN (h : PD17 w g gl cl vw d) (q : Nat) : PD17 (w.drewN q) g gl cl vw d := h.ko (below_drewN w q)
theorem PD17.lt (h : PD17 w g gl cl vw d) : ∀ k, RF g gl vw k → k < w.heap.size := by
  rintro k (rfl | rfl | hk)
  · exact (Array.getElem?_eq_some_iff.1 h.disk).1
  · exact (h.lies.lt _ rfl).2
  · exact (h.waits.lt _ hk).2
theorem PD17.ne1 (h : PD17 w g gl cl vw d) : ¬ gl = g := by
  rintro rfl
  obtain ⟨cur, hc⟩ := owns_tag h.lies
  rw [h.disk] at hc
  simp at hc
theorem PD17.ne2 (h : PD17 w g gl cl vw d) : ¬ vw.ownBlock = some g := by
  intro q
  obtain ⟨cur, hc⟩ := owns_tag2 h.waits q
  rw [h.disk] at hc
  simp at hc
theorem PD17.ne3 (h : PD17 w g gl cl vw d) : ¬ vw.ownBlock = some gl := by
  intro q
  obtain ⟨cur, hc⟩ := owns_tag2 h.waits q
  obtain ⟨cur2, hc2⟩ := owns_tag h.lies
  rw [hc2] at hc
  simp at hc
theorem lies_len (hw : Dk.Wf d) : ∀ s ∈ d.lies, (uv s).length = 64 := fun s hs => by rw [uv_len]; exact (hw.lies s hs).1
theorem waits_len (hw : Dk.Wf d) : ∀ x ∈ d.waits, (xe x).length = 65 := fun x hx => by rw [xe_len, (hw.waits x hx).2.1]
/-- A sector. -/
theorem PD17.lie (h : PD17 w g gl cl vw d) {n : Nat} (hn : n < d.lies.length) : w.rangeAt gl (n * 64) (uv (d.lies.getD n [])) :=
  owns_range h.lies _ fun j v hj => by
    have hl := (List.getElem?_eq_some_iff.1 hj).1
    have hs := lies_len h.wf _ (Dk.lie_at hn)
    rw [show lv d.lies = d.lies.flatMap uv from rfl, fm_at (d := []) (lies_len h.wf) hn (by omega)]
    exact hj
theorem PD17.may (h : PD17 w g gl cl vw d) {n : Nat} (hn : n < d.lies.length) : w.there gl (n * 64) 64 := owns_there h.lies _ _ (by omega)
/-- A write that waits. -/
theorem PD17.wait (h : PD17 w g gl cl vw d) (h0 : 0 < d.waits.length) : ∃ gw cw, vw = .slice (some ⟨gw, 0, none⟩) d.waits.length cw ∧ ∀ k, k < d.waits.length → w.rangeAt gw (k * 65) (xe (d.waits.getD k (0, []))) := by
  obtain ⟨gw, cw, e, _, hle⟩ := owns_pos h.waits h0
  refine ⟨gw, cw, e, fun k hk => ?_⟩
  have ho := h.waits
  rw [e] at ho
  refine owns_range ho _ fun j v hj => ?_
  have hl := (List.getElem?_eq_some_iff.1 hj).1
  have hs := waits_len h.wf _ (Dk.wait_at hk)
  rw [show xv d.waits = d.waits.flatMap xe from rfl, fm_at (d := (0, [])) (waits_len h.wf) hk (by omega)]
  exact hj
theorem PD17.form (h : PD17 w g gl cl vw d) : ∃ aw cw, vw = .slice aw d.waits.length cw ∧ d.waits.length ≤ cw ∧ cw ≤ 2 ^ 63 - 1 := by
  obtain ⟨aw, cw, e, hle⟩ := owns_form h.waits
  refine ⟨aw, cw, e, hle, ?_⟩
  rcases h.waits.2 with ⟨q, _⟩ | ⟨_, cap, _, q, _, _, _, hm, _⟩
  · rw [e] at q
    simp only [Value.slice.injEq] at q
    omega
  · rw [e] at q
    simp only [Value.slice.injEq] at q
    unfold maxLen at hm; omega
/-- What is written. -/
theorem PD17.steps' (h : PD17 w g gl cl vw d) (x : Nat) : PD17 (w.setCell ⟨g, 2, none⟩ (.int .i64 (x : Int))) g gl cl vw { d with steps := x } :=
  ⟨by have := blk_put h.disk 2 (.int .i64 (x : Int)); simpa using this, (Mod.one w g 2 _).owns h.lies fun k hk => by cases hk; exact h.ne1, (Mod.one w g 2 _).owns h.waits fun k hk q => h.ne2 (by rw [hk, q]), ⟨h.wf.lies, h.wf.waits, h.wf.left, h.wf.some⟩⟩
theorem PD17.left' (h : PD17 w g gl cl vw d) (x : Int) (hx : 0 ≤ x) (hd : 0 ≤ d.left) : PD17 (w.setCell ⟨g, 4, none⟩ (.int .i64 x)) g gl cl vw { d with left := x } :=
  ⟨by
    have := blk_put h.disk 4 (.int .i64 x)
    have e1 : sb x = sb d.left := by unfold sb; simp [hx, hd]
    have e2 : sl x = x := by unfold sl; rw [if_pos hx]
    show _ = some (Obj.cells #[_, _, _, .bool (sb x), .int .i64 (sl x)] _ _)
    rw [e1, e2]
    simpa using this, (Mod.one w g 4 _).owns h.lies fun k hk => by cases hk; exact h.ne1, (Mod.one w g 4 _).owns h.waits fun k hk q => h.ne2 (by rw [hk, q]), ⟨h.wf.lies, h.wf.waits, by show -1 ≤ x; omega, h.wf.some⟩⟩
theorem PD17.stop' (h : PD17 w g gl cl vw d) (x : Int) (hx : 0 ≤ x) : PD17 ((w.setCell ⟨g, 3, none⟩ (.bool true)).setCell ⟨g, 4, none⟩ (.int .i64 x)) g gl cl vw { d with left := x } := by
  have hm : Mod (fun k => k = g) w ((w.setCell ⟨g, 3, none⟩ (.bool true)).setCell ⟨g, 4, none⟩ (.int .i64 x)) := (Mod.one w g 3 _).set (p := ⟨g, 4, none⟩) (.inl rfl) _
  refine ⟨?_, hm.owns h.lies fun k hk => by cases hk; exact h.ne1, hm.owns h.waits fun k hk q => h.ne2 (by rw [hk, q]), ⟨h.wf.lies, h.wf.waits, by show -1 ≤ x; omega, h.wf.some⟩⟩
  have := blk_put (blk_put h.disk 3 (.bool true)) 4 (.int .i64 x)
  have e1 : sb x = true := by unfold sb; simp [hx]
  have e2 : sl x = x := by unfold sl; rw [if_pos hx]
  show _ = some (Obj.cells #[_, _, _, .bool (sb x), .int .i64 (sl x)] _ _)
  rw [e1, e2]
  simpa using this
theorem PD17.lies' (h : PD17 w g gl cl vw d) (n : Nat) (s : List Int) (hn : n < d.lies.length) (hs : Dk.Sec s) : PD17 (w.setCells gl (n * 64) (uv s)) g gl cl vw { d with lies := d.lies.set n s } := by
  have hm : Mod (fun k => k = gl) w (w.setCells gl (n * 64) (uv s)) := (Mod.refl _ w).cells _ _ (.inl rfl)
  refine ⟨?_, ?_, hm.owns h.waits fun k hk q => h.ne3 (by rw [hk, q]), ?_⟩
  · show _ = some (Obj.cells #[.slice (some ⟨gl, 0, none⟩) (d.lies.set n s).length cl, vw, _, _, _] _ _)
    rw [List.length_set]
    exact (hm.block g (Array.getElem?_eq_some_iff.1 h.disk).1 (fun q => h.ne1 q.symm)).trans h.disk
  · show World.ownsRow _ 0 _ 64 (.slice (some ⟨gl, 0, none⟩) (d.lies.set n s).length cl) (d.lies.set n s).length (lv (d.lies.set n s))
    rw [List.length_set]
    have := owns_sets (uv s) (n * 64) h.lies
    rw [show lv d.lies = d.lies.flatMap uv from rfl, fm_set (lies_len h.wf) (by rw [uv_len]; exact hs.1) hn] at this
    exact this
  · refine ⟨fun y hy => ?_, fun x hx => ?_, h.wf.left, by show 1 ≤ (d.lies.set n s).length; rw [List.length_set]; exact h.wf.some⟩
    · rcases Dk.set_mem hy with q | q
      · exact h.wf.lies y q
      · rw [q]; exact hs
    · show x.1 < (d.lies.set n s).length ∧ _
      rw [List.length_set]
      exact h.wf.waits x hx
theorem PD17.waits' (h : PD17 w g gl cl vw d) {v2 : Value} {ws : List (Nat × List Int)} (ho : w.ownsRow 0 82 65 v2 ws.length (xv ws)) (hs : ∀ x ∈ ws, x.1 < d.lies.length ∧ Dk.Sec x.2) : PD17 (w.setCell ⟨g, 1, none⟩ v2) g gl cl v2 { d with waits := ws } := by
  refine ⟨by have := blk_put h.disk 1 v2; simpa using this, (Mod.one w g 1 _).owns h.lies fun k hk => by cases hk; exact h.ne1, (Mod.one w g 1 _).owns ho fun k hk q => ?_, ⟨h.wf.lies, hs, h.wf.left, h.wf.some⟩⟩
  obtain ⟨cur, hc⟩ := owns_tag2 ho hk
  rw [q, h.disk] at hc
  simp at hc
end
theorem pstands_any (w : World) (g gl cl : Nat) (vw : Value) (d : Dk.Ds) (h : PD17 w g gl cl vw d) :
    Calls Try.prog 36 #[.pointer (some ⟨g, 0, none⟩)] w fun e w' => e = .returned (.bool true) ∧ w = w' := by
  obtain ⟨c0, _⟩ := h.cells
  have h0 := h.wf.some
  clear h
  generalize d.lies.length = m at *
  go_enter Try.func36, Try.ntmps36
  go_wp2
  go_ret
  exact ⟨by simp; omega, rfl⟩
theorem phas_any (w : World) (g gl cl : Nat) (vw : Value) (d : Dk.Ds) (n : Int) (h : PD17 w g gl cl vw d) (r : Int) (hr : r = if Dk.has d n then 0 else 4) :
    Calls Try.prog 33 #[.pointer (some ⟨g, 0, none⟩), .int .i64 n] w fun e w' => e = .returned (.int .i64 r) ∧ w = w' := by
  have HS := hide (pstands_any w g gl cl vw d h)
  obtain ⟨c0, _⟩ := h.cells
  clear h
  by_cases h1 : n < 0
  · rw [if_neg (show ¬ Dk.has d n by unfold Dk.has; omega)] at hr
    subst hr
    generalize d.lies.length = m at *
    go_enter Try.func33, Try.ntmps33
    go_wp2_with fail
    refine HS.out.mono ?_
    rintro e w1 ⟨rfl, rfl⟩
    go_wp2
    go_ret
    exact ⟨rfl, rfl⟩
  · by_cases h2 : (d.lies.length : Int) ≤ n
    · rw [if_neg (show ¬ Dk.has d n by unfold Dk.has; omega)] at hr
      subst hr
      generalize d.lies.length = m at *
      go_enter Try.func33, Try.ntmps33
      go_wp2_with fail
      refine HS.out.mono ?_
      rintro e w1 ⟨rfl, rfl⟩
      go_wp2
      go_ret
      exact ⟨rfl, rfl⟩
    · rw [if_pos (show Dk.has d n by unfold Dk.has; omega)] at hr
      subst hr
      generalize d.lies.length = m at *
      go_enter Try.func33, Try.ntmps33
      go_wp2_with fail
      refine HS.out.mono ?_
      rintro e w1 ⟨rfl, rfl⟩
      go_wp2
      go_ret
      exact ⟨rfl, rfl⟩
theorem pdown_any (w : World) (g gl cl : Nat) (vw : Value) (d : Dk.Ds) (h : PD17 w g gl cl vw d) (r : Bool) (hr : r = decide (d.left = 0)) :
    Calls Try.prog 34 #[.pointer (some ⟨g, 0, none⟩)] w fun e w' => e = .returned (.bool r) ∧ w = w' := by
  obtain ⟨_, _, _, c3, c4⟩ := h.cells
  unfold sb at c3
  unfold sl at c4
  clear h
  by_cases h1 : 0 ≤ d.left
  · rw [decide_eq_true h1] at c3
    rw [if_pos h1] at c4
    have hb : (d.left == 0) = r := by rw [hr]; rfl
    clear hr
    generalize d.left = x at *
    go_enter Try.func34, Try.ntmps34
    go_wp2
    go_ret
    exact ⟨rfl, rfl⟩
  · rw [decide_eq_false h1] at c3
    have hb : r = false := by rw [hr]; exact decide_eq_false (by omega)
    subst hb
    clear hr
    go_enter Try.func34, Try.ntmps34
    go_wp2
    go_ret
    exact ⟨rfl, rfl⟩
theorem psectors_any (w : World) (g gl cl : Nat) (vw : Value) (d : Dk.Ds) (h : PD17 w g gl cl vw d) :
    Calls Try.prog 21 #[.pointer (some ⟨g, 0, none⟩)] w fun e w' => e = .returned (.int .i64 (d.lies.length : Int)) ∧ w = w' := by
  have HS := hide (pstands_any w g gl cl vw d h)
  obtain ⟨c0, _⟩ := h.cells
  clear h
  generalize d.lies.length = m at *
  go_enter Try.func21, Try.ntmps21
  go_wp2_with fail
  refine HS.out.mono ?_
  rintro e w1 ⟨rfl, rfl⟩
  go_wp2
  go_ret
  exact ⟨rfl, rfl⟩
theorem psteps_any (w : World) (g gl cl : Nat) (vw : Value) (d : Dk.Ds) (h : PD17 w g gl cl vw d) :
    Calls Try.prog 23 #[.pointer (some ⟨g, 0, none⟩)] w fun e w' => e = .returned (.int .i64 (d.steps : Int)) ∧ w = w' := by
  have HS := hide (pstands_any w g gl cl vw d h)
  obtain ⟨_, _, c2, _⟩ := h.cells
  clear h
  go_enter Try.func23, Try.ntmps23
  go_wp2_with fail
  refine HS.out.mono ?_
  rintro e w1 ⟨rfl, rfl⟩
  go_wp2
  go_ret
  exact ⟨rfl, rfl⟩
theorem pstop_any (w : World) (g gl cl : Nat) (vw : Value) (d : Dk.Ds) (n : Int) (h : PD17 w g gl cl vw d) :
    Calls Try.prog 19 #[.pointer (some ⟨g, 0, none⟩), .int .i64 n] w fun e w' => e = .returned (.int .i64 (Dk.ST d n).2) ∧ PD17 w' g gl cl vw (Dk.ST d n).1 ∧ Mod (fun k => k = g) w w' := by
  have HS := hide (pstands_any w g gl cl vw d h)
  by_cases hn : n < 0
  · have e : Dk.ST d n = (d, 2) := by unfold Dk.ST; rw [if_pos hn]
    rw [e]
    have H := hide h
    clear h e
    go_enter Try.func19, Try.ntmps19
    go_wp2_with fail
    refine HS.out.mono ?_
    rintro e w1 ⟨rfl, rfl⟩
    go_wp2
    go_ret
    exact ⟨rfl, H.out, Mod.refl _ _⟩
  · have e : Dk.ST d n = ({ d with left := n }, 0) := by unfold Dk.ST; rw [if_neg hn]
    rw [e]
    have f3 := h.fz 3
    have f4 : (w.setCell ⟨g, 3, none⟩ (.bool true)).frozen? ⟨g, 4, none⟩ = false := by rw [World.frozen?_setCell]; exact h.fz 4
    obtain ⟨_, _, _, c3, c4⟩ := h.cells
    have c4' : (w.setCell ⟨g, 3, none⟩ (.bool true)).cell? ⟨g, 4, none⟩ = some (.int .i64 (sl d.left)) := by rw [World.cell?_setCell_other _ _ _ _ (by simp)]; exact c4
    have H := hide (h.stop' n (by omega))
    have HM := hide (show Mod (fun k => k = g) w ((w.setCell ⟨g, 3, none⟩ (.bool true)).setCell ⟨g, 4, none⟩ (.int .i64 n)) from (Mod.one w g 3 _).set (p := ⟨g, 4, none⟩) (.inl rfl) _)
    clear h e
    generalize sl d.left = xl at *
    generalize sb d.left = xb at *
    go_enter Try.func19, Try.ntmps19
    go_wp2_with fail
    refine HS.out.mono ?_
    rintro e w1 ⟨rfl, rfl⟩
    go_wp2
    go_ret
    exact ⟨rfl, H.out, HM.out⟩
theorem pstep_any (w : World) (g gl cl : Nat) (vw : Value) (d : Dk.Ds) (h : PD17 w g gl cl vw d) (hs : d.steps ≤ 4611686018427387904) (hlf : d.left ≤ 9223372036854775807) (hl0 : ¬ d.left = 0) :
    Calls Try.prog 40 #[.pointer (some ⟨g, 0, none⟩)] w fun e w' => (∃ v, e = .returned v) ∧ PD17 w' g gl cl vw (Dk.tick d) ∧ Mod (fun k => k = g) w w' := by
  obtain ⟨_, _, c2, _, _⟩ := h.cells
  have f2 := h.fz 2
  have h1 := h.steps' (d.steps + 1)
  have HW1 := hide (Mod.one w g 2 (.int .i64 ((d.steps + 1 : Nat) : Int)))
  obtain ⟨V, hV⟩ : ∃ V, w.setCell ⟨g, 2, none⟩ (.int .i64 ((d.steps + 1 : Nat) : Int)) = V := ⟨_, rfl⟩
  rw [hV] at h1 HW1
  obtain ⟨_, _, _, c3, c4⟩ := h1.cells
  have f4 := h1.fz 4
  have H1 := hide h1
  have HT := hide (show Dk.tick d = { lies := d.lies, waits := d.waits, steps := d.steps + 1, left := if 0 < d.left then d.left - 1 else d.left } from rfl)
  have hl1 := h.wf.left
  obtain ⟨ks, hks⟩ : ∃ ks, d.steps = ks := ⟨_, rfl⟩
  have HKS := hide hks
  rw [hks] at hV c2 hs
  unfold sb at c3
  unfold sl at c4
  dsimp only at c3 c4
  obtain ⟨lf, hlf'⟩ : ∃ lf, d.left = lf := ⟨_, rfl⟩
  have HLF := hide hlf'
  simp only [hlf'] at c3 c4 hlf hl0 hl1
  rw [show ((ks + 1 : Nat) : Int) = (ks : Int) + 1 from by omega] at hV
  by_cases hp : 0 < lf
  · rw [decide_eq_true (show 0 ≤ lf by omega)] at c3
    rw [if_pos (show 0 ≤ lf by omega)] at c4
    have h2 := hide (H1.out.left' (lf - 1) (by omega) (by show 0 ≤ d.left; omega))
    clear h h1 hks hlf'
    go_enter Try.func40, Try.ntmps40
    go_wp2
    go_end0
    refine ⟨⟨_, rfl⟩, ?_, HW1.out.trans (Mod.one V g 4 _) fun i q => .inl q⟩
    rw [HT.out, HLF.out, if_pos hp]
    exact h2.out
  · rw [decide_eq_false (show ¬ 0 ≤ lf by omega)] at c3
    clear h h1 hks hlf'
    go_enter Try.func40, Try.ntmps40
    go_wp2
    go_end0
    refine ⟨⟨_, rfl⟩, ?_, HW1.out⟩
    rw [HT.out, if_neg (by rw [HLF.out]; omega)]
    exact H1.out
end Go.Proofs.Ythhfgcpflclflaa
