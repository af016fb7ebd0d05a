import Derived.Test.YtmdmehopefgndaaGreatDoorZ11
import Derived.Deep.Cut
import Derived.Laws.ResultCell
/- The closure that grows a sequence. -/
namespace Go.Proofs.YtmdmehopefgndaaGreatDoor
open Go.RowKit Go.Maps
set_option linter.unusedVariables false
set_option maxHeartbeats 1000000
set_option maxRecDepth 100000
/-- The closure, by what it holds. -/
def fv (B : Nat) : Value := .func (.func 79) #[] #[.pointer (some ⟨B + 1, 0, none⟩), .pointer (some ⟨B, 0, none⟩), .pointer (some ⟨B + 2, 0, none⟩), .pointer (some ⟨B + 3, 0, none⟩)]
/-- What grow keeps in memory. -/
structure GS (w0 W : World) (p : Nat) (v : Value) (ps : List Nat) (l : Int) : Prop where
  hp : W.heap[w0.heap.size]? = some (.cells #[.pointer (some ⟨p, 0, none⟩)] 113 (0, 0))
  hv : W.heap[w0.heap.size + 1]? = some (.cells #[v] 27 (0, 0))
  hl : W.heap[w0.heap.size + 2]? = some (.cells #[.int .i64 l] 3 (0, 0))
  hf : W.heap[w0.heap.size + 3]? = some (.cells #[fv w0.heap.size] 131 (0, 0))
  own : W.ownsRow (w0.heap.size + 4) 3 1 v ps.length ((Rn.zs ps).map (Value.int .i64))
  bel : Below w0.heap.size w0 W
section
variable {w0 W : World} {p : Nat} {v : Value} {ps : List Nat} {l : Int}
theorem GS.size (h : GS w0 W p v ps l) : w0.heap.size + 4 ≤ W.heap.size := (Array.getElem?_eq_some_iff.1 h.hf).1
theorem GS.cells (h : GS w0 W p v ps l) : W.cell? ⟨w0.heap.size, 0, none⟩ = some (.pointer (some ⟨p, 0, none⟩)) ∧ W.cell? ⟨w0.heap.size + 1, 0, none⟩ = some v ∧ W.cell? ⟨w0.heap.size + 2, 0, none⟩ = some (.int .i64 l) ∧ W.cell? ⟨w0.heap.size + 3, 0, none⟩ = some (fv w0.heap.size) := ⟨cell_of_one h.hp, cell_of_one h.hv, cell_of_one h.hl, cell_of_one h.hf⟩
theorem GS.free (h : GS w0 W p v ps l) : W.frozen? ⟨w0.heap.size + 1, 0, none⟩ = false ∧ W.frozen? ⟨w0.heap.size + 2, 0, none⟩ = false := ⟨free_of_one h.hv, free_of_one h.hl⟩
theorem GS.drewN (h : GS w0 W p v ps l) (q : Nat) : GS w0 (W.drewN q) p v ps l := by
  have hb := below_drewN W q
  have hs := h.size
  exact ⟨(hb.block _ (by omega)).trans h.hp, (hb.block _ (by omega)).trans h.hv, (hb.block _ (by omega)).trans h.hl, (hb.block _ (by omega)).trans h.hf, owns_below h.own hb, KO.on h.bel hb⟩
/-- What lies below stays while the row grows. -/
theorem GS.kept (h : GS w0 W p v ps l) {W' : World} (hb : Below (w0.heap.size + 4) W W') : W'.heap[w0.heap.size]? = some (.cells #[.pointer (some ⟨p, 0, none⟩)] 113 (0, 0)) ∧ W'.heap[w0.heap.size + 1]? = some (.cells #[v] 27 (0, 0)) ∧ W'.heap[w0.heap.size + 2]? = some (.cells #[.int .i64 l] 3 (0, 0)) ∧ W'.heap[w0.heap.size + 3]? = some (.cells #[fv w0.heap.size] 131 (0, 0)) := by
  exact ⟨(hb.block _ (by omega)).trans h.hp, (hb.block _ (by omega)).trans h.hv, (hb.block _ (by omega)).trans h.hl, (hb.block _ (by omega)).trans h.hf⟩
/-- Behind the two stores. -/
theorem GS.put (h : GS w0 W p v ps l) {W' : World} {v' : Value} {qs : List Nat} (hb : Below (w0.heap.size + 4) W W') (ho : W'.ownsRow (w0.heap.size + 4) 3 1 v' qs.length ((Rn.zs qs).map (Value.int .i64))) (k : Int) :
    GS w0 ((W'.setCell ⟨w0.heap.size + 1, 0, none⟩ v').setCell ⟨w0.heap.size + 2, 0, none⟩ (.int .i64 k)) p v' qs k ∧ GS w0 ((W'.setCell ⟨w0.heap.size + 2, 0, none⟩ (.int .i64 k)).setCell ⟨w0.heap.size + 1, 0, none⟩ v') p v' qs k := by
  obtain ⟨h1, h2, h3, h4⟩ := h.kept hb
  have hbel : Below w0.heap.size w0 W' := h.bel.trans (hb.mono (by omega))
  have key : ∀ (X : World) (a : Addr) (u : Value), (a = ⟨w0.heap.size + 1, 0, none⟩ ∨ a = ⟨w0.heap.size + 2, 0, none⟩) → X.ownsRow (w0.heap.size + 4) 3 1 v' qs.length ((Rn.zs qs).map (Value.int .i64)) → (X.setCell a u).ownsRow (w0.heap.size + 4) 3 1 v' qs.length ((Rn.zs qs).map (Value.int .i64)) := by
    intro X a u ha hX
    refine ownsRow_setCell_other hX (fun e => ?_) u
    have := (hX.lt _ e).1
    rcases ha with rfl | rfl <;> (simp only at this; omega)
  have oth : ∀ (X : World) (a : Addr) (u : Value) (g : Nat) (o : Option Obj), ¬ a.block = g → X.heap[g]? = o → (X.setCell a u).heap[g]? = o := by
    intro X a u g o hne hX
    rw [Below.heap_setCell _ _ _ _ (fun e => hne e.symm)]; exact hX
  have same : ∀ (X : World) (g : Nat) (u u' : Value) (t : TypeId), X.heap[g]? = some (.cells #[u] t (0, 0)) → (X.setCell ⟨g, 0, none⟩ u').heap[g]? = some (.cells #[u'] t (0, 0)) := by
    intro X g u u' t hX
    have := heap_setCell_same X g 0 #[u] t u' hX
    simpa using this
  refine ⟨⟨?_, ?_, ?_, ?_, ?_, ?_⟩, ⟨?_, ?_, ?_, ?_, ?_, ?_⟩⟩
  · exact oth _ _ _ _ _ (by simp) (oth _ _ _ _ _ (by simp) h1)
  · exact oth _ _ _ _ _ (by simp) (same _ _ _ _ _ h2)
  · exact same _ _ _ _ _ (oth _ _ _ _ _ (by simp) h3)
  · exact oth _ _ _ _ _ (by simp) (oth _ _ _ _ _ (by simp) h4)
  · exact key _ _ _ (.inr rfl) (key _ _ _ (.inl rfl) ho)
  · exact (hbel.setCell (p := ⟨w0.heap.size + 1, 0, none⟩) (by simp) _).setCell (p := ⟨w0.heap.size + 2, 0, none⟩) (by simp) _
  · exact oth _ _ _ _ _ (by simp) (oth _ _ _ _ _ (by simp) h1)
  · exact same _ _ _ _ _ (oth _ _ _ _ _ (by simp) h2)
  · exact oth _ _ _ _ _ (by simp) (same _ _ _ _ _ h3)
  · exact oth _ _ _ _ _ (by simp) (oth _ _ _ _ _ (by simp) h4)
  · exact key _ _ _ (.inl rfl) (key _ _ _ (.inr rfl) ho)
  · exact (hbel.setCell (p := ⟨w0.heap.size + 2, 0, none⟩) (by simp) _).setCell (p := ⟨w0.heap.size + 1, 0, none⟩) (by simp) _
theorem GS.row (h : GS w0 W p v ps l) : ∃ a c, v = .slice a ps.length c := by obtain ⟨a, c, e, _⟩ := owns_form h.own; exact ⟨a, c, e⟩
end
section
variable {w0 : World} {p : Nat} {b : Int} {lv mt : List Int} {rs : List (List Nat)} {bl bm n : Nat} {ao : Option Addr} {N cap mp : Nat}
theorem more_one (h0 : PG w0 p b lv mt rs bl bm n ao N cap mp) (hmr : ∀ i, i < n → -1 ≤ mt.getD i 0 ∧ mt.getD i 0 ≤ (n : Int)) {W : World} {v : Value} {ps : List Nat} {l : Int} (h : GS w0 W p v ps l) {k : Nat} (hk : k < N) (hlen : ps.length ≤ 10000000) :
    Calls Tryz.prog 79 #[.int .i64 (k : Int), .int .i64 1, .pointer (some ⟨w0.heap.size + 1, 0, none⟩), .pointer (some ⟨w0.heap.size, 0, none⟩), .pointer (some ⟨w0.heap.size + 2, 0, none⟩), .pointer (some ⟨w0.heap.size + 3, 0, none⟩)] W fun e W' => e = .returned (.int .i64 (Rn.oi (Rn.fo mt rs k))) ∧ ∃ v', GS w0 W' p v' (ps ++ Rn.rn rs k) (k : Int) := by
  obtain ⟨ii, hii, hy0, hy1, hy2⟩ := info_parts infoInt
  have HII := hide hii
  have HY0 := hide hy0
  have HY1 := hide hy1
  have HY2 := hide hy2
  have hW := h0.below h.bel
  obtain ⟨g, gj, cj, m, rfl, c1, e1, hm, hrow, c2, c3, l1, l2⟩ := hW.run hk
  have c0 := hW.c3
  obtain ⟨q0, q1, q2, q3⟩ := h.cells
  obtain ⟨f1, f2⟩ := h.free
  have hsz := h.size
  have HS := hide h
  have hN := h0.le
  have hin : (k : Int) < (N : Int) := by omega
  have HROW := hide hrow
  have HFO := hide (fun W' (hb : Below w0.heap.size w0 W') => follower_any (h0.below hb) hmr hk)
  generalize Rn.oi (Rn.fo mt rs k) = z at *
  have HE := hide e1
  obtain ⟨av, cv, rfl⟩ := h.row
  generalize hpl : ps.length = pn at *
  have HPL := hide hpl
  have HOW := hide (show W.ownsRow (w0.heap.size + 4) 3 1 (.slice av pn cv) pn ((Rn.zs ps).map (Value.int .i64)) from by have := h.own; rw [hpl] at this; exact this)
  clear h hrow hii hy0 hy1 hy2 hW e1 l1 l2 c2 c3 hpl
  go_enter Tryz.func79, Tryz.ntmps79
  go_wp2
  have HRD := hide (HROW.out.below (show Below W.heap.size W W.drew from (Below.refl _ _).drew))
  have HSD := hide (show GS w0 W.drew p (.slice av pn cv) ps l from ⟨HS.out.hp, HS.out.hv, HS.out.hl, HS.out.hf, HS.out.own.drew, HS.out.bel.drew⟩)
  clear HROW HS
  first | (go_region_law (first
    | (refine step_append_row W.drew rfl (.tmp 12) (.tmp 19) 27 rfl (w0.heap.size + 4) 3 ii (.int .i64 0) 8 Tryz.underlying27 HII.out HY0.out HY1.out HY2.out rfl (.slice av pn cv) pn _ rfl HOW.out.drew .i64 (some ⟨gj, 0, none⟩) (m + 1) cj (Rn.zs (Rn.rn rs k)) rfl HRD.out (by omega) (by omega) hsz ?_; intro v' w' ho' hb'; obtain ⟨g', c', rfl, _, _⟩ := owns_pos ho' (by omega); obtain ⟨_, t1, t2, _⟩ := HSD.out.kept hb'; have q1' := cell_of_one t1; have q2' := cell_of_one t2; have f1' := free_of_one t1; have f2' := free_of_one t2; have hput := (HSD.out.put (qs := ps ++ Rn.rn rs k) hb' (by rw [List.length_append, HPL.out, HE.out, Rn.zs_append, List.map_append]; exact ho') (k : Int)).1; obtain ⟨W5, hW5⟩ : ∃ W5, (w'.setCell ⟨w0.heap.size + 1, 0, none⟩ (.slice (some ⟨g', 0, none⟩) (pn + (m + 1)) c')).setCell ⟨w0.heap.size + 2, 0, none⟩ (.int .i64 (k : Int)) = W5 := ⟨_, rfl⟩; rw [hW5] at hput; have HPUT := hide hput; obtain ⟨r0, r1, r2, r3⟩ := hput.cells; clear hput t1 t2))) | fail
  all_goals
    have HFF := hide (HFO.out W5 HPUT.out.bel)
    go_wp2_with (go_at_call 80; refine HFF.out.mono ?_; rintro e w6 ⟨rfl, q, rfl⟩)
    go_ret
    exact ⟨rfl, _, HPUT.out.drewN q⟩
end
end Go.Proofs.YtmdmehopefgndaaGreatDoor

/- grow: all that a sequence has. -/
namespace Go.Proofs.YtmdmehopefgndaaGreatDoor
open Go.RowKit Go.Maps
set_option linter.unusedVariables false
set_option maxHeartbeats 1000000
set_option maxRecDepth 100000
section
variable {w0 : World} {p : Nat} {b : Int} {lv mt : List Int} {rs : List (List Nat)} {bl bm n : Nat} {ao : Option Addr} {N cap mp : Nat}
theorem PG.rowle (h : PG w0 p b lv mt rs bl bm n ao N cap mp) (j : Nat) : (Rn.rn rs j).length ≤ 2000 := by
  by_cases hj : j < N
  · obtain ⟨g, gj, cj, m, _, _, e1, hm, _⟩ := h.run hj
    omega
  · have hl := h.ll.len
    have : Rn.rn rs j = [] := by simp [Rn.rn, List.getD, List.getElem?_eq_none (show rs.length ≤ j by omega)]
    rw [this]; simp
theorem fo_lt {k j : Nat} (h : Rn.fo mt rs k = some j) : j < rs.length := by
  unfold Rn.fo at h
  split at h
  · exact (Rn.fi_some h).1
  · cases h
theorem more_any (h0 : PG w0 p b lv mt rs bl bm n ao N cap mp) (hmr : ∀ i, i < n → -1 ≤ mt.getD i 0 ∧ mt.getD i 0 ≤ (n : Int)) : ∀ (count : Nat), 0 < count → count ≤ 2000 → ∀ (k : Nat) (W : World) (v : Value) (ps : List Nat) (l : Int), k < N → GS w0 W p v ps l → ps.length + count * 2000 ≤ 9000000 →
    Calls Tryz.prog 79 #[.int .i64 (k : Int), .int .i64 (count : Int), .pointer (some ⟨w0.heap.size + 1, 0, none⟩), .pointer (some ⟨w0.heap.size, 0, none⟩), .pointer (some ⟨w0.heap.size + 2, 0, none⟩), .pointer (some ⟨w0.heap.size + 3, 0, none⟩)] W fun e W' => e = .returned (.int .i64 (Rn.oi (Rn.aft (Rn.fo mt rs) count k))) ∧ ∃ v', GS w0 W' p v' (ps ++ Rn.plc rs (Rn.chn (Rn.fo mt rs) count k)) (Rn.ltc (Rn.fo mt rs) count k : Int) := by
  intro count
  induction count using Nat.strongRecOn with
  | ind count ih =>
    intro hc0 hc1 k W v ps l hk h hlen
    by_cases h1 : count = 1
    · subst h1
      have e1 : Rn.chn (Rn.fo mt rs) 1 k = [k] := by rw [Rn.chn_succ]; cases Rn.fo mt rs k <;> rfl
      have e2 : Rn.aft (Rn.fo mt rs) 1 k = Rn.fo mt rs k := by rw [Rn.aft_succ]; cases Rn.fo mt rs k <;> rfl
      have e3 : Rn.ltc (Rn.fo mt rs) 1 k = k := by unfold Rn.ltc; rw [e1]; rfl
      rw [e1, e2, e3, Rn.plc_one]
      exact more_one h0 hmr h hk (by omega)
    · obtain ⟨c1, c2, hcc, hc3, hc4, hq⟩ : ∃ c1 c2, count = c1 + c2 ∧ 0 < c1 ∧ 0 < c2 ∧ (count : Int).tdiv 2 = (c1 : Int) := ⟨count / 2, count - count / 2, by omega, by omega, by omega, by rw [Int.tdiv_eq_ediv_of_nonneg (by omega)]; omega⟩
      have hN := h0.ll.len
      have HA := hide (ih c1 (by omega) hc3 (by omega) k W v ps l hk h (by omega))
      have hsub : (count : Int) - (c1 : Int) = (c2 : Int) := by omega
      have hpl := Rn.plc_len (h0.rowle) (Rn.chn (Rn.fo mt rs) c1 k)
      have hcl := Rn.chn_len (Rn.fo mt rs) c1 k
      have hpl2 : (Rn.plc rs (Rn.chn (Rn.fo mt rs) c1 k)).length ≤ c1 * 2000 := Nat.le_trans hpl (Nat.mul_le_mul_right _ hcl)
      have HQ := hide hq
      have hne1 : ((count : Int) == 1) = false := beq_false_of_ne (by omega)
      have hne2 : ¬ (count : Int) = 1 := by omega
      obtain ⟨q0, q1, q2, q3⟩ := h.cells
      unfold fv at q3
      cases hf : Rn.aft (Rn.fo mt rs) c1 k with
      | none =>
        obtain ⟨e1, e2, e3⟩ := Rn.ltc_none (b := c2) hf
        rw [hcc, e1, e2, e3, ← hcc]
        rw [hf] at HA
        generalize Rn.plc rs (Rn.chn (Rn.fo mt rs) c1 k) = xs at *
        generalize Rn.ltc (Rn.fo mt rs) c1 k = lt at *
        clear ih h hpl hcl hcc e1 e2 e3 hlen hpl2 HQ
        go_enter Tryz.func79, Tryz.ntmps79
        go_wp2_with fail
        refine HA.out.mono ?_
        rintro e W1 ⟨rfl, v1, hg1⟩
        go_wp2
        go_ret
        exact ⟨rfl, v1, hg1⟩
      | some j =>
        obtain ⟨e1, e2, e3⟩ := Rn.ltc_some (b := c2) hf hc4
        rw [hcc, e1, e2, e3, ← hcc, Rn.plc_append, ← List.append_assoc]
        rw [hf] at HA
        have hj : j < N := by rw [← hN]; exact Rn.aft_lt (f := Rn.fo mt rs) (N := rs.length) (fun _ _ hq => fo_lt hq) c1 k j (by omega) hf
        have HB := hide (fun W1 v1 l1 (hg1 : GS w0 W1 p v1 (ps ++ Rn.plc rs (Rn.chn (Rn.fo mt rs) c1 k)) l1) => ih c2 (by omega) hc4 (by omega) j W1 v1 _ l1 hj hg1 (by rw [List.length_append]; omega))
        generalize Rn.plc rs (Rn.chn (Rn.fo mt rs) c1 k) = xs at *
        generalize Rn.plc rs (Rn.chn (Rn.fo mt rs) c2 j) = ys at *
        generalize Rn.ltc (Rn.fo mt rs) c1 k = lt at *
        generalize Rn.ltc (Rn.fo mt rs) c2 j = lt2 at *
        generalize Rn.oi (Rn.aft (Rn.fo mt rs) c2 j) = z at *
        have hjn : ((j : Int) == -1) = false := beq_false_of_ne (by omega)
        have hjn2 : ¬ (j : Int) = -1 := by omega
        clear ih h hpl hcl hcc e1 e2 e3 hlen hpl2 HQ
        go_enter Tryz.func79, Tryz.ntmps79
        go_wp2_with fail
        refine HA.out.mono ?_
        rintro e W1 ⟨rfl, v1, hg1⟩
        have HG1 := hide (HB.out W1 v1 _ hg1)
        obtain ⟨p0, p1, p2, p3⟩ := hg1.cells
        unfold fv at p3
        clear hg1 HA HB
        go_wp2_with fail
        refine HG1.out.mono ?_
        rintro e W2 ⟨rfl, v2, hg2⟩
        go_wp2
        go_ret
        exact ⟨rfl, v2, hg2⟩
end
end Go.Proofs.YtmdmehopefgndaaGreatDoor

/- grow, sequence. -/
namespace Go.Proofs.YtmdmehopefgndaaGreatDoor
open Go.RowKit Go.Maps
set_option linter.unusedVariables false
set_option maxHeartbeats 1000000
set_option maxRecDepth 100000
theorem results_cc {fn : Func} {p u : Tmp} {ty tu : TypeId} (h : fn.results = #[.cell p ty, .cell u tu]) (tmps : Array Value) (P : Program) (w : World) (g g' : Nat) (v x : Value) (hp : tmps.getD p undef = .pointer (some ⟨g, 0, none⟩)) (hu : tmps.getD u undef = .pointer (some ⟨g', 0, none⟩)) (hl : (loadVar ty ⟨g, 0, none⟩).run P w = .ok v w) (hl2 : (loadVar tu ⟨g', 0, none⟩).run P w = .ok x w) : (results fn tmps).run P w = .ok (.tuple #[v, x]) w := by
  have hp' : tmps[p]?.getD undef = .pointer (some ⟨g, 0, none⟩) := by simpa using hp
  have hu' : tmps[u]?.getD undef = .pointer (some ⟨g', 0, none⟩) := by simpa using hu
  simp [results, h, hp', hu', asAddr, hl, hl2]
theorem load_places (w : World) (g : Nat) (v : Value) (h : w.cell? ⟨g, 0, none⟩ = some v) : (loadVar 27 ⟨g, 0, none⟩).run Tryz.prog w = .ok v w := by
  simp [loadVar, isAgg, run_underlying Tryz.underlying27, h]
theorem load_last (w : World) (g : Nat) (v : Value) (h : w.cell? ⟨g, 0, none⟩ = some v) : (loadVar 3 ⟨g, 0, none⟩).run Tryz.prog w = .ok v w := by
  simp [loadVar, isAgg, run_underlying Tryz.underlying3, h]
section
variable {w : World} {p : Nat} {b : Int} {lv mt : List Int} {rs : List (List Nat)} {bl bm n : Nat} {ao : Option Addr} {N cap mp : Nat}
theorem GS.begin (w : World) (p : Nat) (u : Value) : GS w ((((((w.alloc (.cells #[.pointer (some ⟨p, 0, none⟩)] 113)).alloc (.cells #[.slice none 0 0] 27)).alloc (.cells #[.int .i64 0] 3)).alloc (.cells #[u] 131)).setCell ⟨w.heap.size + 3, 0, none⟩ (fv w.heap.size))) p (.slice none 0 0) [] 0 := by
  have z1 : (w.alloc (.cells #[.pointer (some ⟨p, 0, none⟩)] 113)).heap.size = w.heap.size + 1 := by simp
  have z2 : ((w.alloc (.cells #[.pointer (some ⟨p, 0, none⟩)] 113)).alloc (.cells #[.slice none 0 0] 27)).heap.size = w.heap.size + 2 := by simp
  have z3 : (((w.alloc (.cells #[.pointer (some ⟨p, 0, none⟩)] 113)).alloc (.cells #[.slice none 0 0] 27)).alloc (.cells #[.int .i64 0] 3)).heap.size = w.heap.size + 3 := by simp
  have nw : ∀ (X : World) (o : Obj) (s : Nat), X.heap.size = s → (X.alloc o).heap[s]? = some o := fun X o s hs => by subst hs; exact heap_alloc_new X o
  have od : ∀ (X : World) (o : Obj) (s : Nat) (r : Option Obj), s < X.heap.size → X.heap[s]? = r → (X.alloc o).heap[s]? = r := fun X o s r hs hr => (Below.heap_alloc X o s hs).trans hr
  have oth : ∀ (X : World) (a : Addr) (u : Value) (g : Nat) (o : Option Obj), ¬ a.block = g → X.heap[g]? = o → (X.setCell a u).heap[g]? = o := by
    intro X a u g o hne hX
    rw [Below.heap_setCell _ _ _ _ (fun e => hne e.symm)]; exact hX
  refine ⟨?_, ?_, ?_, ?_, World.ownsRow_nil _ _ _ _, ?_⟩
  · exact oth _ _ _ _ _ (by simp) (od _ _ _ _ (by omega) (od _ _ _ _ (by omega) (od _ _ _ _ (by omega) (nw _ _ _ rfl))))
  · exact oth _ _ _ _ _ (by simp) (od _ _ _ _ (by omega) (od _ _ _ _ (by omega) (nw _ _ _ z1)))
  · exact oth _ _ _ _ _ (by simp) (od _ _ _ _ (by omega) (nw _ _ _ z2))
  · have := heap_setCell_same _ (w.heap.size + 3) 0 #[u] 131 (fv w.heap.size) (nw _ _ _ z3)
    simpa using this
  · exact ((((((Below.refl w.heap.size w).alloc (Nat.le_refl _) _).alloc (by simp) _).alloc (by simp; omega) _).alloc (by simp; omega) _)).setCell (p := ⟨w.heap.size + 3, 0, none⟩) (by simp) _
theorem GS.out {w0 W : World} {p : Nat} {v : Value} {ps : List Nat} {l : Int} (h : GS w0 W p v ps l) : GS w0 ((W.setCell ⟨w0.heap.size + 1, 0, none⟩ v).setCell ⟨w0.heap.size + 2, 0, none⟩ (.int .i64 l)) p v ps l := (h.put (Below.refl _ _) h.own l).1
theorem grow_any (h0 : PG w p b lv mt rs bl bm n ao N cap mp) (hmr : ∀ i, i < n → -1 ≤ mt.getD i 0 ∧ mt.getD i 0 ≤ (n : Int)) {k : Nat} (hk : k < N) :
    Calls Tryz.prog 69 #[.pointer (some ⟨p, 0, none⟩), .int .i64 (k : Int)] w fun e w' => ∃ v, e = .returned (.tuple #[v, .int .i64 (Rn.ltc (Rn.fo mt rs) (N - k) k : Int)]) ∧ w'.ownsRow w.heap.size 3 1 v (Rn.plc rs (Rn.chn (Rn.fo mt rs) (N - k) k)).length ((Rn.zs (Rn.plc rs (Rn.chn (Rn.fo mt rs) (N - k) k))).map (Value.int .i64)) ∧ Below w.heap.size w w' := by
  have hN := h0.le
  have HM := hide (fun W v (hg : GS w W p v [] 0) => more_any h0 hmr (N - k) (by omega) (by omega) k W v [] 0 hk hg (by simp; omega))
  have hg0 := GS.begin w p .nilFunc
  have a2 : w.heap.size + 1 + 1 = w.heap.size + 2 := rfl
  have a3 : w.heap.size + 2 + 1 = w.heap.size + 3 := rfl
  obtain ⟨X, hX⟩ : ∃ X, (((w.alloc (.cells #[.pointer (some ⟨p, 0, none⟩)] 113)).alloc (.cells #[.slice none 0 0] 27)).alloc (.cells #[.int .i64 0] 3)).alloc (.cells #[.nilFunc] 131) = X := ⟨_, rfl⟩
  have hXn : X.heap[w.heap.size + 3]? = some (.cells #[.nilFunc] 131 (0, 0)) := by
    subst hX
    have z3 : (((w.alloc (.cells #[.pointer (some ⟨p, 0, none⟩)] 113)).alloc (.cells #[.slice none 0 0] 27)).alloc (.cells #[.int .i64 0] 3)).heap.size = w.heap.size + 3 := by simp
    rw [← z3]
    exact heap_alloc_new _ _
  have cX := cell_of_one hXn
  have fX := free_of_one hXn
  rw [hX] at hg0
  obtain ⟨W5, hW5⟩ : ∃ W5, X.setCell ⟨w.heap.size + 3, 0, none⟩ (fv w.heap.size) = W5 := ⟨_, rfl⟩
  rw [hW5] at hg0
  have hst : (store ⟨w.heap.size + 3, 0, none⟩ (fv w.heap.size)).run Tryz.prog X = .ok () W5 := by
    rw [run_store _ _ _ _ _ rfl, cX]
    simp only [fX, hW5]
    rfl
  unfold fv at hW5 hst
  have HG0 := hide hg0
  obtain ⟨q0, q1, q2, q3⟩ := hg0.cells
  unfold fv at q3
  have c3 := (h0.below hg0.bel).c3
  have HMM := hide (HM.out W5.drew _ (show GS w W5.drew p (.slice none 0 0) [] 0 from ⟨hg0.hp, hg0.hv, hg0.hl, hg0.hf, hg0.own.drew, hg0.bel.drew⟩))
  clear hg0 hXn HM
  generalize Rn.plc rs (Rn.chn (Rn.fo mt rs) (N - k) k) = ps at *
  generalize Rn.ltc (Rn.fo mt rs) (N - k) k = lt at *
  generalize Rn.oi (Rn.aft (Rn.fo mt rs) (N - k) k) = z at *
  obtain ⟨c, hc⟩ : ∃ c, N - k = c := ⟨_, rfl⟩
  rw [hc] at HMM
  have hsub : (N : Int) - (k : Int) = (c : Int) := by omega
  have hwr : IntKind.i64.wrap (c : Int) = (c : Int) := by rw [IntKind.wrap_i64]; omega
  have hin : (c : Int) ≤ 2000 := by omega
  clear h0 hc
  go_enter Tryz.func69, Tryz.ntmps69
  go_upto_region 3 with fail
  clear hX cX fX hW5 hst q1 q2
  first | (go_region_law (first
    | (go_simp; go_at_call 79; refine HMM.out.mono ?_; rintro e W6 ⟨rfl, v6, hg6⟩; rw [List.nil_append] at hg6; obtain ⟨a6, c6, rfl⟩ := hg6.row; obtain ⟨r0, r1, r2, r3⟩ := hg6.cells; obtain ⟨f1, f2⟩ := hg6.free; have HG6 := hide hg6; go_simp))) | fail
  all_goals
    have HGO := hide (GS.out (show GS w W6.drew p (.slice a6 ps.length c6) ps (lt : Int) from ⟨HG6.out.hp, HG6.out.hv, HG6.out.hl, HG6.out.hf, HG6.out.own.drew, HG6.out.bel.drew⟩))
    go_wp2
    go_region
    go_wp2
    exact bodyPost_ret (results_cc Tryz.results69 _ _ _ (w.heap.size + 1) (w.heap.size + 2) _ _ rfl rfl (load_places _ _ _ HGO.out.cells.2.1) (load_last _ _ _ HGO.out.cells.2.2.1)) rfl ⟨_, rfl, owns_mono HGO.out.own (by omega), HGO.out.bel⟩
end
end Go.Proofs.YtmdmehopefgndaaGreatDoor

/- sequence: the one that begins with a run. -/
namespace Go.Proofs.YtmdmehopefgndaaGreatDoor
open Go.RowKit Go.Maps
set_option linter.unusedVariables false
set_option maxHeartbeats 1000000
set_option maxRecDepth 100000
theorem sresults1 {fn : Func} {p : Tmp} {ty : TypeId} (h : fn.results = #[.cell p ty]) (tmps : Array Value) (P : Program) (w : World) (g : Nat) (v : Value) (hp : tmps.getD p undef = .pointer (some ⟨g, 0, none⟩)) (hl : (loadVar ty ⟨g, 0, none⟩).run P w = .ok v w) : (results fn tmps).run P w = .ok v w := by
  have hp' : tmps[p]?.getD undef = .pointer (some ⟨g, 0, none⟩) := by simpa using hp
  simp [results, h, hp', asAddr, hl]
theorem sset_heap {W : World} {p j : Nat} {cs : Array Value} {t : TypeId} (h : W.heap[p]? = some (.cells cs t (0, 0))) (v : Value) : (W.setCell ⟨p, j, none⟩ v).heap[p]? = some (.cells (cs.setIfInBounds j v) t (0, 0)) := by
  rw [setCell_eq_setRow W p j _ _ _ v h]
  exact setRow_heap W p _ _ _ _ h
theorem seqInfo : (Tryz.prog.info? 87).map (·.size) = some 4 := by kernel_rfl
theorem build_seq4 (ao : Option Addr) (n cap : Nat) (x y z : Int) (w : World) : (Instr.build 87 #[(0, .slice ao n cap), (1, .int .i64 x), (2, .int .i64 y), (3, .int .i64 z)]).run Tryz.prog w = .ok (.agg #[.slice ao n cap, .int .i64 x, .int .i64 y, .int .i64 z]) w := run_build w 87 _ _ (by kernel_rfl)
/-- The result's block. -/
def sq4 (W : World) (q g n cap : Nat) (x y z : Int) : World := (((W.setCell ⟨q, 0, none⟩ (.slice (some ⟨g, 0, none⟩) n cap)).setCell ⟨q, 1, none⟩ (.int .i64 x)).setCell ⟨q, 2, none⟩ (.int .i64 y)).setCell ⟨q, 3, none⟩ (.int .i64 z)
theorem seq_out {W : World} {q : Nat} (hq : W.heap[q]? = some (.cells #[.slice none 0 0, .int .i64 0, .int .i64 0, .int .i64 0] 87 (0, 0))) (g n cap : Nat) (x y z : Int) :
    (loadVar 87 ⟨q, 0, none⟩).run Tryz.prog ((((W.setCell ⟨q, 0, none⟩ (.slice (some ⟨g, 0, none⟩) n cap)).setCell ⟨q, 1, none⟩ (.int .i64 x)).setCell ⟨q, 2, none⟩ (.int .i64 y)).setCell ⟨q, 3, none⟩ (.int .i64 z)) = .ok (.agg #[.slice (some ⟨g, 0, none⟩) n cap, .int .i64 x, .int .i64 y, .int .i64 z]) ((((W.setCell ⟨q, 0, none⟩ (.slice (some ⟨g, 0, none⟩) n cap)).setCell ⟨q, 1, none⟩ (.int .i64 x)).setCell ⟨q, 2, none⟩ (.int .i64 y)).setCell ⟨q, 3, none⟩ (.int .i64 z)) :=
  run_loadVar_row (P := Tryz.prog) _ q 87 87 _ (0, 0) _ (sset_heap (sset_heap (sset_heap (sset_heap hq _) _) _) _) Tryz.underlying87 rfl seqInfo
section
variable {w : World} {p : Nat} {b : Int} {lv mt : List Int} {rs : List (List Nat)} {bl bm n : Nat} {ao : Option Addr} {N cap mp : Nat}
theorem ltc_lt (h : rs.length = N) {c k : Nat} (hc : 0 < c) (hk : k < N) : Rn.ltc (Rn.fo mt rs) c k < N := by
  subst h
  have : ∀ c k, k < rs.length → ∀ j ∈ Rn.chn (Rn.fo mt rs) c k, j < rs.length := by
    intro c
    induction c with
    | zero => intro k _ j hj; simp [Rn.chn] at hj
    | succ c ih =>
      intro k hk j hj
      rw [Rn.chn_succ] at hj
      rcases List.mem_cons.1 hj with rfl | hj
      · exact hk
      · cases hf : Rn.fo mt rs k with
        | none => rw [hf] at hj; simp at hj
        | some i => rw [hf] at hj; exact ih i (fo_lt hf) j hj
  obtain ⟨c', rfl⟩ : ∃ c', c = c' + 1 := ⟨c - 1, by omega⟩
  have hpos := List.length_pos_iff.2 (Rn.chn_ne (Rn.fo mt rs) c' k)
  exact this (c' + 1) k hk _ (Rn.getD_mem (by omega))
theorem plc_pos (h : PG w p b lv mt rs bl bm n ao N cap mp) {k : Nat} (hk : k < N) : 0 < (Rn.plc rs (Rn.chn (Rn.fo mt rs) (N - k) k)).length := by
  obtain ⟨c, hc⟩ : ∃ c, N - k = c + 1 := ⟨N - k - 1, by omega⟩
  rw [hc, Rn.chn_succ, show ∀ (t : List Nat), k :: t = [k] ++ t from fun _ => rfl, Rn.plc_append, Rn.plc_one, List.length_append]
  have := h.runs.pos k (by have := h.ll.len; omega)
  omega
theorem sequence_any (h0 : PG w p b lv mt rs bl bm n ao N cap mp) (hmr : ∀ i, i < n → -1 ≤ mt.getD i 0 ∧ mt.getD i 0 ≤ (n : Int)) {k : Nat} (hk : k < N) :
    Calls Tryz.prog 61 #[.pointer (some ⟨p, 0, none⟩), .int .i64 (k : Int)] w fun e w' => ∃ g cp, e = .returned (.agg #[.slice (some ⟨g, 0, none⟩) (Rn.plc rs (Rn.chn (Rn.fo mt rs) (N - k) k)).length cp, .int .i64 (Rn.lvl lv rs k), .int .i64 (Rn.sd (Rn.lvl lv rs k) (Rn.ah b lv rs k)), .int .i64 (Rn.sd (Rn.lvl lv rs k) (Rn.bh b lv mt rs (Rn.ltc (Rn.fo mt rs) (N - k) k)))]) ∧ w'.ownsRow w.heap.size 3 1 (.slice (some ⟨g, 0, none⟩) (Rn.plc rs (Rn.chn (Rn.fo mt rs) (N - k) k)).length cp) (Rn.plc rs (Rn.chn (Rn.fo mt rs) (N - k) k)).length ((Rn.zs (Rn.plc rs (Rn.chn (Rn.fo mt rs) (N - k) k))).map (Value.int .i64)) ∧ Below w.heap.size w w' := by
  have hb1 : Below w.heap.size w (w.alloc (.cells #[.slice none 0 0, .int .i64 0, .int .i64 0, .int .i64 0] 87)) := (Below.refl _ _).alloc (Nat.le_refl _) _
  have hnew : (w.alloc (.cells #[.slice none 0 0, .int .i64 0, .int .i64 0, .int .i64 0] 87)).heap[w.heap.size]? = some (.cells #[.slice none 0 0, .int .i64 0, .int .i64 0, .int .i64 0] 87 (0, 0)) := heap_alloc_new _ _
  have hsz1 : (w.alloc (.cells #[.slice none 0 0, .int .i64 0, .int .i64 0, .int .i64 0] 87)).heap.size = w.heap.size + 1 := by simp
  have hpos := plc_pos h0 hk
  have HG := hide (grow_any (h0.below hb1) hmr hk)
  have hlt := ltc_lt (mt := mt) h0.ll.len (c := N - k) (by omega) hk
  have H0 := hide (h0.below hb1)
  have hbs := build_seq4
  generalize Rn.plc rs (Rn.chn (Rn.fo mt rs) (N - k) k) = ps at *
  generalize Rn.ltc (Rn.fo mt rs) (N - k) k = lt at *
  obtain ⟨x, hx⟩ : ∃ x, Rn.lvl lv rs k = x := ⟨_, rfl⟩
  obtain ⟨y, hy⟩ : ∃ y, Rn.ah b lv rs k = y := ⟨_, rfl⟩
  obtain ⟨z, hz⟩ : ∃ z, Rn.bh b lv mt rs lt = z := ⟨_, rfl⟩
  rw [hx, hy, hz]
  have HX := hide hx
  have HY := hide hy
  have HZ := hide hz
  clear hx hy hz
  obtain ⟨W1, hW1⟩ : ∃ W1, w.alloc (.cells #[.slice none 0 0, .int .i64 0, .int .i64 0, .int .i64 0] 87) = W1 := ⟨_, rfl⟩
  rw [hW1] at HG H0 hb1 hnew hsz1
  have HB1 := hide hb1
  have HNEW := hide hnew
  clear h0 hb1 hnew
  go_enter Tryz.func61, Tryz.ntmps61
  go_wp2_with fail
  refine HG.out.mono ?_
  rintro e W2 ⟨v, rfl, hown, hb2⟩
  rw [hsz1] at hown hb2
  have h2 : PG W2 p b lv mt rs bl bm n ao N cap mp := H0.out.below (by rw [hsz1]; exact hb2)
  have hq2 : W2.heap[w.heap.size]? = some (.cells #[.slice none 0 0, .int .i64 0, .int .i64 0, .int .i64 0] 87 (0, 0)) := (hb2.block _ (by omega)).trans HNEW.out
  have HB2 := hide (show Below w.heap.size w W2 from HB1.out.trans (hb2.mono (by omega)))
  obtain ⟨g, cp, rfl, hgl, _⟩ := owns_pos hown hpos
  have HROW := hide hown
  have HL := hide (level_any h2 hk)
  have HA := hide (fun q => ahead_any (h2.drewN q) hk)
  have HBH := hide (fun q => behind_any (h2.drewN q) hlt)
  have HS := hide (fun x y W' => rside_any x y W')
  rw [HX.out] at HL
  rw [HY.out] at HA
  rw [HZ.out] at HBH
  have HQ2 := hide hq2
  have q0 : ∀ q, (W2.drewN q).cell? ⟨w.heap.size, 0, none⟩ = some (.slice none 0 0) := fun q => by show W2.cell? _ = _; simp [World.cell?, hq2]
  have q1 : ∀ q, (W2.drewN q).cell? ⟨w.heap.size, 1, none⟩ = some (.int .i64 0) := fun q => by show W2.cell? _ = _; simp [World.cell?, hq2]
  have q2 : ∀ q, (W2.drewN q).cell? ⟨w.heap.size, 2, none⟩ = some (.int .i64 0) := fun q => by show W2.cell? _ = _; simp [World.cell?, hq2]
  have q3 : ∀ q, (W2.drewN q).cell? ⟨w.heap.size, 3, none⟩ = some (.int .i64 0) := fun q => by show W2.cell? _ = _; simp [World.cell?, hq2]
  have f0 : ∀ q j, (W2.drewN q).frozen? ⟨w.heap.size, j, none⟩ = false := fun q j => by show W2.frozen? _ = _; simp [World.frozen?, hq2]
  clear h2 hq2 HG H0 hown hW1 hb2
  go_wp2_with (first
    | (go_at_call 70; refine HL.out.mono ?_; rintro e w' ⟨rfl, qa, rfl⟩)
    | (go_at_call 72; refine (HA.out _).mono ?_; rintro e w' ⟨rfl, qb, rfl⟩)
    | (go_at_call 71; refine (HS.out _ _ _).mono ?_; rintro e w' ⟨rfl, rfl⟩)
    | (go_at_call 73; refine (HBH.out _).mono ?_; rintro e w' ⟨rfl, qc, rfl⟩))
  have hqq : (W2.drewN (qa + qb + qc)).heap[w.heap.size]? = some (.cells #[.slice none 0 0, .int .i64 0, .int .i64 0, .int .i64 0] 87 (0, 0)) := HQ2.out
  have hne : ¬ g = w.heap.size := by omega
  have hor := owns_below HROW.out (below_drewN W2 (qa + qb + qc))
  have hbel : Below w.heap.size w (W2.drewN (qa + qb + qc)) := KO.on HB2.out (below_drewN W2 _)
  exact bodyPost_ret (sresults1 Tryz.results61 _ _ _ w.heap.size _ rfl (seq_out hqq g ps.length cp x _ _)) rfl ⟨g, cp, rfl, owns_mono (owns_other (owns_other (owns_other (owns_other hor hne) hne) hne) hne) (by omega), (((hbel.setCell (p := ⟨w.heap.size, 0, none⟩) (Nat.le_refl _) _).setCell (p := ⟨w.heap.size, 1, none⟩) (Nat.le_refl _) _).setCell (p := ⟨w.heap.size, 2, none⟩) (Nat.le_refl _) _).setCell (p := ⟨w.heap.size, 3, none⟩) (Nat.le_refl _) _⟩
end
end Go.Proofs.YtmdmehopefgndaaGreatDoor
