/- The closure that grows a sequence. -/
import Derived.Test.YthohbiklnknofaaGr
namespace Go.Proofs.Ythohbiklnknofaa
open Go.RowKit Go.Maps
set_option linter.unusedVariables false
set_option maxHeartbeats 1000000
set_option maxRecDepth 100000
/-- The closure, by what it holds. -/
def fv (B : Nat) : Value := .func (.func 57) #[] #[.pointer (some ⟨B + 1, 0, none⟩), .pointer (some ⟨B, 0, none⟩), .pointer (some ⟨B + 2, 0, none⟩), .pointer (some ⟨B + 3, 0, none⟩)]
/-- What grow keeps in memory. -/
structure GS (w0 W : World) (p : Nat) (v : Value) (ps : List Nat) (l : Int) : Prop where
  hp : W.heap[w0.heap.size]? = some (.cells #[.pointer (some ⟨p, 0, none⟩)] 43 (0, 0))
  hv : W.heap[w0.heap.size + 1]? = some (.cells #[v] 22 (0, 0))
  hl : W.heap[w0.heap.size + 2]? = some (.cells #[.int .i64 l] 3 (0, 0))
  hf : W.heap[w0.heap.size + 3]? = some (.cells #[fv w0.heap.size] 65 (0, 0))
  own : W.ownsRow (w0.heap.size + 4) 3 1 v ps.length ((Rn.zs ps).map (Value.int .i64))
  bel : Below w0.heap.size w0 W
section
variable {w0 W : World} {p : Nat} {v : Value} {ps : List Nat} {l : Int}
theorem GS.size (h : GS w0 W p v ps l) : w0.heap.size + 4 ≤ W.heap.size := (Array.getElem?_eq_some_iff.1 h.hf).1
theorem GS.cells (h : GS w0 W p v ps l) : W.cell? ⟨w0.heap.size, 0, none⟩ = some (.pointer (some ⟨p, 0, none⟩)) ∧ W.cell? ⟨w0.heap.size + 1, 0, none⟩ = some v ∧ W.cell? ⟨w0.heap.size + 2, 0, none⟩ = some (.int .i64 l) ∧ W.cell? ⟨w0.heap.size + 3, 0, none⟩ = some (fv w0.heap.size) := ⟨cell_of_one h.hp, cell_of_one h.hv, cell_of_one h.hl, cell_of_one h.hf⟩
theorem GS.free (h : GS w0 W p v ps l) : W.frozen? ⟨w0.heap.size + 1, 0, none⟩ = false ∧ W.frozen? ⟨w0.heap.size + 2, 0, none⟩ = false := ⟨free_of_one h.hv, free_of_one h.hl⟩
theorem GS.drewN (h : GS w0 W p v ps l) (q : Nat) : GS w0 (W.drewN q) p v ps l := by
  have hb := below_drewN W q
  have hs := h.size
  exact ⟨(hb.block _ (by omega)).trans h.hp, (hb.block _ (by omega)).trans h.hv, (hb.block _ (by omega)).trans h.hl, (hb.block _ (by omega)).trans h.hf, owns_below h.own hb, KO.on h.bel hb⟩
/-- What lies below stays while the row grows. -/
theorem GS.kept (h : GS w0 W p v ps l) {W' : World} (hb : Below (w0.heap.size + 4) W W') : W'.heap[w0.heap.size]? = some (.cells #[.pointer (some ⟨p, 0, none⟩)] 43 (0, 0)) ∧ W'.heap[w0.heap.size + 1]? = some (.cells #[v] 22 (0, 0)) ∧ W'.heap[w0.heap.size + 2]? = some (.cells #[.int .i64 l] 3 (0, 0)) ∧ W'.heap[w0.heap.size + 3]? = some (.cells #[fv w0.heap.size] 65 (0, 0)) := by
  exact ⟨(hb.block _ (by omega)).trans h.hp, (hb.block _ (by omega)).trans h.hv, (hb.block _ (by omega)).trans h.hl, (hb.block _ (by omega)).trans h.hf⟩
/-- Behind the two stores. -/
theorem GS.put (h : GS w0 W p v ps l) {W' : World} {v' : Value} {qs : List Nat} (hb : Below (w0.heap.size + 4) W W') (ho : W'.ownsRow (w0.heap.size + 4) 3 1 v' qs.length ((Rn.zs qs).map (Value.int .i64))) (k : Int) :
    GS w0 ((W'.setCell ⟨w0.heap.size + 1, 0, none⟩ v').setCell ⟨w0.heap.size + 2, 0, none⟩ (.int .i64 k)) p v' qs k ∧ GS w0 ((W'.setCell ⟨w0.heap.size + 2, 0, none⟩ (.int .i64 k)).setCell ⟨w0.heap.size + 1, 0, none⟩ v') p v' qs k := by
  obtain ⟨h1, h2, h3, h4⟩ := h.kept hb
  have hbel : Below w0.heap.size w0 W' := h.bel.trans (hb.mono (by omega))
  have key : ∀ (X : World) (a : Addr) (u : Value), (a = ⟨w0.heap.size + 1, 0, none⟩ ∨ a = ⟨w0.heap.size + 2, 0, none⟩) → X.ownsRow (w0.heap.size + 4) 3 1 v' qs.length ((Rn.zs qs).map (Value.int .i64)) → (X.setCell a u).ownsRow (w0.heap.size + 4) 3 1 v' qs.length ((Rn.zs qs).map (Value.int .i64)) := by
    intro X a u ha hX
    refine ownsRow_setCell_other hX (fun e => ?_) u
    have := (hX.lt _ e).1
    rcases ha with rfl | rfl <;> (simp only at this; omega)
  have oth : ∀ (X : World) (a : Addr) (u : Value) (g : Nat) (o : Option Obj), ¬ a.block = g → X.heap[g]? = o → (X.setCell a u).heap[g]? = o := by
    intro X a u g o hne hX
    rw [Below.heap_setCell _ _ _ _ (fun e => hne e.symm)]; exact hX
  have same : ∀ (X : World) (g : Nat) (u u' : Value) (t : TypeId), X.heap[g]? = some (.cells #[u] t (0, 0)) → (X.setCell ⟨g, 0, none⟩ u').heap[g]? = some (.cells #[u'] t (0, 0)) := by
    intro X g u u' t hX
    have := heap_setCell_same X g 0 #[u] t u' hX
    simpa using this
  refine ⟨⟨?_, ?_, ?_, ?_, ?_, ?_⟩, ⟨?_, ?_, ?_, ?_, ?_, ?_⟩⟩
  · exact oth _ _ _ _ _ (by simp) (oth _ _ _ _ _ (by simp) h1)
  · exact oth _ _ _ _ _ (by simp) (same _ _ _ _ _ h2)
  · exact same _ _ _ _ _ (oth _ _ _ _ _ (by simp) h3)
  · exact oth _ _ _ _ _ (by simp) (oth _ _ _ _ _ (by simp) h4)
  · exact key _ _ _ (.inr rfl) (key _ _ _ (.inl rfl) ho)
  · exact (hbel.setCell (p := ⟨w0.heap.size + 1, 0, none⟩) (by simp) _).setCell (p := ⟨w0.heap.size + 2, 0, none⟩) (by simp) _
  · exact oth _ _ _ _ _ (by simp) (oth _ _ _ _ _ (by simp) h1)
  · exact same _ _ _ _ _ (oth _ _ _ _ _ (by simp) h2)
  · exact oth _ _ _ _ _ (by simp) (same _ _ _ _ _ h3)
  · exact oth _ _ _ _ _ (by simp) (oth _ _ _ _ _ (by simp) h4)
  · exact key _ _ _ (.inl rfl) (key _ _ _ (.inr rfl) ho)
  · exact (hbel.setCell (p := ⟨w0.heap.size + 2, 0, none⟩) (by simp) _).setCell (p := ⟨w0.heap.size + 1, 0, none⟩) (by simp) _
theorem GS.row (h : GS w0 W p v ps l) : ∃ a c, v = .slice a ps.length c := by obtain ⟨a, c, e, _⟩ := owns_form h.own; exact ⟨a, c, e⟩
end
section
variable {w0 : World} {p : Nat} {b : Int} {lv mt : List Int} {rs : List (List Nat)} {bl bm n : Nat} {ao : Option Addr} {N cap mp : Nat}
theorem more_one (h0 : PG w0 p b lv mt rs bl bm n ao N cap mp) (hmr : ∀ i, i < n → -1 ≤ mt.getD i 0 ∧ mt.getD i 0 ≤ (n : Int)) {W : World} {v : Value} {ps : List Nat} {l : Int} (h : GS w0 W p v ps l) {k : Nat} (hk : k < N) (hlen : ps.length ≤ 10000000) :
    Calls Try.prog 57 #[.int .i64 (k : Int), .int .i64 1, .pointer (some ⟨w0.heap.size + 1, 0, none⟩), .pointer (some ⟨w0.heap.size, 0, none⟩), .pointer (some ⟨w0.heap.size + 2, 0, none⟩), .pointer (some ⟨w0.heap.size + 3, 0, none⟩)] W fun e W' => e = .returned (.int .i64 (Rn.oi (Rn.fo mt rs k))) ∧ ∃ v', GS w0 W' p v' (ps ++ Rn.rn rs k) (k : Int) := by
  obtain ⟨ii, hii, hy0, hy1, hy2⟩ := info_parts infoInt
  have HII := hide hii
  have HY0 := hide hy0
  have HY1 := hide hy1
  have HY2 := hide hy2
  have hW := h0.below h.bel
  obtain ⟨g, gj, cj, m, rfl, c1, e1, hm, hrow, c2, c3, l1, l2⟩ := hW.run hk
  have c0 := hW.c3
  obtain ⟨q0, q1, q2, q3⟩ := h.cells
  obtain ⟨f1, f2⟩ := h.free
  have hsz := h.size
  have HS := hide h
  have hN := h0.le
  have hin : (k : Int) < (N : Int) := by omega
  have HROW := hide hrow
  have HFO := hide (fun W' (hb : Below w0.heap.size w0 W') => follower_any (h0.below hb) hmr hk)
  generalize Rn.oi (Rn.fo mt rs k) = z at *
  have HE := hide e1
  obtain ⟨av, cv, rfl⟩ := h.row
  generalize hpl : ps.length = pn at *
  have HPL := hide hpl
  have HOW := hide (show W.ownsRow (w0.heap.size + 4) 3 1 (.slice av pn cv) pn ((Rn.zs ps).map (Value.int .i64)) from by have := h.own; rw [hpl] at this; exact this)
  clear h hrow hii hy0 hy1 hy2 hW e1 l1 l2 c2 c3 hpl
  go_enter Try.func57, Try.ntmps57
  go_wp2
  have HRD := hide (HROW.out.below (show Below W.heap.size W W.drew from (Below.refl _ _).drew))
  have HSD := hide (show GS w0 W.drew p (.slice av pn cv) ps l from ⟨HS.out.hp, HS.out.hv, HS.out.hl, HS.out.hf, HS.out.own.drew, HS.out.bel.drew⟩)
  clear HROW HS
  first | (go_region_law (first
    | (refine step_append_row W.drew rfl (.tmp 12) (.tmp 19) 22 rfl (w0.heap.size + 4) 3 ii (.int .i64 0) 8 Try.underlying22 HII.out HY0.out HY1.out HY2.out rfl (.slice av pn cv) pn _ rfl HOW.out.drew .i64 (some ⟨gj, 0, none⟩) (m + 1) cj (Rn.zs (Rn.rn rs k)) rfl HRD.out (by omega) (by omega) hsz ?_; intro v' w' ho' hb'; obtain ⟨g', c', rfl, _, _⟩ := owns_pos ho' (by omega); obtain ⟨_, t1, t2, _⟩ := HSD.out.kept hb'; have q1' := cell_of_one t1; have q2' := cell_of_one t2; have f1' := free_of_one t1; have f2' := free_of_one t2; have hput := (HSD.out.put (qs := ps ++ Rn.rn rs k) hb' (by rw [List.length_append, HPL.out, HE.out, Rn.zs_append, List.map_append]; exact ho') (k : Int)).1; obtain ⟨W5, hW5⟩ : ∃ W5, (w'.setCell ⟨w0.heap.size + 1, 0, none⟩ (.slice (some ⟨g', 0, none⟩) (pn + (m + 1)) c')).setCell ⟨w0.heap.size + 2, 0, none⟩ (.int .i64 (k : Int)) = W5 := ⟨_, rfl⟩; rw [hW5] at hput; have HPUT := hide hput; obtain ⟨r0, r1, r2, r3⟩ := hput.cells; clear hput t1 t2))) | fail
  all_goals
    have HFF := hide (HFO.out W5 HPUT.out.bel)
    go_wp2_with (go_at_call 58; refine HFF.out.mono ?_; rintro e w6 ⟨rfl, q, rfl⟩)
    go_ret
    exact ⟨rfl, _, HPUT.out.drewN q⟩
end
end Go.Proofs.Ythohbiklnknofaa
