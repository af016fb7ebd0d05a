/- sequence: the one that begins with a run. -/
import Derived.Test.YthohbiklnknofaaSq
import Derived.Laws.ResultCell
namespace Go.Proofs.Ythohbiklnknofaa
open Go.RowKit Go.Maps
set_option linter.unusedVariables false
set_option maxHeartbeats 1000000
set_option maxRecDepth 100000
theorem sresults1 {fn : Func} {p : Tmp} {ty : TypeId} (h : fn.results = #[.cell p ty]) (tmps : Array Value) (P : Program) (w : World) (g : Nat) (v : Value) (hp : tmps.getD p undef = .pointer (some ⟨g, 0, none⟩)) (hl : (loadVar ty ⟨g, 0, none⟩).run P w = .ok v w) : (results fn tmps).run P w = .ok v w := by
  have hp' : tmps[p]?.getD undef = .pointer (some ⟨g, 0, none⟩) := by simpa using hp
  simp [results, h, hp', asAddr, hl]
theorem sset_heap {W : World} {p j : Nat} {cs : Array Value} {t : TypeId} (h : W.heap[p]? = some (.cells cs t (0, 0))) (v : Value) : (W.setCell ⟨p, j, none⟩ v).heap[p]? = some (.cells (cs.setIfInBounds j v) t (0, 0)) := by
  rw [setCell_eq_setRow W p j _ _ _ v h]
  exact setRow_heap W p _ _ _ _ h
theorem seqInfo : (Try.prog.info? 36).map (·.size) = some 4 := by kernel_rfl
theorem build_seq4 (ao : Option Addr) (n cap : Nat) (x y z : Int) (w : World) : (Instr.build 36 #[(0, .slice ao n cap), (1, .int .i64 x), (2, .int .i64 y), (3, .int .i64 z)]).run Try.prog w = .ok (.agg #[.slice ao n cap, .int .i64 x, .int .i64 y, .int .i64 z]) w := run_build w 36 _ _ (by kernel_rfl)
/-- The result's block. -/
def sq4 (W : World) (q g n cap : Nat) (x y z : Int) : World := (((W.setCell ⟨q, 0, none⟩ (.slice (some ⟨g, 0, none⟩) n cap)).setCell ⟨q, 1, none⟩ (.int .i64 x)).setCell ⟨q, 2, none⟩ (.int .i64 y)).setCell ⟨q, 3, none⟩ (.int .i64 z)
theorem seq_out {W : World} {q : Nat} (hq : W.heap[q]? = some (.cells #[.slice none 0 0, .int .i64 0, .int .i64 0, .int .i64 0] 36 (0, 0))) (g n cap : Nat) (x y z : Int) :
    (loadVar 36 ⟨q, 0, none⟩).run Try.prog ((((W.setCell ⟨q, 0, none⟩ (.slice (some ⟨g, 0, none⟩) n cap)).setCell ⟨q, 1, none⟩ (.int .i64 x)).setCell ⟨q, 2, none⟩ (.int .i64 y)).setCell ⟨q, 3, none⟩ (.int .i64 z)) = .ok (.agg #[.slice (some ⟨g, 0, none⟩) n cap, .int .i64 x, .int .i64 y, .int .i64 z]) ((((W.setCell ⟨q, 0, none⟩ (.slice (some ⟨g, 0, none⟩) n cap)).setCell ⟨q, 1, none⟩ (.int .i64 x)).setCell ⟨q, 2, none⟩ (.int .i64 y)).setCell ⟨q, 3, none⟩ (.int .i64 z)) :=
  run_loadVar_row (P := Try.prog) _ q 36 36 _ (0, 0) _ (sset_heap (sset_heap (sset_heap (sset_heap hq _) _) _) _) Try.underlying36 rfl seqInfo
section
variable {w : World} {p : Nat} {b : Int} {lv mt : List Int} {rs : List (List Nat)} {bl bm n : Nat} {ao : Option Addr} {N cap mp : Nat}
theorem ltc_lt (h : rs.length = N) {c k : Nat} (hc : 0 < c) (hk : k < N) : Rn.ltc (Rn.fo mt rs) c k < N := by
  subst h
  have : ∀ c k, k < rs.length → ∀ j ∈ Rn.chn (Rn.fo mt rs) c k, j < rs.length := by
    intro c
    induction c with
    | zero => intro k _ j hj; simp [Rn.chn] at hj
    | succ c ih =>
      intro k hk j hj
      rw [Rn.chn_succ] at hj
      rcases List.mem_cons.1 hj with rfl | hj
      · exact hk
      · cases hf : Rn.fo mt rs k with
        | none => rw [hf] at hj; simp at hj
        | some i => rw [hf] at hj; exact ih i (fo_lt hf) j hj
  obtain ⟨c', rfl⟩ : ∃ c', c = c' + 1 := ⟨c - 1, by omega⟩
  have hpos := List.length_pos_iff.2 (Rn.chn_ne (Rn.fo mt rs) c' k)
  exact this (c' + 1) k hk _ (Rn.getD_mem (by omega))
theorem plc_pos (h : PG w p b lv mt rs bl bm n ao N cap mp) {k : Nat} (hk : k < N) : 0 < (Rn.plc rs (Rn.chn (Rn.fo mt rs) (N - k) k)).length := by
  obtain ⟨c, hc⟩ : ∃ c, N - k = c + 1 := ⟨N - k - 1, by omega⟩
  rw [hc, Rn.chn_succ, show ∀ (t : List Nat), k :: t = [k] ++ t from fun _ => rfl, Rn.plc_append, Rn.plc_one, List.length_append]
  have := h.runs.pos k (by have := h.ll.len; omega)
  omega
theorem sequence_any (h0 : PG w p b lv mt rs bl bm n ao N cap mp) (hmr : ∀ i, i < n → -1 ≤ mt.getD i 0 ∧ mt.getD i 0 ≤ (n : Int)) {k : Nat} (hk : k < N) :
    Calls Try.prog 24 #[.pointer (some ⟨p, 0, none⟩), .int .i64 (k : Int)] w fun e w' => ∃ g cp, e = .returned (.agg #[.slice (some ⟨g, 0, none⟩) (Rn.plc rs (Rn.chn (Rn.fo mt rs) (N - k) k)).length cp, .int .i64 (Rn.lvl lv rs k), .int .i64 (Rn.sd (Rn.lvl lv rs k) (Rn.ah b lv rs k)), .int .i64 (Rn.sd (Rn.lvl lv rs k) (Rn.bh b lv mt rs (Rn.ltc (Rn.fo mt rs) (N - k) k)))]) ∧ w'.ownsRow w.heap.size 3 1 (.slice (some ⟨g, 0, none⟩) (Rn.plc rs (Rn.chn (Rn.fo mt rs) (N - k) k)).length cp) (Rn.plc rs (Rn.chn (Rn.fo mt rs) (N - k) k)).length ((Rn.zs (Rn.plc rs (Rn.chn (Rn.fo mt rs) (N - k) k))).map (Value.int .i64)) ∧ Below w.heap.size w w' := by
  have hb1 : Below w.heap.size w (w.alloc (.cells #[.slice none 0 0, .int .i64 0, .int .i64 0, .int .i64 0] 36)) := (Below.refl _ _).alloc (Nat.le_refl _) _
  have hnew : (w.alloc (.cells #[.slice none 0 0, .int .i64 0, .int .i64 0, .int .i64 0] 36)).heap[w.heap.size]? = some (.cells #[.slice none 0 0, .int .i64 0, .int .i64 0, .int .i64 0] 36 (0, 0)) := heap_alloc_new _ _
  have hsz1 : (w.alloc (.cells #[.slice none 0 0, .int .i64 0, .int .i64 0, .int .i64 0] 36)).heap.size = w.heap.size + 1 := by simp
  have hpos := plc_pos h0 hk
  have HG := hide (grow_any (h0.below hb1) hmr hk)
  have hlt := ltc_lt (mt := mt) h0.ll.len (c := N - k) (by omega) hk
  have H0 := hide (h0.below hb1)
  have hbs := build_seq4
  generalize Rn.plc rs (Rn.chn (Rn.fo mt rs) (N - k) k) = ps at *
  generalize Rn.ltc (Rn.fo mt rs) (N - k) k = lt at *
  obtain ⟨x, hx⟩ : ∃ x, Rn.lvl lv rs k = x := ⟨_, rfl⟩
  obtain ⟨y, hy⟩ : ∃ y, Rn.ah b lv rs k = y := ⟨_, rfl⟩
  obtain ⟨z, hz⟩ : ∃ z, Rn.bh b lv mt rs lt = z := ⟨_, rfl⟩
  rw [hx, hy, hz]
  have HX := hide hx
  have HY := hide hy
  have HZ := hide hz
  clear hx hy hz
  obtain ⟨W1, hW1⟩ : ∃ W1, w.alloc (.cells #[.slice none 0 0, .int .i64 0, .int .i64 0, .int .i64 0] 36) = W1 := ⟨_, rfl⟩
  rw [hW1] at HG H0 hb1 hnew hsz1
  have HB1 := hide hb1
  have HNEW := hide hnew
  clear h0 hb1 hnew
  go_enter Try.func24, Try.ntmps24
  go_wp2_with fail
  refine HG.out.mono ?_
  rintro e W2 ⟨v, rfl, hown, hb2⟩
  rw [hsz1] at hown hb2
  have h2 : PG W2 p b lv mt rs bl bm n ao N cap mp := H0.out.below (by rw [hsz1]; exact hb2)
  have hq2 : W2.heap[w.heap.size]? = some (.cells #[.slice none 0 0, .int .i64 0, .int .i64 0, .int .i64 0] 36 (0, 0)) := (hb2.block _ (by omega)).trans HNEW.out
  have HB2 := hide (show Below w.heap.size w W2 from HB1.out.trans (hb2.mono (by omega)))
  obtain ⟨g, cp, rfl, hgl, _⟩ := owns_pos hown hpos
  have HROW := hide hown
  have HL := hide (level_any h2 hk)
  have HA := hide (fun q => ahead_any (h2.drewN q) hk)
  have HBH := hide (fun q => behind_any (h2.drewN q) hlt)
  have HS := hide (fun x y W' => rside_any x y W')
  rw [HX.out] at HL
  rw [HY.out] at HA
  rw [HZ.out] at HBH
  have HQ2 := hide hq2
  have q0 : ∀ q, (W2.drewN q).cell? ⟨w.heap.size, 0, none⟩ = some (.slice none 0 0) := fun q => by show W2.cell? _ = _; simp [World.cell?, hq2]
  have q1 : ∀ q, (W2.drewN q).cell? ⟨w.heap.size, 1, none⟩ = some (.int .i64 0) := fun q => by show W2.cell? _ = _; simp [World.cell?, hq2]
  have q2 : ∀ q, (W2.drewN q).cell? ⟨w.heap.size, 2, none⟩ = some (.int .i64 0) := fun q => by show W2.cell? _ = _; simp [World.cell?, hq2]
  have q3 : ∀ q, (W2.drewN q).cell? ⟨w.heap.size, 3, none⟩ = some (.int .i64 0) := fun q => by show W2.cell? _ = _; simp [World.cell?, hq2]
  have f0 : ∀ q j, (W2.drewN q).frozen? ⟨w.heap.size, j, none⟩ = false := fun q j => by show W2.frozen? _ = _; simp [World.frozen?, hq2]
  clear h2 hq2 HG H0 hown hW1 hb2
  go_wp2_with (first
    | (go_at_call 38; refine HL.out.mono ?_; rintro e w' ⟨rfl, qa, rfl⟩)
    | (go_at_call 40; refine (HA.out _).mono ?_; rintro e w' ⟨rfl, qb, rfl⟩)
    | (go_at_call 39; refine (HS.out _ _ _).mono ?_; rintro e w' ⟨rfl, rfl⟩)
    | (go_at_call 41; refine (HBH.out _).mono ?_; rintro e w' ⟨rfl, qc, rfl⟩))
  have hqq : (W2.drewN (qa + qb + qc)).heap[w.heap.size]? = some (.cells #[.slice none 0 0, .int .i64 0, .int .i64 0, .int .i64 0] 36 (0, 0)) := HQ2.out
  have hne : ¬ g = w.heap.size := by omega
  have hor := owns_below HROW.out (below_drewN W2 (qa + qb + qc))
  have hbel : Below w.heap.size w (W2.drewN (qa + qb + qc)) := KO.on HB2.out (below_drewN W2 _)
  exact bodyPost_ret (sresults1 Try.results24 _ _ _ w.heap.size _ rfl (seq_out hqq g ps.length cp x _ _)) rfl ⟨g, cp, rfl, owns_mono (owns_other (owns_other (owns_other (owns_other hor hne) hne) hne) hne) (by omega), (((hbel.setCell (p := ⟨w.heap.size, 0, none⟩) (Nat.le_refl _) _).setCell (p := ⟨w.heap.size, 1, none⟩) (Nat.le_refl _) _).setCell (p := ⟨w.heap.size, 2, none⟩) (Nat.le_refl _) _).setCell (p := ⟨w.heap.size, 3, none⟩) (Nat.le_refl _) _⟩
end
end Go.Proofs.Ythohbiklnknofaa
