import Derived.Test.YtfadjgaledddjaaGreatDoorZd
import Derived.Deep.Cut
import Derived.Laws.ResultCell
import Derived.Test.YtfadjgaledddjaaGreatDoorZc
/- grow, sequence. -/
namespace Go.Proofs.YtfadjgaledddjaaGreatDoor
open Go.RowKit Go.Maps
set_option linter.unusedVariables false
set_option maxHeartbeats 1000000
set_option maxRecDepth 100000
theorem results_cc {fn : Func} {p u : Tmp} {ty tu : TypeId} (h : fn.results = #[.cell p ty, .cell u tu]) (tmps : Array Value) (P : Program) (w : World) (g g' : Nat) (v x : Value) (hp : tmps.getD p undef = .pointer (some ⟨g, 0, none⟩)) (hu : tmps.getD u undef = .pointer (some ⟨g', 0, none⟩)) (hl : (loadVar ty ⟨g, 0, none⟩).run P w = .ok v w) (hl2 : (loadVar tu ⟨g', 0, none⟩).run P w = .ok x w) : (results fn tmps).run P w = .ok (.tuple #[v, x]) w := by
  have hp' : tmps[p]?.getD undef = .pointer (some ⟨g, 0, none⟩) := by simpa using hp
  have hu' : tmps[u]?.getD undef = .pointer (some ⟨g', 0, none⟩) := by simpa using hu
  simp [results, h, hp', hu', asAddr, hl, hl2]
theorem load_places (w : World) (g : Nat) (v : Value) (h : w.cell? ⟨g, 0, none⟩ = some v) : (loadVar 24 ⟨g, 0, none⟩).run Tryz.prog w = .ok v w := by
  simp [loadVar, isAgg, run_underlying Tryz.underlying24, h]
theorem load_last (w : World) (g : Nat) (v : Value) (h : w.cell? ⟨g, 0, none⟩ = some v) : (loadVar 3 ⟨g, 0, none⟩).run Tryz.prog w = .ok v w := by
  simp [loadVar, isAgg, run_underlying Tryz.underlying3, h]
section
variable {w : World} {p : Nat} {b : Int} {lv mt : List Int} {rs : List (List Nat)} {bl bm n : Nat} {ao : Option Addr} {N cap mp : Nat}
theorem GS.begin (w : World) (p : Nat) (u : Value) : GS w ((((((w.alloc (.cells #[.pointer (some ⟨p, 0, none⟩)] 105)).alloc (.cells #[.slice none 0 0] 24)).alloc (.cells #[.int .i64 0] 3)).alloc (.cells #[u] 121)).setCell ⟨w.heap.size + 3, 0, none⟩ (fv w.heap.size))) p (.slice none 0 0) [] 0 := by
  have z1 : (w.alloc (.cells #[.pointer (some ⟨p, 0, none⟩)] 105)).heap.size = w.heap.size + 1 := by simp
  have z2 : ((w.alloc (.cells #[.pointer (some ⟨p, 0, none⟩)] 105)).alloc (.cells #[.slice none 0 0] 24)).heap.size = w.heap.size + 2 := by simp
  have z3 : (((w.alloc (.cells #[.pointer (some ⟨p, 0, none⟩)] 105)).alloc (.cells #[.slice none 0 0] 24)).alloc (.cells #[.int .i64 0] 3)).heap.size = w.heap.size + 3 := by simp
  have nw : ∀ (X : World) (o : Obj) (s : Nat), X.heap.size = s → (X.alloc o).heap[s]? = some o := fun X o s hs => by subst hs; exact heap_alloc_new X o
  have od : ∀ (X : World) (o : Obj) (s : Nat) (r : Option Obj), s < X.heap.size → X.heap[s]? = r → (X.alloc o).heap[s]? = r := fun X o s r hs hr => (Below.heap_alloc X o s hs).trans hr
  have oth : ∀ (X : World) (a : Addr) (u : Value) (g : Nat) (o : Option Obj), ¬ a.block = g → X.heap[g]? = o → (X.setCell a u).heap[g]? = o := by
    intro X a u g o hne hX
    rw [Below.heap_setCell _ _ _ _ (fun e => hne e.symm)]; exact hX
  refine ⟨?_, ?_, ?_, ?_, World.ownsRow_nil _ _ _ _, ?_⟩
  · exact oth _ _ _ _ _ (by simp) (od _ _ _ _ (by omega) (od _ _ _ _ (by omega) (od _ _ _ _ (by omega) (nw _ _ _ rfl))))
  · exact oth _ _ _ _ _ (by simp) (od _ _ _ _ (by omega) (od _ _ _ _ (by omega) (nw _ _ _ z1)))
  · exact oth _ _ _ _ _ (by simp) (od _ _ _ _ (by omega) (nw _ _ _ z2))
  · have := heap_setCell_same _ (w.heap.size + 3) 0 #[u] 121 (fv w.heap.size) (nw _ _ _ z3)
    simpa using this
  · exact ((((((Below.refl w.heap.size w).alloc (Nat.le_refl _) _).alloc (by simp) _).alloc (by simp; omega) _).alloc (by simp; omega) _)).setCell (p := ⟨w.heap.size + 3, 0, none⟩) (by simp) _
theorem GS.out {w0 W : World} {p : Nat} {v : Value} {ps : List Nat} {l : Int} (h : GS w0 W p v ps l) : GS w0 ((W.setCell ⟨w0.heap.size + 1, 0, none⟩ v).setCell ⟨w0.heap.size + 2, 0, none⟩ (.int .i64 l)) p v ps l := (h.put (Below.refl _ _) h.own l).1
theorem grow_any (h0 : PG w p b lv mt rs bl bm n ao N cap mp) (hmr : ∀ i, i < n → -1 ≤ mt.getD i 0 ∧ mt.getD i 0 ≤ (n : Int)) {k : Nat} (hk : k < N) :
    Calls Tryz.prog 86 #[.pointer (some ⟨p, 0, none⟩), .int .i64 (k : Int)] w fun e w' => ∃ v, e = .returned (.tuple #[v, .int .i64 (Rn.ltc (Rn.fo mt rs) (N - k) k : Int)]) ∧ w'.ownsRow w.heap.size 3 1 v (Rn.plc rs (Rn.chn (Rn.fo mt rs) (N - k) k)).length ((Rn.zs (Rn.plc rs (Rn.chn (Rn.fo mt rs) (N - k) k))).map (Value.int .i64)) ∧ Below w.heap.size w w' := by
  have hN := h0.le
  have HM := hide (fun W v (hg : GS w W p v [] 0) => more_any h0 hmr (N - k) (by omega) (by omega) k W v [] 0 hk hg (by simp; omega))
  have hg0 := GS.begin w p .nilFunc
  have a2 : w.heap.size + 1 + 1 = w.heap.size + 2 := rfl
  have a3 : w.heap.size + 2 + 1 = w.heap.size + 3 := rfl
  obtain ⟨X, hX⟩ : ∃ X, (((w.alloc (.cells #[.pointer (some ⟨p, 0, none⟩)] 105)).alloc (.cells #[.slice none 0 0] 24)).alloc (.cells #[.int .i64 0] 3)).alloc (.cells #[.nilFunc] 121) = X := ⟨_, rfl⟩
  have hXn : X.heap[w.heap.size + 3]? = some (.cells #[.nilFunc] 121 (0, 0)) := by
    subst hX
    have z3 : (((w.alloc (.cells #[.pointer (some ⟨p, 0, none⟩)] 105)).alloc (.cells #[.slice none 0 0] 24)).alloc (.cells #[.int .i64 0] 3)).heap.size = w.heap.size + 3 := by simp
    rw [← z3]
    exact heap_alloc_new _ _
  have cX := cell_of_one hXn
  have fX := free_of_one hXn
  rw [hX] at hg0
  obtain ⟨W5, hW5⟩ : ∃ W5, X.setCell ⟨w.heap.size + 3, 0, none⟩ (fv w.heap.size) = W5 := ⟨_, rfl⟩
  rw [hW5] at hg0
  have hst : (store ⟨w.heap.size + 3, 0, none⟩ (fv w.heap.size)).run Tryz.prog X = .ok () W5 := by
    rw [run_store _ _ _ _ _ rfl, cX]
    simp only [fX, hW5]
    rfl
  unfold fv at hW5 hst
  have HG0 := hide hg0
  obtain ⟨q0, q1, q2, q3⟩ := hg0.cells
  unfold fv at q3
  have c3 := (h0.below hg0.bel).c3
  have HMM := hide (HM.out W5.drew _ (show GS w W5.drew p (.slice none 0 0) [] 0 from ⟨hg0.hp, hg0.hv, hg0.hl, hg0.hf, hg0.own.drew, hg0.bel.drew⟩))
  clear hg0 hXn HM
  generalize Rn.plc rs (Rn.chn (Rn.fo mt rs) (N - k) k) = ps at *
  generalize Rn.ltc (Rn.fo mt rs) (N - k) k = lt at *
  generalize Rn.oi (Rn.aft (Rn.fo mt rs) (N - k) k) = z at *
  obtain ⟨c, hc⟩ : ∃ c, N - k = c := ⟨_, rfl⟩
  rw [hc] at HMM
  have hsub : (N : Int) - (k : Int) = (c : Int) := by omega
  have hwr : IntKind.i64.wrap (c : Int) = (c : Int) := by rw [IntKind.wrap_i64]; omega
  have hin : (c : Int) ≤ 2000 := by omega
  clear h0 hc
  go_enter Tryz.func86, Tryz.ntmps86
  go_upto_region 3 with fail
  clear hX cX fX hW5 hst q1 q2
  first | (go_region_law (first
    | (go_simp; go_at_call 102; refine HMM.out.mono ?_; rintro e W6 ⟨rfl, v6, hg6⟩; rw [List.nil_append] at hg6; obtain ⟨a6, c6, rfl⟩ := hg6.row; obtain ⟨r0, r1, r2, r3⟩ := hg6.cells; obtain ⟨f1, f2⟩ := hg6.free; have HG6 := hide hg6; go_simp))) | fail
  all_goals
    have HGO := hide (GS.out (show GS w W6.drew p (.slice a6 ps.length c6) ps (lt : Int) from ⟨HG6.out.hp, HG6.out.hv, HG6.out.hl, HG6.out.hf, HG6.out.own.drew, HG6.out.bel.drew⟩))
    go_wp2
    go_region
    go_wp2
    exact bodyPost_ret (results_cc Tryz.results86 _ _ _ (w.heap.size + 1) (w.heap.size + 2) _ _ rfl rfl (load_places _ _ _ HGO.out.cells.2.1) (load_last _ _ _ HGO.out.cells.2.2.1)) rfl ⟨_, rfl, owns_mono HGO.out.own (by omega), HGO.out.bel⟩
end
end Go.Proofs.YtfadjgaledddjaaGreatDoor

/- sequence: the one that begins with a run. -/
namespace Go.Proofs.YtfadjgaledddjaaGreatDoor
open Go.RowKit Go.Maps
set_option linter.unusedVariables false
set_option maxHeartbeats 1000000
set_option maxRecDepth 100000
theorem sresults1 {fn : Func} {p : Tmp} {ty : TypeId} (h : fn.results = #[.cell p ty]) (tmps : Array Value) (P : Program) (w : World) (g : Nat) (v : Value) (hp : tmps.getD p undef = .pointer (some ⟨g, 0, none⟩)) (hl : (loadVar ty ⟨g, 0, none⟩).run P w = .ok v w) : (results fn tmps).run P w = .ok v w := by
  have hp' : tmps[p]?.getD undef = .pointer (some ⟨g, 0, none⟩) := by simpa using hp
  simp [results, h, hp', asAddr, hl]
theorem sset_heap {W : World} {p j : Nat} {cs : Array Value} {t : TypeId} (h : W.heap[p]? = some (.cells cs t (0, 0))) (v : Value) : (W.setCell ⟨p, j, none⟩ v).heap[p]? = some (.cells (cs.setIfInBounds j v) t (0, 0)) := by
  rw [setCell_eq_setRow W p j _ _ _ v h]
  exact setRow_heap W p _ _ _ _ h
theorem seqInfo : (Tryz.prog.info? 57).map (·.size) = some 4 := by kernel_rfl
theorem build_seq4 (ao : Option Addr) (n cap : Nat) (x y z : Int) (w : World) : (Instr.build 57 #[(0, .slice ao n cap), (1, .int .i64 x), (2, .int .i64 y), (3, .int .i64 z)]).run Tryz.prog w = .ok (.agg #[.slice ao n cap, .int .i64 x, .int .i64 y, .int .i64 z]) w := run_build w 57 _ _ (by kernel_rfl)
/-- The result's block. -/
def sq4 (W : World) (q g n cap : Nat) (x y z : Int) : World := (((W.setCell ⟨q, 0, none⟩ (.slice (some ⟨g, 0, none⟩) n cap)).setCell ⟨q, 1, none⟩ (.int .i64 x)).setCell ⟨q, 2, none⟩ (.int .i64 y)).setCell ⟨q, 3, none⟩ (.int .i64 z)
theorem seq_out {W : World} {q : Nat} (hq : W.heap[q]? = some (.cells #[.slice none 0 0, .int .i64 0, .int .i64 0, .int .i64 0] 57 (0, 0))) (g n cap : Nat) (x y z : Int) :
    (loadVar 57 ⟨q, 0, none⟩).run Tryz.prog ((((W.setCell ⟨q, 0, none⟩ (.slice (some ⟨g, 0, none⟩) n cap)).setCell ⟨q, 1, none⟩ (.int .i64 x)).setCell ⟨q, 2, none⟩ (.int .i64 y)).setCell ⟨q, 3, none⟩ (.int .i64 z)) = .ok (.agg #[.slice (some ⟨g, 0, none⟩) n cap, .int .i64 x, .int .i64 y, .int .i64 z]) ((((W.setCell ⟨q, 0, none⟩ (.slice (some ⟨g, 0, none⟩) n cap)).setCell ⟨q, 1, none⟩ (.int .i64 x)).setCell ⟨q, 2, none⟩ (.int .i64 y)).setCell ⟨q, 3, none⟩ (.int .i64 z)) :=
  run_loadVar_row (P := Tryz.prog) _ q 57 57 _ (0, 0) _ (sset_heap (sset_heap (sset_heap (sset_heap hq _) _) _) _) Tryz.underlying57 rfl seqInfo
section
variable {w : World} {p : Nat} {b : Int} {lv mt : List Int} {rs : List (List Nat)} {bl bm n : Nat} {ao : Option Addr} {N cap mp : Nat}
theorem ltc_lt (h : rs.length = N) {c k : Nat} (hc : 0 < c) (hk : k < N) : Rn.ltc (Rn.fo mt rs) c k < N := by
  subst h
  have : ∀ c k, k < rs.length → ∀ j ∈ Rn.chn (Rn.fo mt rs) c k, j < rs.length := by
    intro c
    induction c with
    | zero => intro k _ j hj; simp [Rn.chn] at hj
    | succ c ih =>
      intro k hk j hj
      rw [Rn.chn_succ] at hj
      rcases List.mem_cons.1 hj with rfl | hj
      · exact hk
      · cases hf : Rn.fo mt rs k with
        | none => rw [hf] at hj; simp at hj
        | some i => rw [hf] at hj; exact ih i (fo_lt hf) j hj
  obtain ⟨c', rfl⟩ : ∃ c', c = c' + 1 := ⟨c - 1, by omega⟩
  have hpos := List.length_pos_iff.2 (Rn.chn_ne (Rn.fo mt rs) c' k)
  exact this (c' + 1) k hk _ (Rn.getD_mem (by omega))
theorem plc_pos (h : PG w p b lv mt rs bl bm n ao N cap mp) {k : Nat} (hk : k < N) : 0 < (Rn.plc rs (Rn.chn (Rn.fo mt rs) (N - k) k)).length := by
  obtain ⟨c, hc⟩ : ∃ c, N - k = c + 1 := ⟨N - k - 1, by omega⟩
  rw [hc, Rn.chn_succ, show ∀ (t : List Nat), k :: t = [k] ++ t from fun _ => rfl, Rn.plc_append, Rn.plc_one, List.length_append]
  have := h.runs.pos k (by have := h.ll.len; omega)
  omega
theorem sequence_any (h0 : PG w p b lv mt rs bl bm n ao N cap mp) (hmr : ∀ i, i < n → -1 ≤ mt.getD i 0 ∧ mt.getD i 0 ≤ (n : Int)) {k : Nat} (hk : k < N) :
    Calls Tryz.prog 65 #[.pointer (some ⟨p, 0, none⟩), .int .i64 (k : Int)] w fun e w' => ∃ g cp, e = .returned (.agg #[.slice (some ⟨g, 0, none⟩) (Rn.plc rs (Rn.chn (Rn.fo mt rs) (N - k) k)).length cp, .int .i64 (Rn.lvl lv rs k), .int .i64 (Rn.sd (Rn.lvl lv rs k) (Rn.ah b lv rs k)), .int .i64 (Rn.sd (Rn.lvl lv rs k) (Rn.bh b lv mt rs (Rn.ltc (Rn.fo mt rs) (N - k) k)))]) ∧ w'.ownsRow w.heap.size 3 1 (.slice (some ⟨g, 0, none⟩) (Rn.plc rs (Rn.chn (Rn.fo mt rs) (N - k) k)).length cp) (Rn.plc rs (Rn.chn (Rn.fo mt rs) (N - k) k)).length ((Rn.zs (Rn.plc rs (Rn.chn (Rn.fo mt rs) (N - k) k))).map (Value.int .i64)) ∧ Below w.heap.size w w' := by
  have hb1 : Below w.heap.size w (w.alloc (.cells #[.slice none 0 0, .int .i64 0, .int .i64 0, .int .i64 0] 57)) := (Below.refl _ _).alloc (Nat.le_refl _) _
  have hnew : (w.alloc (.cells #[.slice none 0 0, .int .i64 0, .int .i64 0, .int .i64 0] 57)).heap[w.heap.size]? = some (.cells #[.slice none 0 0, .int .i64 0, .int .i64 0, .int .i64 0] 57 (0, 0)) := heap_alloc_new _ _
  have hsz1 : (w.alloc (.cells #[.slice none 0 0, .int .i64 0, .int .i64 0, .int .i64 0] 57)).heap.size = w.heap.size + 1 := by simp
  have hpos := plc_pos h0 hk
  have HG := hide (grow_any (h0.below hb1) hmr hk)
  have hlt := ltc_lt (mt := mt) h0.ll.len (c := N - k) (by omega) hk
  have H0 := hide (h0.below hb1)
  have hbs := build_seq4
  generalize Rn.plc rs (Rn.chn (Rn.fo mt rs) (N - k) k) = ps at *
  generalize Rn.ltc (Rn.fo mt rs) (N - k) k = lt at *
  obtain ⟨x, hx⟩ : ∃ x, Rn.lvl lv rs k = x := ⟨_, rfl⟩
  obtain ⟨y, hy⟩ : ∃ y, Rn.ah b lv rs k = y := ⟨_, rfl⟩
  obtain ⟨z, hz⟩ : ∃ z, Rn.bh b lv mt rs lt = z := ⟨_, rfl⟩
  rw [hx, hy, hz]
  have HX := hide hx
  have HY := hide hy
  have HZ := hide hz
  clear hx hy hz
  obtain ⟨W1, hW1⟩ : ∃ W1, w.alloc (.cells #[.slice none 0 0, .int .i64 0, .int .i64 0, .int .i64 0] 57) = W1 := ⟨_, rfl⟩
  rw [hW1] at HG H0 hb1 hnew hsz1
  have HB1 := hide hb1
  have HNEW := hide hnew
  clear h0 hb1 hnew
  go_enter Tryz.func65, Tryz.ntmps65
  go_wp2_with fail
  refine HG.out.mono ?_
  rintro e W2 ⟨v, rfl, hown, hb2⟩
  rw [hsz1] at hown hb2
  have h2 : PG W2 p b lv mt rs bl bm n ao N cap mp := H0.out.below (by rw [hsz1]; exact hb2)
  have hq2 : W2.heap[w.heap.size]? = some (.cells #[.slice none 0 0, .int .i64 0, .int .i64 0, .int .i64 0] 57 (0, 0)) := (hb2.block _ (by omega)).trans HNEW.out
  have HB2 := hide (show Below w.heap.size w W2 from HB1.out.trans (hb2.mono (by omega)))
  obtain ⟨g, cp, rfl, hgl, _⟩ := owns_pos hown hpos
  have HROW := hide hown
  have HL := hide (level_any h2 hk)
  have HA := hide (fun q => ahead_any (h2.drewN q) hk)
  have HBH := hide (fun q => behind_any (h2.drewN q) hlt)
  have HS := hide (fun x y W' => rside_any x y W')
  rw [HX.out] at HL
  rw [HY.out] at HA
  rw [HZ.out] at HBH
  have HQ2 := hide hq2
  have q0 : ∀ q, (W2.drewN q).cell? ⟨w.heap.size, 0, none⟩ = some (.slice none 0 0) := fun q => by show W2.cell? _ = _; simp [World.cell?, hq2]
  have q1 : ∀ q, (W2.drewN q).cell? ⟨w.heap.size, 1, none⟩ = some (.int .i64 0) := fun q => by show W2.cell? _ = _; simp [World.cell?, hq2]
  have q2 : ∀ q, (W2.drewN q).cell? ⟨w.heap.size, 2, none⟩ = some (.int .i64 0) := fun q => by show W2.cell? _ = _; simp [World.cell?, hq2]
  have q3 : ∀ q, (W2.drewN q).cell? ⟨w.heap.size, 3, none⟩ = some (.int .i64 0) := fun q => by show W2.cell? _ = _; simp [World.cell?, hq2]
  have f0 : ∀ q j, (W2.drewN q).frozen? ⟨w.heap.size, j, none⟩ = false := fun q j => by show W2.frozen? _ = _; simp [World.frozen?, hq2]
  clear h2 hq2 HG H0 hown hW1 hb2
  go_wp2_with (first
    | (go_at_call 87; refine HL.out.mono ?_; rintro e w' ⟨rfl, qa, rfl⟩)
    | (go_at_call 89; refine (HA.out _).mono ?_; rintro e w' ⟨rfl, qb, rfl⟩)
    | (go_at_call 88; refine (HS.out _ _ _).mono ?_; rintro e w' ⟨rfl, rfl⟩)
    | (go_at_call 90; refine (HBH.out _).mono ?_; rintro e w' ⟨rfl, qc, rfl⟩))
  have hqq : (W2.drewN (qa + qb + qc)).heap[w.heap.size]? = some (.cells #[.slice none 0 0, .int .i64 0, .int .i64 0, .int .i64 0] 57 (0, 0)) := HQ2.out
  have hne : ¬ g = w.heap.size := by omega
  have hor := owns_below HROW.out (below_drewN W2 (qa + qb + qc))
  have hbel : Below w.heap.size w (W2.drewN (qa + qb + qc)) := KO.on HB2.out (below_drewN W2 _)
  exact bodyPost_ret (sresults1 Tryz.results65 _ _ _ w.heap.size _ rfl (seq_out hqq g ps.length cp x _ _)) rfl ⟨g, cp, rfl, owns_mono (owns_other (owns_other (owns_other (owns_other hor hne) hne) hne) hne) (by omega), (((hbel.setCell (p := ⟨w.heap.size, 0, none⟩) (Nat.le_refl _) _).setCell (p := ⟨w.heap.size, 1, none⟩) (Nat.le_refl _) _).setCell (p := ⟨w.heap.size, 2, none⟩) (Nat.le_refl _) _).setCell (p := ⟨w.heap.size, 3, none⟩) (Nat.le_refl _) _⟩
end
end Go.Proofs.YtfadjgaledddjaaGreatDoor

/- Lists of sequences in memory; Sequences. -/
namespace Go.Proofs.YtfadjgaledddjaaGreatDoor
open Go.RowKit Go.Maps
set_option linter.unusedVariables false
set_option maxHeartbeats 1000000
set_option maxRecDepth 100000
namespace Rn
structure Sq where
  places : List Nat
  lvl : Int
  sos : Int
  eos : Int
instance : Inhabited Sq := ⟨⟨[], 0, 0, 0⟩⟩
/-- The sequence that begins with a run. -/
def sq (b : Int) (lv mt : List Int) (rs : List (List Nat)) (k : Nat) : Sq :=
  ⟨plc rs (chn (fo mt rs) (rs.length - k) k), lvl lv rs k, sd (lvl lv rs k) (ah b lv rs k), sd (lvl lv rs k) (bh b lv mt rs (ltc (fo mt rs) (rs.length - k) k))⟩
/-- Those that begin among the first k runs. -/
def sqs (b : Int) (lv mt : List Int) (rs : List (List Nat)) (k : Nat) : List Sq := ((List.range k).filter (bg mt rs)).map (sq b lv mt rs)
theorem sqs_yes {b : Int} {lv mt : List Int} {rs : List (List Nat)} {k : Nat} (h : bg mt rs k = true) : sqs b lv mt rs (k + 1) = sqs b lv mt rs k ++ [sq b lv mt rs k] := by
  unfold sqs
  rw [List.range_succ, List.filter_append, List.map_append]
  simp [h]
theorem sqs_no {b : Int} {lv mt : List Int} {rs : List (List Nat)} {k : Nat} (h : bg mt rs k = false) : sqs b lv mt rs (k + 1) = sqs b lv mt rs k := by
  unfold sqs
  rw [List.range_succ, List.filter_append, List.map_append]
  simp [h]
theorem sqs_len (b : Int) (lv mt : List Int) (rs : List (List Nat)) (k : Nat) : (sqs b lv mt rs k).length ≤ k := by
  unfold sqs
  rw [List.length_map]
  exact Nat.le_trans (List.length_filter_le _ _) (by simp)
end Rn
/-- A sequence's cells. -/
def sc (h : Nat × Nat) (s : Rn.Sq) : List Value := [.slice (some ⟨h.1, 0, none⟩) s.places.length h.2, .int .i64 s.lvl, .int .i64 s.sos, .int .i64 s.eos]
def scs (hs : List (Nat × Nat)) (ss : List Rn.Sq) : List Value := (List.zipWith sc hs ss).flatten
theorem scs_snoc {hs : List (Nat × Nat)} {ss : List Rn.Sq} (h : hs.length = ss.length) (a : Nat × Nat) (s : Rn.Sq) : scs (hs ++ [a]) (ss ++ [s]) = scs hs ss ++ sc a s := by
  unfold scs
  rw [List.zipWith_append h]
  simp
theorem scs_at : ∀ (hs : List (Nat × Nat)) (ss : List Rn.Sq) (j i : Nat), hs.length = ss.length → j < ss.length → i < 4 → (scs hs ss)[j * 4 + i]? = (sc (hs.getD j (0, 0)) (ss.getD j default))[i]? := by
  intro hs
  induction hs with
  | nil => intro ss j i h hj; simp at h; rw [← h] at hj; omega
  | cons a t ih =>
    intro ss j i h hj hi
    cases ss with
    | nil => simp at hj
    | cons s r =>
      have e : scs (a :: t) (s :: r) = sc a s ++ scs t r := by simp [scs]
      rw [e]
      cases j with
      | zero => rw [List.getElem?_append_left (by simp [sc]; omega)]; simp [List.getD]
      | succ j =>
        rw [List.getElem?_append_right (by simp [sc]; omega)]
        have := ih r j i (by simpa using h) (by simpa using hj) hi
        rw [show (j + 1) * 4 + i - (sc a s).length = j * 4 + i from by simp [sc]; omega, this]
        simp [List.getD]
theorem own_types4 {w : World} {B B' e e' z z' n m : Nat} {v u : Value} {xs ys : List Value} (h : w.ownsRow B e z v n xs) (h' : w.ownsRow B' e' z' u m ys) (hne : ¬ e = e') (g : Nat) (h1 : v.ownBlock = some g) : ¬ u.ownBlock = some g := by
  intro h2
  rcases h.2 with ⟨rfl, _⟩ | ⟨a, cap, cur, rfl, _, ha, _⟩
  · simp [Value.ownBlock] at h1
  · rcases h'.2 with ⟨rfl, _⟩ | ⟨a', cap', cur', rfl, _, ha', _⟩
    · simp [Value.ownBlock] at h2
    · simp [Value.ownBlock] at h1 h2
      subst h1 h2
      rw [ha] at ha'
      simp at ha'
      exact hne ha'.2
structure SO (B : Nat) (w : World) (v : Value) (hs : List (Nat × Nat)) (ss : List Rn.Sq) : Prop where
  oa : w.ownsRow B 57 4 v ss.length (scs hs ss)
  lh : hs.length = ss.length
  rows : ∀ j, j < ss.length → w.ownsRow B 3 1 (.slice (some ⟨(hs.getD j (0, 0)).1, 0, none⟩) (ss.getD j default).places.length (hs.getD j (0, 0)).2) (ss.getD j default).places.length ((Rn.zs (ss.getD j default).places).map (Value.int .i64))
section
variable {B : Nat} {w : World} {v : Value} {hs : List (Nat × Nat)} {ss : List Rn.Sq}
theorem SO.begin (B : Nat) (w : World) : SO B w (.slice none 0 0) [] [] := ⟨World.ownsRow_nil _ _ _ _, rfl, fun j hj => by simp at hj⟩
theorem SO.below (h : SO B w v hs ss) {w' : World} (hb : Below w.heap.size w w') : SO B w' v hs ss := ⟨owns_below h.oa hb, h.lh, fun j hj => owns_below (h.rows j hj) hb⟩
theorem SO.mono {B' : Nat} (h : SO B w v hs ss) (hB : B' ≤ B) : SO B' w v hs ss := ⟨owns_mono h.oa hB, h.lh, fun j hj => owns_mono (h.rows j hj) hB⟩
theorem SO.push (h : SO B w v hs ss) {w' : World} {v' : Value} {g cp : Nat} {s : Rn.Sq} (hr : w.ownsRow B 3 1 (.slice (some ⟨g, 0, none⟩) s.places.length cp) s.places.length ((Rn.zs s.places).map (Value.int .i64)))
    (ho : w'.ownsRow B 57 4 v' (ss.length + 1) (scs hs ss ++ sc (g, cp) s)) (hg : w.grownBy w' v.ownBlock) : SO B w' v' (hs ++ [(g, cp)]) (ss ++ [s]) := by
  have key : ∀ {u : Value} {m : Nat} {ys : List Value}, w.ownsRow B 3 1 u m ys → w'.ownsRow B 3 1 u m ys := by
    intro u m ys hu
    refine hu.kept hg ?_
    cases hx : u.ownBlock with
    | none => exact .inl rfl
    | some q => exact .inr (fun h1 => own_types4 h.oa hu (by decide) q h1.symm hx)
  refine ⟨by rw [scs_snoc h.lh, List.length_append]; exact ho, by simp [h.lh], fun j hj => ?_⟩
  by_cases hj2 : j < ss.length
  · have e1 : (hs ++ [(g, cp)]).getD j (0, 0) = hs.getD j (0, 0) := by simp [List.getD, List.getElem?_append_left (show j < hs.length by rw [h.lh]; exact hj2)]
    have e2 : (ss ++ [s]).getD j default = ss.getD j default := by simp [List.getD, List.getElem?_append_left hj2]
    rw [e1, e2]
    exact key (h.rows j hj2)
  · obtain rfl : j = ss.length := by simp at hj; omega
    have e1 : (hs ++ [(g, cp)]).getD ss.length (0, 0) = (g, cp) := by simp [List.getD, ← h.lh]
    have e2 : (ss ++ [s]).getD ss.length default = s := by simp [List.getD]
    rw [e1, e2]
    exact key hr
end
/-- A list of sequences as it is read. -/
structure SL (w : World) (ao : Option Addr) (n cap : Nat) (ss : List Rn.Sq) : Prop where
  len : ss.length = n
  le : n ≤ cap
  at' : ∀ j, j < n → ∃ g gj cj, ao = some ⟨g, 0, none⟩ ∧ g < w.heap.size ∧ w.cell? ⟨g, j * 4, none⟩ = some (.slice (some ⟨gj, 0, none⟩) (ss.getD j default).places.length cj) ∧ w.cell? ⟨g, j * 4 + 1, none⟩ = some (.int .i64 (ss.getD j default).lvl) ∧ w.cell? ⟨g, j * 4 + 2, none⟩ = some (.int .i64 (ss.getD j default).sos) ∧ w.cell? ⟨g, j * 4 + 3, none⟩ = some (.int .i64 (ss.getD j default).eos) ∧ Row .i64 w (some ⟨gj, 0, none⟩) (ss.getD j default).places.length cj (Rn.zs (ss.getD j default).places)
theorem SL.below {w : World} {ao : Option Addr} {n cap : Nat} {ss : List Rn.Sq} (h : SL w ao n cap ss) {w' : World} (hb : Below w.heap.size w w') : SL w' ao n cap ss :=
  ⟨h.len, h.le, fun j hj => by
    obtain ⟨g, gj, cj, h1, h2, h3, h4, h5, h6, h7⟩ := h.at' j hj
    exact ⟨g, gj, cj, h1, Nat.lt_of_lt_of_le h2 hb.size, (hb.cell (by exact h2)).trans h3, (hb.cell (by exact h2)).trans h4, (hb.cell (by exact h2)).trans h5, (hb.cell (by exact h2)).trans h6, h7.below hb⟩⟩
theorem SO.view {B : Nat} {w : World} {v : Value} {hs : List (Nat × Nat)} {ss : List Rn.Sq} (h : SO B w v hs ss) : ∃ ao cap, v = .slice ao ss.length cap ∧ SL w ao ss.length cap ss := by
  obtain ⟨ao, cap, rfl, hle⟩ := owns_form h.oa
  refine ⟨ao, cap, rfl, rfl, hle, fun j hj => ?_⟩
  obtain ⟨g, c2, e, _, _⟩ := owns_pos h.oa (by omega)
  simp only [Value.slice.injEq] at e
  obtain ⟨rfl, _, rfl⟩ := e
  have hlen : (scs hs ss).length = ss.length * 4 := h.oa.1
  have key : ∀ i, i < 4 → w.cell? ⟨g, j * 4 + i, none⟩ = (sc (hs.getD j (0, 0)) (ss.getD j default))[i]? := fun i hi => by
    rw [h.oa.cellAt (j * 4 + i) (by omega)]
    exact scs_at hs ss j i h.lh hj hi
  exact ⟨g, (hs.getD j (0, 0)).1, (hs.getD j (0, 0)).2, rfl, (h.oa.lt g rfl).2, key 0 (by omega), key 1 (by omega), key 2 (by omega), key 3 (by omega), row_owned (h.rows j hj)⟩
end Go.Proofs.YtfadjgaledddjaaGreatDoor

/- Sequences. -/
namespace Go.Proofs.YtfadjgaledddjaaGreatDoor
open Go.RowKit Go.Maps
set_option linter.unusedVariables false
set_option maxHeartbeats 1000000
set_option maxRecDepth 100000
theorem seqInfo3 : (Tryz.prog.info? 57).map (fun i => (i.zero, i.size, i.bytes)) = some (some (.agg #[.slice none 0 0, .int .i64 0, .int .i64 0, .int .i64 0]), 4, 48) := by kernel_rfl
theorem build_seq1 (ao : Option Addr) (n cap : Nat) (x y z : Int) (w : World) : (Instr.buildSlice 52 1 #[(0, .agg #[.slice ao n cap, .int .i64 x, .int .i64 y, .int .i64 z])]).run Tryz.prog w = .ok (.slice (some ⟨w.heap.size, 0, none⟩) 1 1) (w.alloc (.cells #[.slice ao n cap, .int .i64 x, .int .i64 y, .int .i64 z] 57)) := by
  have hq := seqInfo3
  cases hi : Tryz.prog.info? 57 with
  | none => rw [hi] at hq; cases hq
  | some ie =>
    rw [hi] at hq
    simp only [Option.map_some, Option.some.injEq, Prod.mk.injEq] at hq
    refine run_buildSlice w 52 57 1 _ _ ie _ Tryz.underlying52 hi hq.1 (by rw [hq.2.1]; decide) (by rw [hq.2.1]; decide) ?_
    rw [hq.2.1]
    kernel_rfl
theorem build_para (b : Int) (a1 a2 a3 : Option Addr) (n1 n2 n3 c1 c2 c3 : Nat) (w : World) : (Instr.build 110 #[(0, .int .i64 b), (1, .slice a1 n1 c1), (2, .slice a2 n2 c2), (3, .slice a3 n3 c3)]).run Tryz.prog w = .ok (.agg #[.int .i64 b, .slice a1 n1 c1, .slice a2 n2 c2, .slice a3 n3 c3, .map none]) w := run_build w 110 _ _ (by kernel_rfl)
theorem cells_new (w : World) (l : List Value) (t : TypeId) : ∀ j u, l[j]? = some u → (w.alloc (.cells l.toArray t)).cell? ((⟨w.heap.size, 0, none⟩ : Addr).add j) = some u := by
  intro j u hj
  have hadd : (⟨w.heap.size, 0, none⟩ : Addr).add j = ⟨w.heap.size, j, none⟩ := by unfold Addr.add; split <;> simp_all
  rw [hadd, World.cell?_alloc_mark]
  simpa using hj
theorem sc_one (h : Nat × Nat) (s : Rn.Sq) : ∀ u ∈ sc h s, u.oneCell' = true := by
  intro u hu
  simp [sc] at hu
  rcases hu with rfl | rfl | rfl | rfl <;> rfl
theorem sequences_arg (ao : Option Addr) (n cap : Nat) (b : Int) (w : World) (hb : ¬ b = 0 ∧ ¬ b = 1) :
    Calls Tryz.prog 30 #[.slice ao n cap, .int .i64 b] w fun e w' => e = .returned (.tuple #[.slice none 0 0, .int .i64 2]) ∧ w = w' := by
  have HR := hide (resolve_arg ao n cap b w hb)
  go_enter Tryz.func30, Tryz.ntmps30
  go_wp2_with (go_at_call 29; refine HR.out.mono ?_; rintro e w' ⟨rfl, rfl⟩)
  go_ret2
  exact ⟨rfl, rfl⟩
theorem sequences_form (ao : Option Addr) (n cap : Nat) (c : List Int) (b : Int) (w : World) (h : Row .i64 w ao n cap c) (hn : n * 8 ≤ 140737488351232) (hb : b = 0 ∨ b = 1) (hF : ¬ Ex.Formed c) :
    Calls Tryz.prog 30 #[.slice ao n cap, .int .i64 b] w fun e w' => e = .returned (.tuple #[.slice none 0 0, .int .i64 50]) ∧ w = w' := by
  have HR := hide (resolve_form ao n cap c b w h hn hb hF)
  clear h hn hb hF
  go_enter Tryz.func30, Tryz.ntmps30
  go_wp2_with (go_at_call 29; refine HR.out.mono ?_; rintro e w' ⟨rfl, rfl⟩)
  go_ret2
  exact ⟨rfl, rfl⟩
/-- The paragraph, once its map is there. -/
theorem PG.make {w W W5 : World} {b : Int} {lv mt : List Int} {bl bm n : Nat} {ao : Option Addr} {cap : Nat} (rl : Row .i64 W (some ⟨bl, 0, none⟩) n n lv) (rm : Row .i64 W (some ⟨bm, 0, none⟩) n n mt) (ll : LL W ao (Rn.RS lv).length cap (Rn.RS lv)) (hn : n ≤ 2000)
    (hb : Below (W.heap.size + 1) (W.alloc (.cells #[.int .i64 b, .slice (some ⟨bl, 0, none⟩) n n, .slice (some ⟨bm, 0, none⟩) n n, .slice ao (Rn.RS lv).length cap, .map none] 110)) W5)
    (hm : ∃ D, W5.ownsMap Tryz.prog 3 (plainElem Tryz.prog 3) (W.heap.size + 1) (Rn.RS lv).length D ∧ MD (Rn.RS lv) (Rn.RS lv).length D) :
    PG (W5.setCell ⟨W.heap.size, 4, none⟩ (.map (some (W.heap.size + 1)))) W.heap.size b lv mt (Rn.RS lv) bl bm n ao (Rn.RS lv).length cap (W.heap.size + 1) ∧ W5.cell? ⟨W.heap.size, 3, none⟩ = some (.slice ao (Rn.RS lv).length cap) ∧ W5.cell? ⟨W.heap.size, 4, none⟩ = some (.map none) ∧ W5.frozen? ⟨W.heap.size, 4, none⟩ = false ∧ Below W.heap.size W (W5.setCell ⟨W.heap.size, 4, none⟩ (.map (some (W.heap.size + 1)))) := by
  have h1 : (W.alloc (.cells #[.int .i64 b, .slice (some ⟨bl, 0, none⟩) n n, .slice (some ⟨bm, 0, none⟩) n n, .slice ao (Rn.RS lv).length cap, .map none] 110)).heap[W.heap.size]? = some (.cells #[.int .i64 b, .slice (some ⟨bl, 0, none⟩) n n, .slice (some ⟨bm, 0, none⟩) n n, .slice ao (Rn.RS lv).length cap, .map none] 110 (0, 0)) := heap_alloc_new _ _
  have h5 := (hb.block W.heap.size (by omega)).trans h1
  have h6 := sset_heap (j := 4) h5 (.map (some (W.heap.size + 1)))
  have hbel : Below W.heap.size W (W5.setCell ⟨W.heap.size, 4, none⟩ (.map (some (W.heap.size + 1)))) := (((Below.refl W.heap.size W).alloc (Nat.le_refl _) _).trans (hb.mono (by omega))).setCell (p := ⟨W.heap.size, 4, none⟩) (Nat.le_refl _) _
  obtain ⟨D, hD1, hD2⟩ := hm
  refine ⟨⟨?_, ?_, ?_, ?_, ?_, (Array.getElem?_eq_some_iff.1 h6).1, rl.below hbel, rm.below hbel, ll.below hbel, ⟨D, hD1.setCell (by simp) _, hD2⟩, Rn.runs_of lv, hn⟩, ?_, ?_, ?_, hbel⟩
  · simp [World.cell?, h6]
  · simp [World.cell?, h6]
  · simp [World.cell?, h6]
  · simp [World.cell?, h6]
  · simp [World.cell?, h6]
  · simp [World.cell?, h5]
  · simp [World.cell?, h5]
  · simp [World.frozen?, h5]
theorem mt_range (c : List Int) : ∀ i, i < c.length → -1 ≤ (Iso.MT c).getD i 0 ∧ (Iso.MT c).getD i 0 ≤ (c.length : Int) := by
  intro i hi
  rw [Iso.MT_at c i hi]
  unfold Iso.mt
  have h1 := Iso.partner_le c i hi
  have h2 := Iso.hd_range c i
  split
  · omega
  · split
    · omega
    · omega
theorem fst_apart {lv : List Int} {rs : List (List Nat)} (h : Rn.Runs lv rs) : ∀ j i, i < j → j < rs.length → Rn.fst rs i < Rn.fst rs j := by
  have step : ∀ j, j + 1 < rs.length → Rn.fst rs j < Rn.fst rs (j + 1) := by
    intro j hj
    have h1 := (h.outer j hj).1.1
    have h2 : ∀ m, m < (Rn.rn rs j).length → Rn.fst rs j ≤ (Rn.rn rs j).getD m 0 := by
      intro m
      induction m with
      | zero => intro _; exact Nat.le_refl _
      | succ m ih =>
        intro hm
        have := (h.inner j m (by omega) hm).1
        have := ih (by omega)
        omega
    have h3 := h2 ((Rn.rn rs j).length - 1) (by have := h.pos j (by omega); omega)
    have h4 : (Rn.rn rs j).getD ((Rn.rn rs j).length - 1) 0 = Rn.lst rs j := rfl
    omega
  intro j
  induction j with
  | zero => intro i hi; omega
  | succ j ih =>
    intro i hi hj
    by_cases hij : i = j
    · subst hij; exact step i hj
    · have := ih i (by omega) (by omega)
      have := step j hj
      omega
end Go.Proofs.YtfadjgaledddjaaGreatDoor

/- Sequences, of a paragraph. -/
namespace Go.Proofs.YtfadjgaledddjaaGreatDoor
open Go.RowKit Go.Maps
set_option linter.unusedVariables false
set_option maxHeartbeats 1000000
set_option maxRecDepth 100000
/-- What Sequences keeps. -/
structure QI (X : World) (b : Int) (lv mt : List Int) (rs : List (List Nat)) (k : Nat) (v : Value) (wr : World) : Prop where
  so : ∃ hs, SO X.heap.size wr v hs (Rn.sqs b lv mt rs k)
  bel : Below X.heap.size X wr
theorem sequences_own (ao : Option Addr) (n cap0 : Nat) (c : List Int) (b : Int) (w : World) (h : Row .i64 w ao n cap0 c) (hn : n ≤ 2000) (hb : b = 0 ∨ b = 1) (hF : Ex.Formed c) :
    Calls Tryz.prog 30 #[.slice ao n cap0, .int .i64 b] w fun e w' => ∃ sa cs, e = .returned (.tuple #[.slice sa (Rn.sqs b (Ex.LV b c) (Iso.MT c) (Rn.RS (Ex.LV b c)) (Rn.RS (Ex.LV b c)).length).length cs, .int .i64 0]) ∧ (∃ hs, SO w.heap.size w' (.slice sa (Rn.sqs b (Ex.LV b c) (Iso.MT c) (Rn.RS (Ex.LV b c)) (Rn.RS (Ex.LV b c)).length).length cs) hs (Rn.sqs b (Ex.LV b c) (Iso.MT c) (Rn.RS (Ex.LV b c)) (Rn.RS (Ex.LV b c)).length)) ∧ Below w.heap.size w w' := by
  have hlen := h.len
  have HR := hide (resolve_ok ao n cap0 c b w h (by omega) hb hF)
  have HM := hide (fun w' (hk : KO w w') => match_any ao n cap0 c w' (h.below hk) (by omega))
  have hmr := mt_range c
  rw [hlen] at hmr
  have HMR := hide hmr
  have HLL := hide (fun ao' w' (h' : Row .i64 w' ao' n n (Ex.LV b c)) => levels_any ao' n n (Ex.LV b c) w' h' (by omega))
  have hrl : (Rn.RS (Ex.LV b c)).length ≤ n := by
    have h1 := Rn.R_len (Ex.LV b c) (Ex.LV b c).length
    rw [Ex.LV_len] at h1
    unfold Rn.RS
    rw [Ex.LV_len, ← hlen]
    exact h1
  have HLVL := hide (show (Ex.LV b c).length = n from by rw [Ex.LV_len, hlen])
  generalize Ex.LV b c = lv at *
  generalize Iso.MT c = mt at *
  have hR := Rn.runs_of lv
  have hfb : ∀ j, j < (Rn.RS lv).length → Rn.fst (Rn.RS lv) j ≤ 17592186044416 := fun j hj => by
    have := (hR.kept j 0 hj (hR.pos j hj)).1
    rw [HLVL.out] at this
    have e : (Rn.rn (Rn.RS lv) j).getD 0 0 = Rn.fst (Rn.RS lv) j := rfl
    omega
  have hfd : ∀ i j, i < j → j < (Rn.RS lv).length → ¬ Rn.fst (Rn.RS lv) i = Rn.fst (Rn.RS lv) j := fun i j hij hj e => by have := fst_apart hR j i hij hj; omega
  have HFI := hide (fun ao' cap' w' (h' : LL w' ao' (Rn.RS lv).length cap' (Rn.RS lv)) => firsts_any ao' (Rn.RS lv).length cap' (Rn.RS lv) w' h' (by omega) hR.pos hfb hfd)
  have HPOS := hide hR.pos
  have HMK := hide (fun (W W5 : World) (bl bm : Nat) (aoo : Option Addr) (capp : Nat) => PG.make (w := w) (W := W) (W5 := W5) (b := b) (lv := lv) (mt := mt) (bl := bl) (bm := bm) (n := n) (ao := aoo) (cap := capp))
  have hbp := build_para
  have hbs := build_seq1
  obtain ⟨ii, hii, hy0, hy1, hy2⟩ := info_parts seqInfo3
  have HII := hide hii
  have HY0 := hide hy0
  have HY1 := hide hy1
  have HY2 := hide hy2
  generalize Rn.RS lv = rs at *
  generalize hNN : rs.length = N at *
  have HNN := hide hNN
  clear h hF hR hfb hfd hmr hii hy0 hy1 hy2 hNN hlen hb
  go_enter Tryz.func30, Tryz.ntmps30
  go_wp2_with fail
  refine HR.out.mono ?_
  rintro e w1 ⟨bl, bt, rfl, rl, rt, hb1⟩
  have HM1 := hide (HM.out w1 hb1)
  have HB1 := hide hb1
  have HRL := hide rl
  clear rl rt hb1 HR HM
  go_wp2_with fail
  refine HM1.out.mono ?_
  rintro e w2 ⟨rfl, hom, hb2⟩
  have HRM := hide (row_owned hom)
  have HRL2 := hide (HRL.out.below hb2)
  have HB2 := hide (KO.on HB1.out hb2)
  have HL2 := hide (HLL.out _ w2 HRL2.out)
  clear hom hb2 HM1 HB1 HRL
  go_wp2_with fail
  refine HL2.out.mono ?_
  rintro e w3 ⟨v, rfl, ⟨vs, hlo⟩, hb3⟩
  obtain ⟨a3, cap3, rfl, ll⟩ := hlo.view (by rw [HNN.out]; exact HPOS.out)
  rw [HNN.out] at ll ⊢
  have rl3 := HRL2.out.below hb3
  have rm3 := HRM.out.below hb3
  have HB3 := hide (KO.on HB2.out hb3)
  have hsz4 : ∀ o : Obj, (w3.alloc o).heap.size = w3.heap.size + 1 := fun o => by simp
  have HF4 := hide (fun o => HFI.out a3 cap3 (w3.alloc o) (ll.below ((Below.refl _ _).alloc (Nat.le_refl _) o)))
  have HMK4 := hide (fun W5 => HMK.out w3 W5 bl w1.heap.size a3 cap3 rl3 rm3 ll hn)
  clear hlo hb3 HRL2 HRM HB2 HL2 HLL HMK HFI rl3 rm3 ll
  go_wp2_with fail
  refine (HF4.out _).mono ?_
  rintro e w5 ⟨rfl, hmap, hb5⟩
  rw [hsz4] at hmap hb5 ⊢
  obtain ⟨hpg, c3, c4, f4, hbx⟩ := HMK4.out w5 hb5 hmap
  obtain ⟨X, hX⟩ : ∃ X, w5.setCell ⟨w3.heap.size, 4, none⟩ (.map (some (w3.heap.size + 1))) = X := ⟨_, rfl⟩
  rw [hX] at hpg hbx
  generalize hpp : w3.heap.size = p at *
  have HPG := hide hpg
  have HBX := hide (show KO w X from HB3.out.on (by rw [hpp]; exact hbx))
  have x3 := hpg.c3
  have hN2 := hpg.le
  clear hmap hb5 HMK4 HF4 hpg hbx HB3 hpp hsz4
  go_wp2
  go_loopw [10, 43] (fun v i wr => ∃ k : Nat, k ≤ N ∧ i = .int .i64 (k : Int) ∧ Hid (QI X b lv mt rs k v wr)) (fun _ i _ => N - (intOf i).toNat)
  case atStart => exact ⟨0, Nat.zero_le _, rfl, hide ⟨⟨[], SO.begin _ _⟩, Below.refl _ _⟩⟩
  case round =>
    obtain ⟨k, hk, rfl, hm⟩ := hrel
    obtain ⟨⟨hs, hso⟩, hbw⟩ := hm.out
    obtain ⟨av, cv, rfl, hav⟩ := owns_form hso.oa
    have HSO := hide hso
    have HBW := hide hbw
    have hsl := Rn.sqs_len b lv mt rs k
    by_cases hlt : k < N
    · have hpw := HPG.out.below hbw
      have HBE := hide (begins_any hpw hlt)
      have HSE := hide (sequence_any hpw HMR.out hlt)
      have hin : (k : Int) < (N : Int) := by omega
      have hszX : X.heap.size ≤ wr.heap.size := hbw.size
      cases hbg : Rn.bg mt rs k with
      | false =>
        rw [hbg] at HBE
        have HQ : Hid (QI X b lv mt rs (k + 1) (.slice av (Rn.sqs b lv mt rs k).length cv) wr) := ⟨⟨hs, by rw [Rn.sqs_no hbg]; exact hso⟩, hbw⟩
        clear hm hso hbw hpw hbg HSE HSO
        generalize (Rn.sqs b lv mt rs k).length = L at *
        go_wp2_with (go_at_call 64; refine HBE.out.mono ?_; rintro e w' ⟨rfl, rfl⟩)
        go_roundw
        case rel => exact ⟨k + 1, by omega, by go_num, HQ⟩
        case measure => simp [intOf]; omega
      | true =>
        rw [hbg] at HBE
        have HSY := hide (Rn.sqs_yes (b := b) (lv := lv) hbg)
        have hsq : Rn.sq b lv mt rs k = ⟨Rn.plc rs (Rn.chn (Rn.fo mt rs) (N - k) k), Rn.lvl lv rs k, Rn.sd (Rn.lvl lv rs k) (Rn.ah b lv rs k), Rn.sd (Rn.lvl lv rs k) (Rn.bh b lv mt rs (Rn.ltc (Rn.fo mt rs) (N - k) k))⟩ := by unfold Rn.sq; rw [HNN.out]
        rw [hsq] at HSY
        have HOA := hide hso.oa
        generalize Rn.plc rs (Rn.chn (Rn.fo mt rs) (N - k) k) = ps at *
        generalize Rn.sd (Rn.lvl lv rs k) (Rn.ah b lv rs k) = y at *
        generalize Rn.sd (Rn.lvl lv rs k) (Rn.bh b lv mt rs (Rn.ltc (Rn.fo mt rs) (N - k) k)) = z at *
        generalize Rn.lvl lv rs k = x at *
        generalize hLL : (Rn.sqs b lv mt rs k).length = L at *
        have HLE := hide hLL
        have hpx : ∀ (w' : World) (hb' : Below wr.heap.size wr w'), SO X.heap.size w' (.slice av L cv) hs (Rn.sqs b lv mt rs k) := fun w' hb' => HSO.out.below hb'
        have HPX := hide hpx
        clear hm hso hbw hpw hbg hsq hLL hpx
        go_wp2_with (first
          | (go_at_call 64; refine HBE.out.mono ?_; rintro e w' ⟨rfl, rfl⟩)
          | (go_at_call 65; refine HSE.out.mono ?_; rintro e w6 ⟨g6, c6, rfl, how6, hb6⟩; have hs6 := HPX.out w6 hb6; have hz6 := hb6.size)
          | (at_builtin; refine wpList_append_own_at _ rfl (.tmp 49) (.tmp 53) 52 rfl X.heap.size 57 ii _ 4 48 Tryz.underlying52 HII.out HY0.out HY1.out HY2.out rfl (by decide) (.slice av L cv) L (scs hs (Rn.sqs b lv mt rs k)) rfl (show (w6.alloc (.cells (sc (g6, c6) ⟨ps, x, y, z⟩).toArray 57)).ownsRow X.heap.size 57 4 (.slice av L cv) L (scs hs (Rn.sqs b lv mt rs k)) from (by rw [← HLE.out]; rw [← HLE.out] at hs6; exact hs6.oa.alloc _)) ⟨w6.heap.size, 0, none⟩ 1 1 (sc (g6, c6) ⟨ps, x, y, z⟩) rfl rfl (cells_new w6 (sc (g6, c6) ⟨ps, x, y, z⟩) 57) (sc_one _ _) (by unfold maxLen; omega) (by omega) (by simp; omega) ?_; intro v7 w7 ho7 hg7 _ _; obtain ⟨g7, c7, rfl, _, _⟩ := owns_pos ho7 (by omega)))
        go_roundw
        case rel =>
          refine ⟨k + 1, by omega, by go_num, hide ⟨⟨hs ++ [(g6, c6)], ?_⟩, ?_⟩⟩
          · rw [HSY.out]
            refine (hs6.below ((Below.refl _ _).alloc (Nat.le_refl _) _)).push (s := ⟨ps, x, y, z⟩) (owns_below (owns_mono how6 hszX) ((Below.refl _ _).alloc (Nat.le_refl _) _)) ?_ hg7
            rw [HLE.out]
            exact ho7
          · exact grown_alloc (HBW.out.trans (hb6.mono hszX)) (by omega) hg7 (fun q hq => (HOA.out.lt q hq).1)
        case measure => simp [intOf]; omega
    · obtain rfl : k = N := by omega
      have hne : ¬ ((k : Int) < (k : Int)) := by omega
      have HSL := hide (show ∃ hs, SO w.heap.size wr (.slice av (Rn.sqs b lv mt rs k).length cv) hs (Rn.sqs b lv mt rs k) from ⟨hs, hso.mono HBX.out.size⟩)
      have HB := hide (KO.on HBX.out hbw)
      clear hm hso hbw hlt HSO HBW hav
      generalize hLL : (Rn.sqs b lv mt rs k).length = L at *
      have HLE := hide hLL
      clear hLL
      go_wp2
      go_ret2
      have hq := HLE.out
      subst hq
      exact ⟨av, cv, rfl, HSL.out, HB.out⟩
theorem sequences_ok (ao : Option Addr) (n cap0 : Nat) (c : List Int) (b : Int) (w : World) (h : Row .i64 w ao n cap0 c) (hn : n ≤ 2000) (hb : b = 0 ∨ b = 1) (hF : Ex.Formed c) :
    Calls Tryz.prog 30 #[.slice ao n cap0, .int .i64 b] w fun e w' => ∃ sa cs, e = .returned (.tuple #[.slice sa (Rn.sqs b (Ex.LV b c) (Iso.MT c) (Rn.RS (Ex.LV b c)) (Rn.RS (Ex.LV b c)).length).length cs, .int .i64 0]) ∧ SL w' sa (Rn.sqs b (Ex.LV b c) (Iso.MT c) (Rn.RS (Ex.LV b c)) (Rn.RS (Ex.LV b c)).length).length cs (Rn.sqs b (Ex.LV b c) (Iso.MT c) (Rn.RS (Ex.LV b c)) (Rn.RS (Ex.LV b c)).length) ∧ Below w.heap.size w w' := by
  refine (sequences_own ao n cap0 c b w h hn hb hF).mono ?_
  rintro e w' ⟨sa, cs, he, ⟨hs, hso⟩, hb⟩
  obtain ⟨a2, c2, e2, hsl⟩ := hso.view
  cases e2
  exact ⟨sa, cs, he, hsl, hb⟩
end Go.Proofs.YtfadjgaledddjaaGreatDoor
