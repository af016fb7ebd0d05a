/- grow, sequence. -/
import Derived.Test.YthohbiklnknofaaGw
import Derived.Deep.Cut
namespace Go.Proofs.Ythohbiklnknofaa
open Go.RowKit Go.Maps
set_option linter.unusedVariables false
set_option maxHeartbeats 1000000
set_option maxRecDepth 100000
theorem results_cc {fn : Func} {p u : Tmp} {ty tu : TypeId} (h : fn.results = #[.cell p ty, .cell u tu]) (tmps : Array Value) (P : Program) (w : World) (g g' : Nat) (v x : Value) (hp : tmps.getD p undef = .pointer (some ⟨g, 0, none⟩)) (hu : tmps.getD u undef = .pointer (some ⟨g', 0, none⟩)) (hl : (loadVar ty ⟨g, 0, none⟩).run P w = .ok v w) (hl2 : (loadVar tu ⟨g', 0, none⟩).run P w = .ok x w) : (results fn tmps).run P w = .ok (.tuple #[v, x]) w := by
  have hp' : tmps[p]?.getD undef = .pointer (some ⟨g, 0, none⟩) := by simpa using hp
  have hu' : tmps[u]?.getD undef = .pointer (some ⟨g', 0, none⟩) := by simpa using hu
  simp [results, h, hp', hu', asAddr, hl, hl2]
theorem load_places (w : World) (g : Nat) (v : Value) (h : w.cell? ⟨g, 0, none⟩ = some v) : (loadVar 22 ⟨g, 0, none⟩).run Try.prog w = .ok v w := by
  simp [loadVar, isAgg, run_underlying Try.underlying22, h]
theorem load_last (w : World) (g : Nat) (v : Value) (h : w.cell? ⟨g, 0, none⟩ = some v) : (loadVar 3 ⟨g, 0, none⟩).run Try.prog w = .ok v w := by
  simp [loadVar, isAgg, run_underlying Try.underlying3, h]
section
variable {w : World} {p : Nat} {b : Int} {lv mt : List Int} {rs : List (List Nat)} {bl bm n : Nat} {ao : Option Addr} {N cap mp : Nat}
theorem GS.begin (w : World) (p : Nat) (u : Value) : GS w ((((((w.alloc (.cells #[.pointer (some ⟨p, 0, none⟩)] 43)).alloc (.cells #[.slice none 0 0] 22)).alloc (.cells #[.int .i64 0] 3)).alloc (.cells #[u] 65)).setCell ⟨w.heap.size + 3, 0, none⟩ (fv w.heap.size))) p (.slice none 0 0) [] 0 := by
  have z1 : (w.alloc (.cells #[.pointer (some ⟨p, 0, none⟩)] 43)).heap.size = w.heap.size + 1 := by simp
  have z2 : ((w.alloc (.cells #[.pointer (some ⟨p, 0, none⟩)] 43)).alloc (.cells #[.slice none 0 0] 22)).heap.size = w.heap.size + 2 := by simp
  have z3 : (((w.alloc (.cells #[.pointer (some ⟨p, 0, none⟩)] 43)).alloc (.cells #[.slice none 0 0] 22)).alloc (.cells #[.int .i64 0] 3)).heap.size = w.heap.size + 3 := by simp
  have nw : ∀ (X : World) (o : Obj) (s : Nat), X.heap.size = s → (X.alloc o).heap[s]? = some o := fun X o s hs => by subst hs; exact heap_alloc_new X o
  have od : ∀ (X : World) (o : Obj) (s : Nat) (r : Option Obj), s < X.heap.size → X.heap[s]? = r → (X.alloc o).heap[s]? = r := fun X o s r hs hr => (Below.heap_alloc X o s hs).trans hr
  have oth : ∀ (X : World) (a : Addr) (u : Value) (g : Nat) (o : Option Obj), ¬ a.block = g → X.heap[g]? = o → (X.setCell a u).heap[g]? = o := by
    intro X a u g o hne hX
    rw [Below.heap_setCell _ _ _ _ (fun e => hne e.symm)]; exact hX
  refine ⟨?_, ?_, ?_, ?_, World.ownsRow_nil _ _ _ _, ?_⟩
  · exact oth _ _ _ _ _ (by simp) (od _ _ _ _ (by omega) (od _ _ _ _ (by omega) (od _ _ _ _ (by omega) (nw _ _ _ rfl))))
  · exact oth _ _ _ _ _ (by simp) (od _ _ _ _ (by omega) (od _ _ _ _ (by omega) (nw _ _ _ z1)))
  · exact oth _ _ _ _ _ (by simp) (od _ _ _ _ (by omega) (nw _ _ _ z2))
  · have := heap_setCell_same _ (w.heap.size + 3) 0 #[u] 65 (fv w.heap.size) (nw _ _ _ z3)
    simpa using this
  · exact ((((((Below.refl w.heap.size w).alloc (Nat.le_refl _) _).alloc (by simp) _).alloc (by simp; omega) _).alloc (by simp; omega) _)).setCell (p := ⟨w.heap.size + 3, 0, none⟩) (by simp) _
theorem GS.out {w0 W : World} {p : Nat} {v : Value} {ps : List Nat} {l : Int} (h : GS w0 W p v ps l) : GS w0 ((W.setCell ⟨w0.heap.size + 1, 0, none⟩ v).setCell ⟨w0.heap.size + 2, 0, none⟩ (.int .i64 l)) p v ps l := (h.put (Below.refl _ _) h.own l).1
theorem grow_any (h0 : PG w p b lv mt rs bl bm n ao N cap mp) (hmr : ∀ i, i < n → -1 ≤ mt.getD i 0 ∧ mt.getD i 0 ≤ (n : Int)) {k : Nat} (hk : k < N) :
    Calls Try.prog 37 #[.pointer (some ⟨p, 0, none⟩), .int .i64 (k : Int)] w fun e w' => ∃ v, e = .returned (.tuple #[v, .int .i64 (Rn.ltc (Rn.fo mt rs) (N - k) k : Int)]) ∧ w'.ownsRow w.heap.size 3 1 v (Rn.plc rs (Rn.chn (Rn.fo mt rs) (N - k) k)).length ((Rn.zs (Rn.plc rs (Rn.chn (Rn.fo mt rs) (N - k) k))).map (Value.int .i64)) ∧ Below w.heap.size w w' := by
  have hN := h0.le
  have HM := hide (fun W v (hg : GS w W p v [] 0) => more_any h0 hmr (N - k) (by omega) (by omega) k W v [] 0 hk hg (by simp; omega))
  have hg0 := GS.begin w p .nilFunc
  have a2 : w.heap.size + 1 + 1 = w.heap.size + 2 := rfl
  have a3 : w.heap.size + 2 + 1 = w.heap.size + 3 := rfl
  obtain ⟨X, hX⟩ : ∃ X, (((w.alloc (.cells #[.pointer (some ⟨p, 0, none⟩)] 43)).alloc (.cells #[.slice none 0 0] 22)).alloc (.cells #[.int .i64 0] 3)).alloc (.cells #[.nilFunc] 65) = X := ⟨_, rfl⟩
  have hXn : X.heap[w.heap.size + 3]? = some (.cells #[.nilFunc] 65 (0, 0)) := by
    subst hX
    have z3 : (((w.alloc (.cells #[.pointer (some ⟨p, 0, none⟩)] 43)).alloc (.cells #[.slice none 0 0] 22)).alloc (.cells #[.int .i64 0] 3)).heap.size = w.heap.size + 3 := by simp
    rw [← z3]
    exact heap_alloc_new _ _
  have cX := cell_of_one hXn
  have fX := free_of_one hXn
  rw [hX] at hg0
  obtain ⟨W5, hW5⟩ : ∃ W5, X.setCell ⟨w.heap.size + 3, 0, none⟩ (fv w.heap.size) = W5 := ⟨_, rfl⟩
  rw [hW5] at hg0
  have hst : (store ⟨w.heap.size + 3, 0, none⟩ (fv w.heap.size)).run Try.prog X = .ok () W5 := by
    rw [run_store _ _ _ _ _ rfl, cX]
    simp only [fX, hW5]
    rfl
  unfold fv at hW5 hst
  have HG0 := hide hg0
  obtain ⟨q0, q1, q2, q3⟩ := hg0.cells
  unfold fv at q3
  have c3 := (h0.below hg0.bel).c3
  have HMM := hide (HM.out W5.drew _ (show GS w W5.drew p (.slice none 0 0) [] 0 from ⟨hg0.hp, hg0.hv, hg0.hl, hg0.hf, hg0.own.drew, hg0.bel.drew⟩))
  clear hg0 hXn HM
  generalize Rn.plc rs (Rn.chn (Rn.fo mt rs) (N - k) k) = ps at *
  generalize Rn.ltc (Rn.fo mt rs) (N - k) k = lt at *
  generalize Rn.oi (Rn.aft (Rn.fo mt rs) (N - k) k) = z at *
  obtain ⟨c, hc⟩ : ∃ c, N - k = c := ⟨_, rfl⟩
  rw [hc] at HMM
  have hsub : (N : Int) - (k : Int) = (c : Int) := by omega
  have hwr : IntKind.i64.wrap (c : Int) = (c : Int) := by rw [IntKind.wrap_i64]; omega
  have hin : (c : Int) ≤ 2000 := by omega
  clear h0 hc
  go_enter Try.func37, Try.ntmps37
  go_upto_region 3 with fail
  clear hX cX fX hW5 hst q1 q2
  first | (go_region_law (first
    | (go_simp; go_at_call 57; refine HMM.out.mono ?_; rintro e W6 ⟨rfl, v6, hg6⟩; rw [List.nil_append] at hg6; obtain ⟨a6, c6, rfl⟩ := hg6.row; obtain ⟨r0, r1, r2, r3⟩ := hg6.cells; obtain ⟨f1, f2⟩ := hg6.free; have HG6 := hide hg6; go_simp))) | fail
  all_goals
    have HGO := hide (GS.out (show GS w W6.drew p (.slice a6 ps.length c6) ps (lt : Int) from ⟨HG6.out.hp, HG6.out.hv, HG6.out.hl, HG6.out.hf, HG6.out.own.drew, HG6.out.bel.drew⟩))
    go_wp2
    go_region
    go_wp2
    exact bodyPost_ret (results_cc Try.results37 _ _ _ (w.heap.size + 1) (w.heap.size + 2) _ _ rfl rfl (load_places _ _ _ HGO.out.cells.2.1) (load_last _ _ _ HGO.out.cells.2.2.1)) rfl ⟨_, rfl, owns_mono HGO.out.own (by omega), HGO.out.bel⟩
end
end Go.Proofs.Ythohbiklnknofaa
