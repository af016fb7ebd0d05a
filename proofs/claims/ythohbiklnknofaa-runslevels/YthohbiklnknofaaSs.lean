/- Sequences. -/
import Derived.Test.YthohbiklnknofaaSl
namespace Go.Proofs.Ythohbiklnknofaa
open Go.RowKit Go.Maps
set_option linter.unusedVariables false
set_option maxHeartbeats 1000000
set_option maxRecDepth 100000
theorem seqInfo3 : (Try.prog.info? 36).map (fun i => (i.zero, i.size, i.bytes)) = some (some (.agg #[.slice none 0 0, .int .i64 0, .int .i64 0, .int .i64 0]), 4, 48) := by kernel_rfl
theorem build_seq1 (ao : Option Addr) (n cap : Nat) (x y z : Int) (w : World) : (Instr.buildSlice 29 1 #[(0, .agg #[.slice ao n cap, .int .i64 x, .int .i64 y, .int .i64 z])]).run Try.prog w = .ok (.slice (some ⟨w.heap.size, 0, none⟩) 1 1) (w.alloc (.cells #[.slice ao n cap, .int .i64 x, .int .i64 y, .int .i64 z] 36)) := by
  have hq := seqInfo3
  cases hi : Try.prog.info? 36 with
  | none => rw [hi] at hq; cases hq
  | some ie =>
    rw [hi] at hq
    simp only [Option.map_some, Option.some.injEq, Prod.mk.injEq] at hq
    refine run_buildSlice w 29 36 1 _ _ ie _ Try.underlying29 hi hq.1 (by rw [hq.2.1]; decide) (by rw [hq.2.1]; decide) ?_
    rw [hq.2.1]
    kernel_rfl
theorem build_para (b : Int) (a1 a2 a3 : Option Addr) (n1 n2 n3 c1 c2 c3 : Nat) (w : World) : (Instr.build 46 #[(0, .int .i64 b), (1, .slice a1 n1 c1), (2, .slice a2 n2 c2), (3, .slice a3 n3 c3)]).run Try.prog w = .ok (.agg #[.int .i64 b, .slice a1 n1 c1, .slice a2 n2 c2, .slice a3 n3 c3, .map none]) w := run_build w 46 _ _ (by kernel_rfl)
theorem cells_new (w : World) (l : List Value) (t : TypeId) : ∀ j u, l[j]? = some u → (w.alloc (.cells l.toArray t)).cell? ((⟨w.heap.size, 0, none⟩ : Addr).add j) = some u := by
  intro j u hj
  have hadd : (⟨w.heap.size, 0, none⟩ : Addr).add j = ⟨w.heap.size, j, none⟩ := by unfold Addr.add; split <;> simp_all
  rw [hadd, World.cell?_alloc_mark]
  simpa using hj
theorem sc_one (h : Nat × Nat) (s : Rn.Sq) : ∀ u ∈ sc h s, u.oneCell' = true := by
  intro u hu
  simp [sc] at hu
  rcases hu with rfl | rfl | rfl | rfl <;> rfl
theorem sequences_arg (ao : Option Addr) (n cap : Nat) (b : Int) (w : World) (hb : ¬ b = 0 ∧ ¬ b = 1) :
    Calls Try.prog 14 #[.slice ao n cap, .int .i64 b] w fun e w' => e = .returned (.tuple #[.slice none 0 0, .int .i64 2]) ∧ w = w' := by
  have HR := hide (resolve_arg ao n cap b w hb)
  go_enter Try.func14, Try.ntmps14
  go_wp2_with (go_at_call 16; refine HR.out.mono ?_; rintro e w' ⟨rfl, rfl⟩)
  go_ret2
  exact ⟨rfl, rfl⟩
theorem sequences_form (ao : Option Addr) (n cap : Nat) (c : List Int) (b : Int) (w : World) (h : Row .i64 w ao n cap c) (hn : n * 8 ≤ 140737488351232) (hb : b = 0 ∨ b = 1) (hF : ¬ Ex.Formed c) :
    Calls Try.prog 14 #[.slice ao n cap, .int .i64 b] w fun e w' => e = .returned (.tuple #[.slice none 0 0, .int .i64 50]) ∧ w = w' := by
  have HR := hide (resolve_form ao n cap c b w h hn hb hF)
  clear h hn hb hF
  go_enter Try.func14, Try.ntmps14
  go_wp2_with (go_at_call 16; refine HR.out.mono ?_; rintro e w' ⟨rfl, rfl⟩)
  go_ret2
  exact ⟨rfl, rfl⟩
/-- The paragraph, once its map is there. -/
theorem PG.make {w W W5 : World} {b : Int} {lv mt : List Int} {bl bm n : Nat} {ao : Option Addr} {cap : Nat} (rl : Row .i64 W (some ⟨bl, 0, none⟩) n n lv) (rm : Row .i64 W (some ⟨bm, 0, none⟩) n n mt) (ll : LL W ao (Rn.RS lv).length cap (Rn.RS lv)) (hn : n ≤ 2000)
    (hb : Below (W.heap.size + 1) (W.alloc (.cells #[.int .i64 b, .slice (some ⟨bl, 0, none⟩) n n, .slice (some ⟨bm, 0, none⟩) n n, .slice ao (Rn.RS lv).length cap, .map none] 46)) W5)
    (hm : ∃ D, W5.ownsMap Try.prog 3 (plainElem Try.prog 3) (W.heap.size + 1) (Rn.RS lv).length D ∧ MD (Rn.RS lv) (Rn.RS lv).length D) :
    PG (W5.setCell ⟨W.heap.size, 4, none⟩ (.map (some (W.heap.size + 1)))) W.heap.size b lv mt (Rn.RS lv) bl bm n ao (Rn.RS lv).length cap (W.heap.size + 1) ∧ W5.cell? ⟨W.heap.size, 3, none⟩ = some (.slice ao (Rn.RS lv).length cap) ∧ W5.cell? ⟨W.heap.size, 4, none⟩ = some (.map none) ∧ W5.frozen? ⟨W.heap.size, 4, none⟩ = false ∧ Below W.heap.size W (W5.setCell ⟨W.heap.size, 4, none⟩ (.map (some (W.heap.size + 1)))) := by
  have h1 : (W.alloc (.cells #[.int .i64 b, .slice (some ⟨bl, 0, none⟩) n n, .slice (some ⟨bm, 0, none⟩) n n, .slice ao (Rn.RS lv).length cap, .map none] 46)).heap[W.heap.size]? = some (.cells #[.int .i64 b, .slice (some ⟨bl, 0, none⟩) n n, .slice (some ⟨bm, 0, none⟩) n n, .slice ao (Rn.RS lv).length cap, .map none] 46 (0, 0)) := heap_alloc_new _ _
  have h5 := (hb.block W.heap.size (by omega)).trans h1
  have h6 := sset_heap (j := 4) h5 (.map (some (W.heap.size + 1)))
  have hbel : Below W.heap.size W (W5.setCell ⟨W.heap.size, 4, none⟩ (.map (some (W.heap.size + 1)))) := (((Below.refl W.heap.size W).alloc (Nat.le_refl _) _).trans (hb.mono (by omega))).setCell (p := ⟨W.heap.size, 4, none⟩) (Nat.le_refl _) _
  obtain ⟨D, hD1, hD2⟩ := hm
  refine ⟨⟨?_, ?_, ?_, ?_, ?_, (Array.getElem?_eq_some_iff.1 h6).1, rl.below hbel, rm.below hbel, ll.below hbel, ⟨D, hD1.setCell (by simp) _, hD2⟩, Rn.runs_of lv, hn⟩, ?_, ?_, ?_, hbel⟩
  · simp [World.cell?, h6]
  · simp [World.cell?, h6]
  · simp [World.cell?, h6]
  · simp [World.cell?, h6]
  · simp [World.cell?, h6]
  · simp [World.cell?, h5]
  · simp [World.cell?, h5]
  · simp [World.frozen?, h5]
theorem mt_range (c : List Int) : ∀ i, i < c.length → -1 ≤ (Iso.MT c).getD i 0 ∧ (Iso.MT c).getD i 0 ≤ (c.length : Int) := by
  intro i hi
  rw [Iso.MT_at c i hi]
  unfold Iso.mt
  have h1 := Iso.partner_le c i hi
  have h2 := Iso.hd_range c i
  split
  · omega
  · split
    · omega
    · omega
theorem fst_apart {lv : List Int} {rs : List (List Nat)} (h : Rn.Runs lv rs) : ∀ j i, i < j → j < rs.length → Rn.fst rs i < Rn.fst rs j := by
  have step : ∀ j, j + 1 < rs.length → Rn.fst rs j < Rn.fst rs (j + 1) := by
    intro j hj
    have h1 := (h.outer j hj).1.1
    have h2 : ∀ m, m < (Rn.rn rs j).length → Rn.fst rs j ≤ (Rn.rn rs j).getD m 0 := by
      intro m
      induction m with
      | zero => intro _; exact Nat.le_refl _
      | succ m ih =>
        intro hm
        have := (h.inner j m (by omega) hm).1
        have := ih (by omega)
        omega
    have h3 := h2 ((Rn.rn rs j).length - 1) (by have := h.pos j (by omega); omega)
    have h4 : (Rn.rn rs j).getD ((Rn.rn rs j).length - 1) 0 = Rn.lst rs j := rfl
    omega
  intro j
  induction j with
  | zero => intro i hi; omega
  | succ j ih =>
    intro i hi hj
    by_cases hij : i = j
    · subst hij; exact step i hj
    · have := ih i (by omega) (by omega)
      have := step j hj
      omega
end Go.Proofs.Ythohbiklnknofaa
