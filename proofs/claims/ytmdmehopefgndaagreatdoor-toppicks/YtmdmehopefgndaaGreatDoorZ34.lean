import Derived.Test.YtmdmehopefgndaaGreatDoorZ32
import Derived.Test.YtmdmehopefgndaaGreatDoorZ13
import Derived.Test.YtmdmehopefgndaaGreatDoorZ11
import Derived.Test.YtmdmehopefgndaaGreatDoorZ33
import Derived.Test.YtmdmehopefgndaaGreatDoorZ26
import Derived.Deep.Cut
import Derived.Deep.RegionWith
/- The rows of levels and types, and the list of sequences, while levels are written. -/
namespace Go.Proofs.YtmdmehopefgndaaGreatDoor
open Go.RowKit
set_option linter.unusedVariables false
set_option maxHeartbeats 1000000
set_option maxRecDepth 100000
/-- What a call owns above a block is kept by a store below. -/
theorem owns_low {w : World} {B e k n g : Nat} {v : Value} {xs : List Value} (h : w.ownsRow B e k v n xs) (hg : g < B) (j : Nat) (x : Value) : (w.setCell ⟨g, j, none⟩ x).ownsRow B e k v n xs := by
  refine ⟨h.1, ?_⟩
  rcases h.2 with hn | ⟨g', cap, cur, rfl, hb, hh, rest⟩
  · exact .inl hn
  · refine .inr ⟨g', cap, cur, rfl, hb, ?_, rest⟩
    rw [Below.heap_setCell _ _ _ _ (show g' ≠ g by omega)]
    exact hh
theorem SO.low {w : World} {B g : Nat} {v : Value} {hs : List (Nat × Nat)} {ss : List Rn.Sq} (h : SO B w v hs ss) (hg : g < B) (j : Nat) (x : Value) : SO B (w.setCell ⟨g, j, none⟩ x) v hs ss :=
  ⟨owns_low h.oa hg j x, h.lh, fun i hi => owns_low (h.rows i hi) hg j x⟩
/-- A row in another block. -/
theorem row_apart {k : IntKind} {w : World} {b off n cap g : Nat} {zs : List Int} (h : Row k w (some ⟨b, off, none⟩) n cap zs) (hne : ¬ b = g) (j : Nat) (x : Value) : Row k (w.setCell ⟨g, j, none⟩ x) (some ⟨b, off, none⟩) n cap zs := by
  refine ⟨h.len, h.le, h.max, fun h0 => ?_, h.nil⟩
  obtain ⟨b2, o2, e, hb, hc⟩ := h.cells h0
  simp only [Option.some.injEq, Addr.mk.injEq, and_true] at e
  obtain ⟨rfl, rfl⟩ := e
  refine ⟨b, off, rfl, by rw [size_set]; exact hb, fun i hi => ?_⟩
  rw [World.cell?_setCell_other _ _ _ _ (fun e => by simp only [Addr.mk.injEq] at e; exact hne e.1.symm)]
  exact hc i hi
/-- A slice of a call's own stays as it is when an elder block is written. -/
theorem fresh_apart {w w1 : World} {a1 : Option Addr} {n cap g : Nat} {zs : List Int} (h : Row .i64 w1 a1 n cap zs) (hf : Fresh w a1 n) (hg : g < w.heap.size) (j : Nat) (x : Value) : Row .i64 (w1.setCell ⟨g, j, none⟩ x) a1 n cap zs := by
  rcases Nat.eq_zero_or_pos n with rfl | h0
  · exact ⟨h.len, h.le, h.max, fun q => absurd q (by omega), h.nil⟩
  · obtain ⟨b, rfl, hb⟩ := hf h0
    exact row_apart h (by omega) j x
/-- One of the list's sequences, in memory. -/
structure S1 (w : World) (B : Nat) (sa : Option Addr) (j : Nat) (s : Rn.Sq) (gj cj : Nat) : Prop where
  pos : ∃ g0, sa = some ⟨g0, 0, none⟩ ∧ g0 < w.heap.size ∧ w.cell? ⟨g0, j * 4, none⟩ = some (.slice (some ⟨gj, 0, none⟩) s.places.length cj) ∧ w.cell? ⟨g0, j * 4 + 1, none⟩ = some (.int .i64 s.lvl) ∧ w.cell? ⟨g0, j * 4 + 2, none⟩ = some (.int .i64 s.sos) ∧ w.cell? ⟨g0, j * 4 + 3, none⟩ = some (.int .i64 s.eos)
  row : Row .i64 w (some ⟨gj, 0, none⟩) s.places.length cj (Rn.zs s.places)
  le : B ≤ gj
theorem SO.one {B : Nat} {w : World} {sa : Option Addr} {cs : Nat} {hs : List (Nat × Nat)} {ss : List Rn.Sq} (h : SO B w (.slice sa ss.length cs) hs ss) {j : Nat} (hj : j < ss.length) : ∃ gj cj, S1 w B sa j (ss.getD j default) gj cj := by
  obtain ⟨g, c2, e, _, _⟩ := owns_pos h.oa (by omega)
  simp only [Value.slice.injEq] at e
  obtain ⟨rfl, _, rfl⟩ := e
  have key : ∀ i, i < 4 → w.cell? ⟨g, j * 4 + i, none⟩ = (sc (hs.getD j (0, 0)) (ss.getD j default))[i]? := fun i hi => by
    have hlen : (scs hs ss).length = ss.length * 4 := h.oa.1
    have := h.oa.lt g rfl
    rw [show w.cell? ⟨g, j * 4 + i, none⟩ = (scs hs ss)[j * 4 + i]? from h.oa.cellAt (j * 4 + i) (by rw [hlen.symm, hlen]; omega)]
    exact scs_at hs ss j i h.lh hj hi
  exact ⟨(hs.getD j (0, 0)).1, (hs.getD j (0, 0)).2, ⟨g, rfl, (h.oa.lt g rfl).2, key 0 (by omega), key 1 (by omega), key 2 (by omega), key 3 (by omega)⟩, row_owned (h.rows j hj), ((h.rows j hj).lt _ rfl).1⟩
/-- The rows of levels and types, and the sequences, in a world. -/
structure LPW (w0 W : World) (B g gt n cl ct : Nat) (zs T : List Int) (sv : Value) (ss : List Rn.Sq) : Prop where
  ow : W.ownsRow w0.heap.size 3 1 (.slice (some ⟨g, 0, none⟩) n cl) n (zs.map (Value.int .i64))
  ot : W.ownsRow w0.heap.size 3 1 (.slice (some ⟨gt, 0, none⟩) n ct) n (T.map (Value.int .i64))
  ne : ¬ g = gt
  lt : g < B ∧ gt < B
  so : ∃ hs, SO B W sv hs ss
  bel : Below w0.heap.size w0 W
section
variable {w0 W W' : World} {B g gt n cl ct : Nat} {zs T : List Int} {sv : Value} {ss : List Rn.Sq}
theorem LPW.keep (h : LPW w0 W B g gt n cl ct zs T sv ss) (hk : KO W W') : LPW w0 W' B g gt n cl ct zs T sv ss := by
  obtain ⟨hs, hso⟩ := h.so
  exact ⟨owns_below h.ow hk, owns_below h.ot hk, h.ne, h.lt, ⟨hs, hso.below hk⟩, KO.on h.bel hk⟩
theorem LPW.set (h : LPW w0 W B g gt n cl ct zs T sv ss) (j : Nat) (y : Int) : LPW w0 (W.setCell ⟨g, j, none⟩ (.int .i64 y)) B g gt n cl ct (zs.set j y) T sv ss := by
  obtain ⟨hs, hso⟩ := h.so
  exact ⟨owns_set h.ow j y, owns_other h.ot (fun e => h.ne e.symm), h.ne, h.lt, ⟨hs, hso.low h.lt.1 j _⟩, h.bel.setCell (p := ⟨g, j, none⟩) (h.ow.lt g rfl).1 _⟩
theorem LPW.cell (h : LPW w0 W B g gt n cl ct zs T sv ss) {j : Nat} (hj : j < n) : W.cell? ⟨g, j, none⟩ = some (.int .i64 (zs.getD j 0)) ∧ W.frozen? ⟨g, j, none⟩ = false := ⟨owns_cell h.ow j hj, h.ow.frozenAt j⟩
theorem LPW.types (h : LPW w0 W B g gt n cl ct zs T sv ss) : Row .i64 W (some ⟨gt, 0, none⟩) n ct T := row_owned h.ot
theorem LPW.levels (h : LPW w0 W B g gt n cl ct zs T sv ss) : Row .i64 W (some ⟨g, 0, none⟩) n cl zs := row_owned h.ow
end
end Go.Proofs.YtmdmehopefgndaaGreatDoor

/- The list of levels as sequences are written into it, in steps: plain mathematics. -/
namespace Go.Proofs.YtmdmehopefgndaaGreatDoor.Rn
set_option linter.unusedVariables false
open Ex (lev LV TY rm Formed)
/-- Behind j sequences and m places of the next one. -/
def WK (l : List Int) (b : Int) (c : List Int) (j m : Nat) : List Int := WL (PV F13 l b c) (LV b c) (AK b c j ++ ((SQ b c).getD j default).places.take m)
section
variable {l : List Int} {b : Int} {c : List Int}
theorem WK_first : WK l b c 0 0 = LV b c := by
  unfold WK
  rw [AK_zero, List.take_zero, List.append_nil, WL_nil]
theorem WK_len (j m : Nat) : (WK l b c j m).length = c.length := by unfold WK; rw [WL_len, Ex.LV_len]
theorem WK_set (hb : b = 0 ∨ b = 1) (hF : Formed c) {j m : Nat} (hj : j < (SQ b c).length) (hm : m < ((SQ b c).getD j default).places.length) :
    (WK l b c j m).set (((SQ b c).getD j default).places.getD m 0) ((fv F13 l b c ((SQ b c).getD j default)).getD m 0) = WK l b c j (m + 1) := by
  rw [← PV_at hb hF F13 l (sq_mem hj) hm]
  unfold WK
  rw [WL_set, take_places hm, List.append_assoc]
theorem WK_next {j : Nat} (hj : j < (SQ b c).length) : WK l b c j ((SQ b c).getD j default).places.length = WK l b c (j + 1) 0 := by
  unfold WK
  rw [List.take_of_length_le (Nat.le_refl _), ← AK_succ b c hj, List.take_zero, List.append_nil]
theorem WK_end (hb : b = 0 ∨ b = 1) (hF : Formed c) : WK l b c (SQ b c).length 0 = PVs F13 l b c := by
  unfold WK
  rw [List.take_zero, List.append_nil, AK_all, WL_end hb hF]
theorem sq_in (hb : b = 0 ∨ b = 1) (hF : Formed c) {j : Nat} (hj : j < (SQ b c).length) : ∀ i ∈ ((SQ b c).getD j default).places, i < c.length := fun i hi => ((SQ_ends hb hF _ (sq_mem hj)).kept i hi).1
theorem fv_len (s : Sq) : (fv F13 l b c s).length = s.places.length := by
  unfold fv F13
  rw [F12_len, pk_len]
theorem mx_bound {n : Nat} {ps : List Nat} (h : Lv.Mx (Nx b c) ps) (hl : ∀ i ∈ ps, i < n) : ps.length ≤ n := by
  have key : ∀ m, m < ps.length → m ≤ ps.getD m 0 := by
    intro m
    induction m with
    | zero => intro _; exact Nat.zero_le _
    | succ m ih =>
      intro hm
      have h1 := ih (by omega)
      have h2 := mx_lt h (m + 1) m (by omega) hm
      omega
  rcases Nat.eq_zero_or_pos ps.length with h0 | h0
  · omega
  · have h1 := key (ps.length - 1) (by omega)
    have h2 := hl _ (getD_mem (show ps.length - 1 < ps.length by omega))
    omega
theorem sq_short (hb : b = 0 ∨ b = 1) (hF : Formed c) {j : Nat} (hj : j < (SQ b c).length) : ((SQ b c).getD j default).places.length ≤ c.length :=
  mx_bound (SQ_ends hb hF _ (sq_mem hj)).mx (sq_in hb hF hj)
end
end Go.Proofs.YtmdmehopefgndaaGreatDoor.Rn

/- Sequences. -/
namespace Go.Proofs.YtmdmehopefgndaaGreatDoor
open Go.RowKit Go.Maps
set_option linter.unusedVariables false
set_option maxHeartbeats 1000000
set_option maxRecDepth 100000
theorem seqInfo3 : (Tryz.prog.info? 87).map (fun i => (i.zero, i.size, i.bytes)) = some (some (.agg #[.slice none 0 0, .int .i64 0, .int .i64 0, .int .i64 0]), 4, 48) := by kernel_rfl
theorem build_seq1 (ao : Option Addr) (n cap : Nat) (x y z : Int) (w : World) : (Instr.buildSlice 83 1 #[(0, .agg #[.slice ao n cap, .int .i64 x, .int .i64 y, .int .i64 z])]).run Tryz.prog w = .ok (.slice (some ⟨w.heap.size, 0, none⟩) 1 1) (w.alloc (.cells #[.slice ao n cap, .int .i64 x, .int .i64 y, .int .i64 z] 87)) := by
  have hq := seqInfo3
  cases hi : Tryz.prog.info? 87 with
  | none => rw [hi] at hq; cases hq
  | some ie =>
    rw [hi] at hq
    simp only [Option.map_some, Option.some.injEq, Prod.mk.injEq] at hq
    refine run_buildSlice w 83 87 1 _ _ ie _ Tryz.underlying83 hi hq.1 (by rw [hq.2.1]; decide) (by rw [hq.2.1]; decide) ?_
    rw [hq.2.1]
    kernel_rfl
theorem build_para (b : Int) (a1 a2 a3 : Option Addr) (n1 n2 n3 c1 c2 c3 : Nat) (w : World) : (Instr.build 117 #[(0, .int .i64 b), (1, .slice a1 n1 c1), (2, .slice a2 n2 c2), (3, .slice a3 n3 c3)]).run Tryz.prog w = .ok (.agg #[.int .i64 b, .slice a1 n1 c1, .slice a2 n2 c2, .slice a3 n3 c3, .map none]) w := run_build w 117 _ _ (by kernel_rfl)
theorem cells_new (w : World) (l : List Value) (t : TypeId) : ∀ j u, l[j]? = some u → (w.alloc (.cells l.toArray t)).cell? ((⟨w.heap.size, 0, none⟩ : Addr).add j) = some u := by
  intro j u hj
  have hadd : (⟨w.heap.size, 0, none⟩ : Addr).add j = ⟨w.heap.size, j, none⟩ := by unfold Addr.add; split <;> simp_all
  rw [hadd, World.cell?_alloc_mark]
  simpa using hj
theorem sc_one (h : Nat × Nat) (s : Rn.Sq) : ∀ u ∈ sc h s, u.oneCell' = true := by
  intro u hu
  simp [sc] at hu
  rcases hu with rfl | rfl | rfl | rfl <;> rfl
theorem sequences_arg (ao : Option Addr) (n cap : Nat) (b : Int) (w : World) (hb : ¬ b = 0 ∧ ¬ b = 1) :
    Calls Tryz.prog 39 #[.slice ao n cap, .int .i64 b] w fun e w' => e = .returned (.tuple #[.slice none 0 0, .int .i64 2]) ∧ w = w' := by
  have HR := hide (resolve_arg ao n cap b w hb)
  go_enter Tryz.func39, Tryz.ntmps39
  go_wp2_with (go_at_call 38; refine HR.out.mono ?_; rintro e w' ⟨rfl, rfl⟩)
  go_ret2
  exact ⟨rfl, rfl⟩
theorem sequences_form (ao : Option Addr) (n cap : Nat) (c : List Int) (b : Int) (w : World) (h : Row .i64 w ao n cap c) (hn : n * 8 ≤ 140737488351232) (hb : b = 0 ∨ b = 1) (hF : ¬ Ex.Formed c) :
    Calls Tryz.prog 39 #[.slice ao n cap, .int .i64 b] w fun e w' => e = .returned (.tuple #[.slice none 0 0, .int .i64 50]) ∧ w = w' := by
  have HR := hide (resolve_form ao n cap c b w h hn hb hF)
  clear h hn hb hF
  go_enter Tryz.func39, Tryz.ntmps39
  go_wp2_with (go_at_call 38; refine HR.out.mono ?_; rintro e w' ⟨rfl, rfl⟩)
  go_ret2
  exact ⟨rfl, rfl⟩
/-- The paragraph, once its map is there. -/
theorem PG.make {w W W5 : World} {b : Int} {lv mt : List Int} {bl bm n : Nat} {ao : Option Addr} {cap : Nat} (rl : Row .i64 W (some ⟨bl, 0, none⟩) n n lv) (rm : Row .i64 W (some ⟨bm, 0, none⟩) n n mt) (ll : LL W ao (Rn.RS lv).length cap (Rn.RS lv)) (hn : n ≤ 2000)
    (hb : Below (W.heap.size + 1) (W.alloc (.cells #[.int .i64 b, .slice (some ⟨bl, 0, none⟩) n n, .slice (some ⟨bm, 0, none⟩) n n, .slice ao (Rn.RS lv).length cap, .map none] 117)) W5)
    (hm : ∃ D, W5.ownsMap Tryz.prog 3 (plainElem Tryz.prog 3) (W.heap.size + 1) (Rn.RS lv).length D ∧ MD (Rn.RS lv) (Rn.RS lv).length D) :
    PG (W5.setCell ⟨W.heap.size, 4, none⟩ (.map (some (W.heap.size + 1)))) W.heap.size b lv mt (Rn.RS lv) bl bm n ao (Rn.RS lv).length cap (W.heap.size + 1) ∧ W5.cell? ⟨W.heap.size, 3, none⟩ = some (.slice ao (Rn.RS lv).length cap) ∧ W5.cell? ⟨W.heap.size, 4, none⟩ = some (.map none) ∧ W5.frozen? ⟨W.heap.size, 4, none⟩ = false ∧ Below W.heap.size W (W5.setCell ⟨W.heap.size, 4, none⟩ (.map (some (W.heap.size + 1)))) := by
  have h1 : (W.alloc (.cells #[.int .i64 b, .slice (some ⟨bl, 0, none⟩) n n, .slice (some ⟨bm, 0, none⟩) n n, .slice ao (Rn.RS lv).length cap, .map none] 117)).heap[W.heap.size]? = some (.cells #[.int .i64 b, .slice (some ⟨bl, 0, none⟩) n n, .slice (some ⟨bm, 0, none⟩) n n, .slice ao (Rn.RS lv).length cap, .map none] 117 (0, 0)) := heap_alloc_new _ _
  have h5 := (hb.block W.heap.size (by omega)).trans h1
  have h6 := sset_heap (j := 4) h5 (.map (some (W.heap.size + 1)))
  have hbel : Below W.heap.size W (W5.setCell ⟨W.heap.size, 4, none⟩ (.map (some (W.heap.size + 1)))) := (((Below.refl W.heap.size W).alloc (Nat.le_refl _) _).trans (hb.mono (by omega))).setCell (p := ⟨W.heap.size, 4, none⟩) (Nat.le_refl _) _
  obtain ⟨D, hD1, hD2⟩ := hm
  refine ⟨⟨?_, ?_, ?_, ?_, ?_, (Array.getElem?_eq_some_iff.1 h6).1, rl.below hbel, rm.below hbel, ll.below hbel, ⟨D, hD1.setCell (by simp) _, hD2⟩, Rn.runs_of lv, hn⟩, ?_, ?_, ?_, hbel⟩
  · simp [World.cell?, h6]
  · simp [World.cell?, h6]
  · simp [World.cell?, h6]
  · simp [World.cell?, h6]
  · simp [World.cell?, h6]
  · simp [World.cell?, h5]
  · simp [World.cell?, h5]
  · simp [World.frozen?, h5]
theorem mt_range (c : List Int) : ∀ i, i < c.length → -1 ≤ (Iso.MT c).getD i 0 ∧ (Iso.MT c).getD i 0 ≤ (c.length : Int) := by
  intro i hi
  rw [Iso.MT_at c i hi]
  unfold Iso.mt
  have h1 := Iso.partner_le c i hi
  have h2 := Iso.hd_range c i
  split
  · omega
  · split
    · omega
    · omega
theorem fst_apart {lv : List Int} {rs : List (List Nat)} (h : Rn.Runs lv rs) : ∀ j i, i < j → j < rs.length → Rn.fst rs i < Rn.fst rs j := by
  have step : ∀ j, j + 1 < rs.length → Rn.fst rs j < Rn.fst rs (j + 1) := by
    intro j hj
    have h1 := (h.outer j hj).1.1
    have h2 : ∀ m, m < (Rn.rn rs j).length → Rn.fst rs j ≤ (Rn.rn rs j).getD m 0 := by
      intro m
      induction m with
      | zero => intro _; exact Nat.le_refl _
      | succ m ih =>
        intro hm
        have := (h.inner j m (by omega) hm).1
        have := ih (by omega)
        omega
    have h3 := h2 ((Rn.rn rs j).length - 1) (by have := h.pos j (by omega); omega)
    have h4 : (Rn.rn rs j).getD ((Rn.rn rs j).length - 1) 0 = Rn.lst rs j := rfl
    omega
  intro j
  induction j with
  | zero => intro i hi; omega
  | succ j ih =>
    intro i hi hj
    by_cases hij : i = j
    · subst hij; exact step i hj
    · have := ih i (by omega) (by omega)
      have := step j hj
      omega
end Go.Proofs.YtmdmehopefgndaaGreatDoor

/- Sequences, of a paragraph. -/
namespace Go.Proofs.YtmdmehopefgndaaGreatDoor
open Go.RowKit Go.Maps
set_option linter.unusedVariables false
set_option maxHeartbeats 1000000
set_option maxRecDepth 100000
/-- What Sequences keeps. -/
structure QI (X : World) (b : Int) (lv mt : List Int) (rs : List (List Nat)) (k : Nat) (v : Value) (wr : World) : Prop where
  so : ∃ hs, SO X.heap.size wr v hs (Rn.sqs b lv mt rs k)
  bel : Below X.heap.size X wr
theorem sequences_own (ao : Option Addr) (n cap0 : Nat) (c : List Int) (b : Int) (w : World) (h : Row .i64 w ao n cap0 c) (hn : n ≤ 2000) (hb : b = 0 ∨ b = 1) (hF : Ex.Formed c) :
    Calls Tryz.prog 39 #[.slice ao n cap0, .int .i64 b] w fun e w' => ∃ sa cs, e = .returned (.tuple #[.slice sa (Rn.sqs b (Ex.LV b c) (Iso.MT c) (Rn.RS (Ex.LV b c)) (Rn.RS (Ex.LV b c)).length).length cs, .int .i64 0]) ∧ (∃ hs, SO w.heap.size w' (.slice sa (Rn.sqs b (Ex.LV b c) (Iso.MT c) (Rn.RS (Ex.LV b c)) (Rn.RS (Ex.LV b c)).length).length cs) hs (Rn.sqs b (Ex.LV b c) (Iso.MT c) (Rn.RS (Ex.LV b c)) (Rn.RS (Ex.LV b c)).length)) ∧ Below w.heap.size w w' := by
  have hlen := h.len
  have HR := hide (resolve_ok ao n cap0 c b w h (by omega) hb hF)
  have HM := hide (fun w' (hk : KO w w') => match_any ao n cap0 c w' (h.below hk) (by omega))
  have hmr := mt_range c
  rw [hlen] at hmr
  have HMR := hide hmr
  have HLL := hide (fun ao' w' (h' : Row .i64 w' ao' n n (Ex.LV b c)) => levels_any ao' n n (Ex.LV b c) w' h' (by omega))
  have hrl : (Rn.RS (Ex.LV b c)).length ≤ n := by
    have h1 := Rn.R_len (Ex.LV b c) (Ex.LV b c).length
    rw [Ex.LV_len] at h1
    unfold Rn.RS
    rw [Ex.LV_len, ← hlen]
    exact h1
  have HLVL := hide (show (Ex.LV b c).length = n from by rw [Ex.LV_len, hlen])
  generalize Ex.LV b c = lv at *
  generalize Iso.MT c = mt at *
  have hR := Rn.runs_of lv
  have hfb : ∀ j, j < (Rn.RS lv).length → Rn.fst (Rn.RS lv) j ≤ 17592186044416 := fun j hj => by
    have := (hR.kept j 0 hj (hR.pos j hj)).1
    rw [HLVL.out] at this
    have e : (Rn.rn (Rn.RS lv) j).getD 0 0 = Rn.fst (Rn.RS lv) j := rfl
    omega
  have hfd : ∀ i j, i < j → j < (Rn.RS lv).length → ¬ Rn.fst (Rn.RS lv) i = Rn.fst (Rn.RS lv) j := fun i j hij hj e => by have := fst_apart hR j i hij hj; omega
  have HFI := hide (fun ao' cap' w' (h' : LL w' ao' (Rn.RS lv).length cap' (Rn.RS lv)) => firsts_any ao' (Rn.RS lv).length cap' (Rn.RS lv) w' h' (by omega) hR.pos hfb hfd)
  have HPOS := hide hR.pos
  have HMK := hide (fun (W W5 : World) (bl bm : Nat) (aoo : Option Addr) (capp : Nat) => PG.make (w := w) (W := W) (W5 := W5) (b := b) (lv := lv) (mt := mt) (bl := bl) (bm := bm) (n := n) (ao := aoo) (cap := capp))
  have hbp := build_para
  have hbs := build_seq1
  obtain ⟨ii, hii, hy0, hy1, hy2⟩ := info_parts seqInfo3
  have HII := hide hii
  have HY0 := hide hy0
  have HY1 := hide hy1
  have HY2 := hide hy2
  generalize Rn.RS lv = rs at *
  generalize hNN : rs.length = N at *
  have HNN := hide hNN
  clear h hF hR hfb hfd hmr hii hy0 hy1 hy2 hNN hlen hb
  go_enter Tryz.func39, Tryz.ntmps39
  go_wp2_with fail
  refine HR.out.mono ?_
  rintro e w1 ⟨bl, bt, rfl, rl, rt, hb1⟩
  have HM1 := hide (HM.out w1 hb1)
  have HB1 := hide hb1
  have HRL := hide rl
  clear rl rt hb1 HR HM
  go_wp2_with fail
  refine HM1.out.mono ?_
  rintro e w2 ⟨rfl, hom, hb2⟩
  have HRM := hide (row_owned hom)
  have HRL2 := hide (HRL.out.below hb2)
  have HB2 := hide (KO.on HB1.out hb2)
  have HL2 := hide (HLL.out _ w2 HRL2.out)
  clear hom hb2 HM1 HB1 HRL
  go_wp2_with fail
  refine HL2.out.mono ?_
  rintro e w3 ⟨v, rfl, ⟨vs, hlo⟩, hb3⟩
  obtain ⟨a3, cap3, rfl, ll⟩ := hlo.view (by rw [HNN.out]; exact HPOS.out)
  rw [HNN.out] at ll ⊢
  have rl3 := HRL2.out.below hb3
  have rm3 := HRM.out.below hb3
  have HB3 := hide (KO.on HB2.out hb3)
  have hsz4 : ∀ o : Obj, (w3.alloc o).heap.size = w3.heap.size + 1 := fun o => by simp
  have HF4 := hide (fun o => HFI.out a3 cap3 (w3.alloc o) (ll.below ((Below.refl _ _).alloc (Nat.le_refl _) o)))
  have HMK4 := hide (fun W5 => HMK.out w3 W5 bl w1.heap.size a3 cap3 rl3 rm3 ll hn)
  clear hlo hb3 HRL2 HRM HB2 HL2 HLL HMK HFI rl3 rm3 ll
  go_wp2_with fail
  refine (HF4.out _).mono ?_
  rintro e w5 ⟨rfl, hmap, hb5⟩
  rw [hsz4] at hmap hb5 ⊢
  obtain ⟨hpg, c3, c4, f4, hbx⟩ := HMK4.out w5 hb5 hmap
  obtain ⟨X, hX⟩ : ∃ X, w5.setCell ⟨w3.heap.size, 4, none⟩ (.map (some (w3.heap.size + 1))) = X := ⟨_, rfl⟩
  rw [hX] at hpg hbx
  generalize hpp : w3.heap.size = p at *
  have HPG := hide hpg
  have HBX := hide (show KO w X from HB3.out.on (by rw [hpp]; exact hbx))
  have x3 := hpg.c3
  have hN2 := hpg.le
  clear hmap hb5 HMK4 HF4 hpg hbx HB3 hpp hsz4
  go_wp2
  go_loopw [10, 43] (fun v i wr => ∃ k : Nat, k ≤ N ∧ i = .int .i64 (k : Int) ∧ Hid (QI X b lv mt rs k v wr)) (fun _ i _ => N - (intOf i).toNat)
  case atStart => exact ⟨0, Nat.zero_le _, rfl, hide ⟨⟨[], SO.begin _ _⟩, Below.refl _ _⟩⟩
  case round =>
    obtain ⟨k, hk, rfl, hm⟩ := hrel
    obtain ⟨⟨hs, hso⟩, hbw⟩ := hm.out
    obtain ⟨av, cv, rfl, hav⟩ := owns_form hso.oa
    have HSO := hide hso
    have HBW := hide hbw
    have hsl := Rn.sqs_len b lv mt rs k
    by_cases hlt : k < N
    · have hpw := HPG.out.below hbw
      have HBE := hide (begins_any hpw hlt)
      have HSE := hide (sequence_any hpw HMR.out hlt)
      have hin : (k : Int) < (N : Int) := by omega
      have hszX : X.heap.size ≤ wr.heap.size := hbw.size
      cases hbg : Rn.bg mt rs k with
      | false =>
        rw [hbg] at HBE
        have HQ : Hid (QI X b lv mt rs (k + 1) (.slice av (Rn.sqs b lv mt rs k).length cv) wr) := ⟨⟨hs, by rw [Rn.sqs_no hbg]; exact hso⟩, hbw⟩
        clear hm hso hbw hpw hbg HSE HSO
        generalize (Rn.sqs b lv mt rs k).length = L at *
        go_wp2_with (go_at_call 60; refine HBE.out.mono ?_; rintro e w' ⟨rfl, rfl⟩)
        go_roundw
        case rel => exact ⟨k + 1, by omega, by go_num, HQ⟩
        case measure => simp [intOf]; omega
      | true =>
        rw [hbg] at HBE
        have HSY := hide (Rn.sqs_yes (b := b) (lv := lv) hbg)
        have hsq : Rn.sq b lv mt rs k = ⟨Rn.plc rs (Rn.chn (Rn.fo mt rs) (N - k) k), Rn.lvl lv rs k, Rn.sd (Rn.lvl lv rs k) (Rn.ah b lv rs k), Rn.sd (Rn.lvl lv rs k) (Rn.bh b lv mt rs (Rn.ltc (Rn.fo mt rs) (N - k) k))⟩ := by unfold Rn.sq; rw [HNN.out]
        rw [hsq] at HSY
        have HOA := hide hso.oa
        generalize Rn.plc rs (Rn.chn (Rn.fo mt rs) (N - k) k) = ps at *
        generalize Rn.sd (Rn.lvl lv rs k) (Rn.ah b lv rs k) = y at *
        generalize Rn.sd (Rn.lvl lv rs k) (Rn.bh b lv mt rs (Rn.ltc (Rn.fo mt rs) (N - k) k)) = z at *
        generalize Rn.lvl lv rs k = x at *
        generalize hLL : (Rn.sqs b lv mt rs k).length = L at *
        have HLE := hide hLL
        have hpx : ∀ (w' : World) (hb' : Below wr.heap.size wr w'), SO X.heap.size w' (.slice av L cv) hs (Rn.sqs b lv mt rs k) := fun w' hb' => HSO.out.below hb'
        have HPX := hide hpx
        clear hm hso hbw hpw hbg hsq hLL hpx
        go_wp2_with (first
          | (go_at_call 60; refine HBE.out.mono ?_; rintro e w' ⟨rfl, rfl⟩)
          | (go_at_call 61; refine HSE.out.mono ?_; rintro e w6 ⟨g6, c6, rfl, how6, hb6⟩; have hs6 := HPX.out w6 hb6; have hz6 := hb6.size)
          | (at_builtin; refine wpList_append_own_at _ rfl (.tmp 49) (.tmp 53) 83 rfl X.heap.size 87 ii _ 4 48 Tryz.underlying83 HII.out HY0.out HY1.out HY2.out rfl (by decide) (.slice av L cv) L (scs hs (Rn.sqs b lv mt rs k)) rfl (show (w6.alloc (.cells (sc (g6, c6) ⟨ps, x, y, z⟩).toArray 87)).ownsRow X.heap.size 87 4 (.slice av L cv) L (scs hs (Rn.sqs b lv mt rs k)) from (by rw [← HLE.out]; rw [← HLE.out] at hs6; exact hs6.oa.alloc _)) ⟨w6.heap.size, 0, none⟩ 1 1 (sc (g6, c6) ⟨ps, x, y, z⟩) rfl rfl (cells_new w6 (sc (g6, c6) ⟨ps, x, y, z⟩) 87) (sc_one _ _) (by unfold maxLen; omega) (by omega) (by simp; omega) ?_; intro v7 w7 ho7 hg7 _ _; obtain ⟨g7, c7, rfl, _, _⟩ := owns_pos ho7 (by omega)))
        go_roundw
        case rel =>
          refine ⟨k + 1, by omega, by go_num, hide ⟨⟨hs ++ [(g6, c6)], ?_⟩, ?_⟩⟩
          · rw [HSY.out]
            refine (hs6.below ((Below.refl _ _).alloc (Nat.le_refl _) _)).push (s := ⟨ps, x, y, z⟩) (owns_below (owns_mono how6 hszX) ((Below.refl _ _).alloc (Nat.le_refl _) _)) ?_ hg7
            rw [HLE.out]
            exact ho7
          · exact grown_alloc (HBW.out.trans (hb6.mono hszX)) (by omega) hg7 (fun q hq => (HOA.out.lt q hq).1)
        case measure => simp [intOf]; omega
    · obtain rfl : k = N := by omega
      have hne : ¬ ((k : Int) < (k : Int)) := by omega
      have HSL := hide (show ∃ hs, SO w.heap.size wr (.slice av (Rn.sqs b lv mt rs k).length cv) hs (Rn.sqs b lv mt rs k) from ⟨hs, hso.mono HBX.out.size⟩)
      have HB := hide (KO.on HBX.out hbw)
      clear hm hso hbw hlt HSO HBW hav
      generalize hLL : (Rn.sqs b lv mt rs k).length = L at *
      have HLE := hide hLL
      clear hLL
      go_wp2
      go_ret2
      have hq := HLE.out
      subst hq
      exact ⟨av, cv, rfl, HSL.out, HB.out⟩
theorem sequences_ok (ao : Option Addr) (n cap0 : Nat) (c : List Int) (b : Int) (w : World) (h : Row .i64 w ao n cap0 c) (hn : n ≤ 2000) (hb : b = 0 ∨ b = 1) (hF : Ex.Formed c) :
    Calls Tryz.prog 39 #[.slice ao n cap0, .int .i64 b] w fun e w' => ∃ sa cs, e = .returned (.tuple #[.slice sa (Rn.sqs b (Ex.LV b c) (Iso.MT c) (Rn.RS (Ex.LV b c)) (Rn.RS (Ex.LV b c)).length).length cs, .int .i64 0]) ∧ SL w' sa (Rn.sqs b (Ex.LV b c) (Iso.MT c) (Rn.RS (Ex.LV b c)) (Rn.RS (Ex.LV b c)).length).length cs (Rn.sqs b (Ex.LV b c) (Iso.MT c) (Rn.RS (Ex.LV b c)) (Rn.RS (Ex.LV b c)).length) ∧ Below w.heap.size w w' := by
  refine (sequences_own ao n cap0 c b w h hn hb hF).mono ?_
  rintro e w' ⟨sa, cs, he, ⟨hs, hso⟩, hb⟩
  obtain ⟨a2, c2, e2, hsl⟩ := hso.view
  cases e2
  exact ⟨sa, cs, he, hsl, hb⟩
end Go.Proofs.YtmdmehopefgndaaGreatDoor

/- The levels of a paragraph's places. -/
namespace Go.Proofs.YtmdmehopefgndaaGreatDoor
open Go.RowKit
set_option linter.unusedVariables false
set_option maxHeartbeats 2000000
set_option maxRecDepth 100000
theorem SO.small {B : Nat} {w : World} {v : Value} {hs : List (Nat × Nat)} {ss : List Rn.Sq} (h : SO B w v hs ss) : ss.length ≤ maxLen := by
  rcases h.oa.2 with ⟨_, h0⟩ | ⟨g, cap, cur, _, _, _, hle, hm, _⟩
  · rw [h0]; exact Nat.zero_le _
  · omega
theorem placeLevels_form (ao ac : Option Addr) (n cap cc : Nat) (l : List Int) (b : Int) (w : World) (hc : Row .i64 w ac n cc (Rn.cl l)) (hn : n * 8 ≤ 140737488351232) (hb : b = 0 ∨ b = 1) (hF : ¬ Ex.Formed (Rn.cl l)) :
    Calls Tryz.prog 31 #[.slice ao n cap, .slice ac n cc, .int .i64 b] w fun e w' => e = .returned (.tuple #[.slice none 0 0, .int .i64 50]) ∧ w = w' := by
  have HR := hide (resolve_form ac n cc (Rn.cl l) b w hc hn hb hF)
  clear hc hn hb hF
  go_enter Tryz.func31, Tryz.ntmps31
  go_wp2_with (go_at_call 38; refine HR.out.mono ?_; rintro e w' ⟨rfl, rfl⟩)
  go_ret2
  exact ⟨rfl, rfl⟩
theorem placeLevels_any (ao ac : Option Addr) (n cap cc : Nat) (l : List Int) (b : Int) (w : World) (h : Row .i32 w ao n cap l) (hc : Row .i64 w ac n cc (Rn.cl l)) (hf : ∀ x ∈ l, (Lit.int .i32 x).wf = true) (hm : Marks w) (hn : n ≤ 2000) (hb : b = 0 ∨ b = 1) (hF : Ex.Formed (Rn.cl l)) :
    Calls Tryz.prog 31 #[.slice ao n cap, .slice ac n cc, .int .i64 b] w fun e w' => ∃ a1 c1, e = .returned (.tuple #[.slice a1 n c1, .int .i64 0]) ∧ Row .i64 w' a1 n c1 (Rn.VS l b) ∧ KO w w' := by
  have hlen := h.len
  have hcl : (Rn.cl l).length = n := by rw [Rn.cl_len, hlen]
  have HR := hide (resolve_own ac n cc (Rn.cl l) b w hc (by omega) hb hF)
  have HS : Hid (∀ W, KO w W → Calls Tryz.prog 39 #[.slice ac n cc, .int .i64 b] W fun e w' => ∃ sa cs, e = .returned (.tuple #[.slice sa (Rn.SQ b (Rn.cl l)).length cs, .int .i64 0]) ∧ (∃ hs, SO W.heap.size w' (.slice sa (Rn.SQ b (Rn.cl l)).length cs) hs (Rn.SQ b (Rn.cl l))) ∧ Below W.heap.size W w') := hide fun W hk => sequences_own ac n cc (Rn.cl l) b W (hc.below hk) hn hb hF
  have H := hide h
  have HF := hide hf
  have HM := hide hm
  have HG := hide (fun j (hj : j < (Rn.SQ b (Rn.cl l)).length) => Rn.g_of hb hF l (Rn.sq_mem hj))
  have HWS := hide (fun j m (hj : j < (Rn.SQ b (Rn.cl l)).length) (hm : m < ((Rn.SQ b (Rn.cl l)).getD j default).places.length) => Rn.WK_set (l := l) hb hF hj hm)
  have HWN := hide (fun j (hj : j < (Rn.SQ b (Rn.cl l)).length) => Rn.WK_next (l := l) hj)
  have HWE := hide (Rn.WK_end (l := l) hb hF)
  have HWF := hide (Rn.WK_first (l := l) (b := b) (c := Rn.cl l))
  have HIN := hide (fun j (hj : j < (Rn.SQ b (Rn.cl l)).length) i (hi : i ∈ ((Rn.SQ b (Rn.cl l)).getD j default).places) => (show i < n from by have := Rn.sq_in hb hF hj i hi; omega))
  have HSH := hide (fun j (hj : j < (Rn.SQ b (Rn.cl l)).length) => (show ((Rn.SQ b (Rn.cl l)).getD j default).places.length ≤ 2000 from by have := Rn.sq_short hb hF hj; omega))
  have HVS := hide (show Rn.VS l b = Rn.PVs Rn.F13 l b (Rn.cl l) from rfl)
  have HPF := hide (fun x (ps : List Nat) (hp : ∀ i ∈ ps, i < n) (hx : x ∈ Rn.pk l ps) => (show (Lit.int .i32 x).wf = true from by
    unfold Rn.pk at hx
    obtain ⟨i, hi, rfl⟩ := List.mem_map.1 hx
    exact wf_at hf (by rw [hlen]; exact hp i hi)))
  have HTL := hide (show (Ex.TY b (Rn.cl l)).length = n from by rw [Ex.TY_len]; exact hcl)
  unfold Rn.fv at HWS
  rw [HVS.out, ← HWE.out]
  rw [← HWF.out] at HR
  generalize hWK : Rn.WK l b (Rn.cl l) = WK at *
  generalize hSQ : Rn.SQ b (Rn.cl l) = ss at *
  generalize hTY : Ex.TY b (Rn.cl l) = ty at *
  clear hWK hSQ hTY HWE HWF HVS h hf hm hc hb hF hcl hlen
  go_enter Tryz.func31, Tryz.ntmps31
  go_wp2_with fail
  refine HR.out.mono ?_
  rintro e w1 ⟨bl, bt, rfl, hol, hot, hne, hb1⟩
  have HS1 := hide (HS.out w1 hb1)
  have HOL := hide (And.intro hol (And.intro hot (And.intro hne hb1)))
  clear hol hot hne hb1 HS HR
  go_wp2_with fail
  refine HS1.out.mono ?_
  rintro e w2 ⟨sa, cs, rfl, hso, hb2⟩
  have hsm : ss.length ≤ maxLen := by obtain ⟨hs, h1⟩ := hso; exact h1.small
  unfold maxLen at hsm
  have HL0 : Hid (LPW w w2 w1.heap.size bl bt n n n (WK 0 0) ty (.slice sa ss.length cs) ss) := hide ⟨owns_below HOL.out.1 hb2, owns_below HOL.out.2.1 hb2, HOL.out.2.2.1, ⟨(HOL.out.1.lt bl rfl).2, (HOL.out.2.1.lt bt rfl).2⟩, hso, KO.on HOL.out.2.2.2 hb2⟩
  obtain ⟨B, hB⟩ : ∃ B, w1.heap.size = B := ⟨_, rfl⟩
  rw [hB] at HL0
  clear hso hb2 hB HOL HS1
  generalize hN : ss.length = N at *
  have HN := hide hN
  clear hN
  go_wp2
  go_loopw [40] (fun s40 wr => ∃ j : Nat, j ≤ N ∧ s40 = .int .i64 (j : Int) ∧ Hid (LPW w wr B bl bt n n n (WK j 0) ty (.slice sa N cs) ss)) (fun s40 _ => N - (intOf s40).toNat)
  case atStart => exact ⟨0, Nat.zero_le _, rfl, HL0⟩
  case round =>
    obtain ⟨j, hj, rfl, hm⟩ := hrel
    by_cases hlt : j < N
    · have hjs : j < ss.length := by rw [HN.out]; exact hlt
      have hin : (j : Int) < (N : Int) := by omega
      have HLJ := hide hm.out
      obtain ⟨hs, hso⟩ := hm.out.so
      rw [← HN.out] at hso
      obtain ⟨gj, cj, hs1⟩ := hso.one hjs
      obtain ⟨g0, rfl, hg0, c0, c1, c2, c3⟩ := hs1.pos
      have HRJ := hide hs1.row
      have hgj := hs1.le
      have HGJ := hide (HG.out j hlt)
      have HWJ := hide (fun m hm => HWS.out j m hlt hm)
      have HWX := hide (HWN.out j hlt)
      have HIJ := hide (HIN.out j hlt)
      have hsh := HSH.out j hlt
      have hbt := hm.out.lt
      generalize hse : ss.getD j default = s at *
      obtain ⟨ps, x, y, z⟩ := s
      simp only at *
      generalize hnp : ps.length = np at *
      have HNP := hide hnp
      clear hse hm hso hs1 HL0 hnp
      obtain ⟨X, hX⟩ : ∃ X, wr.alloc (.cells #[.slice (some ⟨gj, 0, none⟩) np cj, .int .i64 x, .int .i64 y, .int .i64 z] 87) = X := ⟨_, rfl⟩
      obtain ⟨xb, hxb⟩ : ∃ xb, wr.heap.size = xb := ⟨_, rfl⟩
      have kX : KO wr X := by rw [← hX]; exact KO.alloc (KO.refl _) _
      have hh : X.heap[xb]? = some (.cells #[.slice (some ⟨gj, 0, none⟩) np cj, .int .i64 x, .int .i64 y, .int .i64 z] 87 (0, 0)) := by rw [← hX, ← hxb]; exact heap_alloc_last wr _
      have hW : ∀ W, KO X W → W.heap[xb]? = some (.cells #[.slice (some ⟨gj, 0, none⟩) np cj, .int .i64 x, .int .i64 y, .int .i64 z] 87 (0, 0)) := fun W hk => (Below.block hk xb (Array.getElem?_eq_some_iff.1 hh).1).trans hh
      have x0 : ∀ W, KO X W → W.cell? ⟨xb, 0, none⟩ = some (.slice (some ⟨gj, 0, none⟩) np cj) := fun W hk => by simp [World.cell?, hW W hk]
      have x1 : ∀ W, KO X W → W.cell? ⟨xb, 1, none⟩ = some (.int .i64 x) := fun W hk => by simp [World.cell?, hW W hk]
      have x2 : ∀ W, KO X W → W.cell? ⟨xb, 2, none⟩ = some (.int .i64 y) := fun W hk => by simp [World.cell?, hW W hk]
      have x3 : ∀ W, KO X W → W.cell? ⟨xb, 3, none⟩ = some (.int .i64 z) := fun W hk => by simp [World.cell?, hW W hk]
      have HLX := hide (HLJ.out.keep kX)
      have HRX := hide (HRJ.out.below kX)
      have HPR := hide (fun W (hk : KO X W) => pickr_any ao (some ⟨gj, 0, none⟩) n cap np cj l ps W (H.out.below (KO.on HLX.out.bel hk)) (HRX.out.below hk) HIJ.out (by omega))
      have HPI := hide (fun W (hk : KO X W) => picki_any (some ⟨bt, 0, none⟩) (some ⟨gj, 0, none⟩) n n np cj ty ps W ((HLX.out.keep hk).types) (HRX.out.below hk) HIJ.out (by omega))
      have hK : KO X X := KO.refl X
      clear hh hW kX HLJ HRJ
      go_wp2
      clear c0 c1 c2 c3 hX
      go_cut [14] from 44 to 54 (fun s14 wx => ∃ p an at', s14 = .pointer (some ⟨p, 0, none⟩) ∧ Hid (SV wx p (some ⟨gj, 0, none⟩) np cj x y z an np np at' np (Rn.pk l ps) (Rn.pk ty ps) ∧ KO X wx))
      case first =>
        refine wp_region_noPanic ?_
        go_region_held (fun w' => KO X w') (first | assumption | exact KO.drew hK | exact KO.alloc (by assumption) _)
          (first
            | (go_at_call 40; refine (HPR.out _ (by assumption)).mono ?_; rintro e w3 ⟨rfl, hn3⟩; have kr : KO X w3 := KO.on (by assumption) hn3.bel; have rr := hn3.row; have hb3 := hn3.bel; try (have ri := ri.below hb3))
            | (go_at_call 41; refine (HPI.out _ (by assumption)).mono ?_; rintro e w4 ⟨rfl, hn4⟩; have ki : KO X w4 := KO.on (by assumption) hn4.bel; have ri := hn4.row; have hb4 := hn4.bel; try (have rr := rr.below hb4)))
        all_goals (
          refine NoPanic.normal ?_
          have HE := hide (And.intro rr (And.intro ri (And.intro kr ki)))
          clear hn3 hn4 hb3 hb4 rr ri kr ki x0 x1 x2 x3 hK
          go_wp2
          go_meet
          exact ⟨_, _, _, rfl, hide ⟨⟨heap_alloc_last _ _, HE.out.1.below (KO.alloc (KO.refl _) _), HE.out.2.1.below (KO.alloc (KO.refl _) _)⟩, by assumption⟩⟩)
      obtain ⟨p, an, at', rfl, HSV⟩ := hcut
      have HLC := hide (HLX.out.keep HSV.out.2)
      have HRC := hide (HRX.out.below HSV.out.2)
      have HLV := hide (slevels_any HSV.out.1 HGJ.out (fun q hq => HPF.out q ps HIJ.out hq) (HM.out.below HLC.out.bel) (by omega))
      have HX0 := hide (fun W (hk : KO wc W) => x0 W (KO.on HSV.out.2 hk))
      have HBL := hide (HLC.out.ow.lt bl rfl).2
      generalize Rn.F13 (Rn.pk l ps) (Rn.pk ty ps) x y z = L5 at *
      clear x0 x1 x2 x3 hK HPR HPI HLX HRX HGJ HSV
      go_wp2_with fail
      refine HLV.out.mono ?_
      rintro e w5 ⟨a5, c5, rfl, hr5, hk5, hf5⟩
      have y0 := HX0.out w5 hk5
      have HI0 := hide (And.intro (HLC.out.keep hk5) (And.intro hr5 (HRC.out.below hk5)))
      have HFR := hide hf5
      clear hr5 hk5 hf5 HLV HX0 HLC HRC
      go_wp2
      go_loopw [66] (fun s66 wz => ∃ m : Nat, m ≤ np ∧ s66 = .int .i64 (m : Int) ∧ Hid (LPW w wz B bl bt n n n (WK j m) ty (.slice (some ⟨g0, 0, none⟩) N cs) ss ∧ Row .i64 wz a5 np c5 L5 ∧ Row .i64 wz (some ⟨gj, 0, none⟩) np cj (Rn.zs ps))) (fun s66 _ => np - (intOf s66).toNat)
      case atStart => exact ⟨0, Nat.zero_le _, rfl, HI0⟩
      case round =>
        rename World => wz
        obtain ⟨m, hm, rfl, HI⟩ := hrel
        by_cases hmn : m < np
        · have hmi : (m : Int) < (np : Int) := by omega
          have hml : m < ps.length := by rw [HNP.out]; exact hmn
          have hpl := HIJ.out _ (Rn.getD_mem hml)
          have ca := rowAt HI.out.2.2 (KO.refl _) m hmn
          rw [Nat.zero_add, zs_at ps hml] at ca
          obtain ⟨b5, o5, e5, hb5, hc5⟩ := HI.out.2.1.cells (by omega)
          have cb := hc5 m (by rw [HI.out.2.1.len]; exact hmn)
          obtain ⟨cd, fd⟩ := HI.out.1.cell hpl
          have HI2 : Hid (LPW w (wz.setCell ⟨bl, ps.getD m 0, none⟩ (.int .i64 (L5.getD m 0))) B bl bt n n n (WK j (m + 1)) ty (.slice (some ⟨g0, 0, none⟩) N cs) ss ∧ Row .i64 (wz.setCell ⟨bl, ps.getD m 0, none⟩ (.int .i64 (L5.getD m 0))) a5 np c5 L5 ∧ Row .i64 (wz.setCell ⟨bl, ps.getD m 0, none⟩ (.int .i64 (L5.getD m 0))) (some ⟨gj, 0, none⟩) np cj (Rn.zs ps)) := by
            refine hide ⟨?_, fresh_apart HI.out.2.1 HFR.out HBL.out _ _, row_apart HI.out.2.2 (by omega) _ _⟩
            rw [← HWJ.out m hmn]
            exact HI.out.1.set _ _
          subst e5
          have hpi : ((ps.getD m 0 : Nat) : Int) < (n : Int) := by omega
          clear hc5 HI HI0
          generalize L5.getD m 0 = v5 at *
          generalize (WK j m).getD (ps.getD m 0) 0 = v0 at *
          generalize ps.getD m 0 = pm at *
          go_wp2
          go_roundw
          case rel => exact ⟨m + 1, by omega, by go_num, HI2⟩
          case measure => simp [intOf]; omega
        · obtain rfl : m = np := by omega
          have hne2 : ¬ ((m : Int) < (m : Int)) := by omega
          have HJ2 := HI.out.1
          rw [HWX.out] at HJ2
          have HJ3 := hide HJ2
          clear HJ2 HI HI0
          go_wp2
          go_roundw
          case rel => exact ⟨j + 1, by omega, by go_num, HJ3⟩
          case measure => simp [intOf]; omega
    · obtain rfl : j = N := by omega
      have hne : ¬ ((j : Int) < (j : Int)) := by omega
      have HE := hide (show Row .i64 wr (some ⟨bl, 0, none⟩) n n (WK ss.length 0) ∧ KO w wr from ⟨by rw [HN.out]; exact hm.out.levels, hm.out.bel⟩)
      clear hm
      go_wp2
      go_ret2
      exact ⟨_, _, rfl, HE.out.1, HE.out.2⟩
end Go.Proofs.YtmdmehopefgndaaGreatDoor
