import Derived.Test.YtfadjgaledddjaaGreatDoorZc
import Derived.Test.YtfadjgaledddjaaGreatDoorZr
import Derived.Laws.ResultCell
import Derived.Deep.RegionLaw
/- The document's stack (colophonref07): last, less, higher. -/
namespace Go.Proofs.YtfadjgaledddjaaGreatDoor
open Go.RowKit
set_option linter.unusedVariables false
set_option maxHeartbeats 1000000
set_option maxRecDepth 100000
theorem rentInfo : (Tryz.prog.info? 78).map (fun i => (i.zero, i.size, i.bytes)) = some (some (.agg #[.int .i64 0, .int .i64 0, .bool false]), 3, 24) := by kernel_rfl
theorem rentCells : Tryz.prog.cellsOf 78 = 3 := by kernel_rfl
/-- The entries lie from block g on. -/
def WA (w : World) (st : List Ex.Ent) (g n cap : Nat) : Prop := w.ownsRow 0 78 3 (.slice (some ⟨g, 0, none⟩) n cap) n (ents st)
section
variable {w : World} {st : List Ex.Ent} {g n cap : Nat}
theorem WA.lt (h : WA w st g n cap) : g < w.heap.size := (World.ownsRow.lt h g rfl).2
theorem WA.len (h : WA w st g n cap) : st.length = n := by
  have := h.1
  rw [ents_len] at this
  omega
theorem WA.caps (h : WA w st g n cap) : n ≤ cap ∧ cap ≤ maxLen := by
  rcases h.2 with ⟨h0, _⟩ | ⟨g', cap', cur, hv, _, _, h1, h2, _⟩
  · cases h0
  · cases hv; exact ⟨h1, h2⟩
theorem WA.below (h : WA w st g n cap) {w' : World} (hb : Below w.heap.size w w') : WA w' st g n cap := owns_below h hb
theorem WA.cell (h : WA w st g n cap) {j : Nat} (hj : j < n * 3) : w.cell? ⟨g, j, none⟩ = (ents st)[j]? := World.ownsRow.cellAt h j (by omega)
theorem WA.top (h : WA w st g n cap) {m : Nat} (hm : n = m + 1) : w.cell? ⟨g, m * 3, none⟩ = some (.int .i64 (Ex.hd st).lv) ∧ w.cell? ⟨g, m * 3 + 1, none⟩ = some (.int .i64 (Ex.hd st).ov) ∧ w.cell? ⟨g, m * 3 + 2, none⟩ = some (.bool (Ex.hd st).is) := by
  have hl := h.len
  cases hs : st with
  | nil => rw [hs] at hl; simp at hl; omega
  | cons e r =>
    have hr : r.length = m := by rw [hs] at hl; simp at hl; omega
    have ht := ents_top e r
    rw [hr] at ht
    rw [hs] at h
    exact ⟨(h.cell (by omega)).trans ht.1, (h.cell (by omega)).trans ht.2.1, (h.cell (by omega)).trans ht.2.2⟩
theorem WA.pop (h : WA w st g n cap) {m : Nat} (hm : n = m + 1) : WA w st.tail g m cap := by
  have hl := h.len
  cases hs : st with
  | nil => rw [hs] at hl; simp at hl; omega
  | cons e r =>
    have hr : r.length = m := by rw [hs] at hl; simp at hl; omega
    subst hm
    unfold WA at h ⊢
    rw [hs, ents_cons] at h
    show w.ownsRow 0 78 3 (.slice (some ⟨g, 0, none⟩) m cap) m (ents r)
    exact ownsRow_pop (by rw [ents_len, hr]) h
theorem WA.other (h : WA w st g n cap) {p j : Nat} {v : Value} (hne : ¬ g = p) : WA (w.setCell ⟨p, j, none⟩ v) st g n cap := by
  refine ⟨h.1, ?_⟩
  rcases h.2 with ⟨h0, _⟩ | ⟨g2, cap2, cur, hv, hbs, hg, rest⟩
  · cases h0
  · cases hv
    refine .inr ⟨g, cap, cur, rfl, hbs, ?_, rest⟩
    rw [← hg]
    have hne2 : ¬ p = g := fun h => hne h.symm
    unfold World.setCell
    simp [Array.getElem?_modify, hne2]
end
theorem rlast_any {w : World} {st : List Ex.Ent} {g n cap : Nat} (h : WA w st g n cap) (hn : 0 < n) (oi oe va : Int) :
    Calls Tryz.prog 40 #[.agg #[.slice (some ⟨g, 0, none⟩) n cap, .int .i64 oi, .int .i64 oe, .int .i64 va]] w fun e w' => e = .returned (.agg #[.int .i64 (Ex.hd st).lv, .int .i64 (Ex.hd st).ov, .bool (Ex.hd st).is]) ∧ Below w.heap.size w w' := by
  obtain ⟨m, rfl⟩ : ∃ m, n = m + 1 := ⟨n - 1, by omega⟩
  obtain ⟨t0, t1, t2⟩ := h.top rfl
  have hlt := h.lt
  have hc := h.caps
  unfold maxLen at hc
  have ei : ((m + 1 : Nat) : Int) - 1 = (m : Int) := by omega
  have hmm : (m : Int) < ((m + 1 : Nat) : Int) := by omega
  generalize (Ex.hd st).lv = lv at *
  generalize (Ex.hd st).ov = ov at *
  generalize (Ex.hd st).is = is at *
  have ng : ¬ g = w.heap.size := by omega
  have ng2 : ¬ g = w.heap.size + 1 := by omega
  clear h hn
  go_enter Tryz.func40, Tryz.ntmps40
  go_wp2
  refine bodyPost_ret (v := .agg #[.int .i64 lv, .int .i64 ov, .bool is]) (by simp [results, Tryz.results40, go_sem]) rfl ⟨rfl, ?_⟩
  exact (Below.alloc (Below.alloc (Below.refl _ _) (Nat.le_refl _) _) (by simp) _)
theorem rless_any {w : World} {st : List Ex.Ent} {g n cap : Nat} (h : WA w st g n cap) {m : Nat} (hm : n = m + 1) (oi oe va : Int) :
    Calls Tryz.prog 69 #[.agg #[.slice (some ⟨g, 0, none⟩) n cap, .int .i64 oi, .int .i64 oe, .int .i64 va]] w fun e w' => e = .returned (.agg #[.slice (some ⟨g, 0, none⟩) m cap, .int .i64 oi, .int .i64 oe, .int .i64 va]) ∧ Below w.heap.size w w' := by
  subst hm
  have hc := h.caps
  unfold maxLen at hc
  have ei : ((m + 1 : Nat) : Int) - 1 = (m : Int) := by omega
  obtain ⟨ii, hii, hy0, hy1, hy2⟩ := info_parts rentInfo
  have hsl := fun w' => run_upto3 Tryz.underlying72 hii rentCells (some ⟨g, 0, none⟩) (m + 1) cap m (by omega) w'
  clear h hy0 hy1 hy2
  go_enter Tryz.func69, Tryz.ntmps69
  go_wp2
  refine bodyPost_ret (v := .agg #[.slice (some ⟨g, 0, none⟩) m cap, .int .i64 oi, .int .i64 oe, .int .i64 va]) (by simp [results, Tryz.results69, go_sem]) rfl ⟨rfl, ?_⟩
  exact (Below.alloc (Below.alloc (Below.refl _ _) (Nat.le_refl _) _) (by simp) _)
theorem rhigher_any (l : Int) (o : Bool) (w : World) (h0 : 0 ≤ l) (h1 : l ≤ 125) :
    Calls Tryz.prog 95 #[.int .i64 l, .bool o] w fun e w' => e = .returned (.int .i64 (Ex.nl l o)) ∧ w = w' := by
  obtain ⟨N, hN⟩ : ∃ N, Ex.nl l o = N := ⟨_, rfl⟩
  have HN := hide (show (N = l + 1 ∧ ((l + 1) % 2 == 1) = o) ∨ (N = l + 2 ∧ ((l + 1) % 2 == 1) = !o) from by
    rw [← hN]
    unfold Ex.nl
    cases o with
    | true =>
      by_cases hp : (l + 1) % 2 = 1
      · left; simp [hp]
      · right; simp [hp]
    | false =>
      by_cases hp : (l + 1) % 2 = 0
      · left; simp [hp]
      · have hp2 : (l + 1) % 2 = 1 := by omega
        right; simp [hp2])
  rw [hN]
  clear hN
  rcases HN.out with ⟨rfl, he⟩ | ⟨rfl, he⟩
  · clear HN
    have he2 : (((l + 1) % 2 == 1) == o) = true := by simp [he]
    go_enter Tryz.func95, Tryz.ntmps95
    go_wp2_with fail
    go_loopw [5] (fun s5 wr => s5 = .int .i64 (l + 1) ∧ w = wr) (fun _ _ => 0)
    case atStart => exact ⟨rfl, rfl⟩
    case round =>
      obtain ⟨rfl, rfl⟩ := hrel
      go_wp2
      go_ret
      exact ⟨rfl, rfl⟩
  · clear HN
    have he2 : (((l + 1) % 2 == 1) == o) = false := by cases o <;> simp_all
    have he3 : (((l + 1 + 1) % 2 == 1) == o) = true := by
      have hp : ((l + 1 + 1) % 2 == 1) = !((l + 1) % 2 == 1) := by
        by_cases hq : (l + 1) % 2 = 1
        · have : ¬ (l + 1 + 1) % 2 = 1 := by omega
          simp [hq, this]
        · have : (l + 1 + 1) % 2 = 1 := by omega
          simp [hq, this]
      rw [hp, he]; simp
    have e12 : l + 2 = l + 1 + 1 := by omega
    rw [e12]
    clear he e12
    go_enter Tryz.func95, Tryz.ntmps95
    go_wp2_with fail
    go_loopw [5] (fun s5 wr => (s5 = .int .i64 (l + 1) ∨ s5 = .int .i64 (l + 1 + 1)) ∧ w = wr) (fun s5 _ => (l + 2 - intOf s5).toNat)
    case atStart => exact ⟨.inl rfl, rfl⟩
    case round =>
      obtain ⟨rfl | rfl, rfl⟩ := hrel
      · go_wp2
        go_roundw
        case rel => exact ⟨.inr (by go_num), trivial⟩
        case measure => simp [intOf]; omega
      · go_wp2
        go_ret
        exact ⟨rfl, rfl⟩
end Go.Proofs.YtfadjgaledddjaaGreatDoor

/- The document's stack: add, odd. -/
namespace Go.Proofs.YtfadjgaledddjaaGreatDoor
open Go.RowKit
set_option linter.unusedVariables false
set_option maxHeartbeats 1000000
set_option maxRecDepth 100000
/-- A Way's cells. -/
def wc4 (g n cap : Nat) (oi oe va : Int) : Array Value := #[.slice (some ⟨g, 0, none⟩) n cap, .int .i64 oi, .int .i64 oe, .int .i64 va]
/-- Two variables of the type Way: one at p, the result at q. -/
structure WB (w W : World) (p q : Nat) (g n cap : Nat) (oi oe va : Int) : Prop where
  hp : W.heap[p]? = some (.cells (wc4 g n cap oi oe va) 74 (0, 0))
  hq : W.heap[q]? = some (.cells #[.slice none 0 0, .int .i64 0, .int .i64 0, .int .i64 0] 74 (0, 0))
  ne : ¬ p = q
  le : w.heap.size ≤ p ∧ w.heap.size ≤ q
  bel : Below w.heap.size w W
section
variable {w W : World} {p q g n cap : Nat} {oi oe va : Int}
theorem WB.begin (w : World) (g n cap : Nat) (oi oe va : Int) : WB w ((w.alloc (.cells #[.slice (some ⟨g, 0, none⟩) n cap, .int .i64 oi, .int .i64 oe, .int .i64 va] 74)).alloc (.cells #[.slice none 0 0, .int .i64 0, .int .i64 0, .int .i64 0] 74)) w.heap.size (w.heap.size + 1) g n cap oi oe va :=
  ⟨heap_alloc2_old w _ _, heap_alloc2_new w _ _, by omega, by omega, Below.alloc (Below.alloc (Below.refl _ _) (Nat.le_refl _) _) (by simp) _⟩
theorem WB.lt (h : WB w W p q g n cap oi oe va) : p < W.heap.size ∧ q < W.heap.size := ⟨(Array.getElem?_eq_some_iff.1 h.hp).1, (Array.getElem?_eq_some_iff.1 h.hq).1⟩
theorem WB.below (h : WB w W p q g n cap oi oe va) {W' : World} (hb : Below W.heap.size W W') : WB w W' p q g n cap oi oe va :=
  ⟨(hb.block p h.lt.1).trans h.hp, (hb.block q h.lt.2).trans h.hq, h.ne, h.le, KO.on h.bel hb⟩
theorem WB.c (h : WB w W p q g n cap oi oe va) : W.cell? ⟨p, 0, none⟩ = some (.slice (some ⟨g, 0, none⟩) n cap) ∧ W.cell? ⟨p, 1, none⟩ = some (.int .i64 oi) ∧ W.cell? ⟨p, 2, none⟩ = some (.int .i64 oe) ∧ W.cell? ⟨p, 3, none⟩ = some (.int .i64 va) := by
  refine ⟨?_, ?_, ?_, ?_⟩ <;> simp [World.cell?, h.hp, wc4]
theorem WB.f (h : WB w W p q g n cap oi oe va) (j : Nat) : W.frozen? ⟨p, j, none⟩ = false := by simp [World.frozen?, h.hp]
theorem WB.qc (h : WB w W p q g n cap oi oe va) : W.cell? ⟨q, 0, none⟩ = some (.slice none 0 0) ∧ W.cell? ⟨q, 1, none⟩ = some (.int .i64 0) ∧ W.cell? ⟨q, 2, none⟩ = some (.int .i64 0) ∧ W.cell? ⟨q, 3, none⟩ = some (.int .i64 0) := by
  refine ⟨?_, ?_, ?_, ?_⟩ <;> simp [World.cell?, h.hq]
theorem WB.qf (h : WB w W p q g n cap oi oe va) (j : Nat) : W.frozen? ⟨q, j, none⟩ = false := by simp [World.frozen?, h.hq]
theorem set_heap {W : World} {p j : Nat} {cs : Array Value} {t : TypeId} (h : W.heap[p]? = some (.cells cs t (0, 0))) (v : Value) : (W.setCell ⟨p, j, none⟩ v).heap[p]? = some (.cells (cs.setIfInBounds j v) t (0, 0)) := by
  rw [setCell_eq_setRow W p j _ _ _ v h]
  exact setRow_heap W p _ _ _ _ h
theorem set_heap_other {W : World} {p q j : Nat} {o : Option Obj} (h : W.heap[q]? = o) (hne : ¬ p = q) (v : Value) : (W.setCell ⟨p, j, none⟩ v).heap[q]? = o := by
  rw [← h]
  unfold World.setCell
  simp [Array.getElem?_modify, hne]
theorem WB.setSl (h : WB w W p q g n cap oi oe va) (g' n' cap' : Nat) : WB w (W.setCell ⟨p, 0, none⟩ (.slice (some ⟨g', 0, none⟩) n' cap')) p q g' n' cap' oi oe va :=
  ⟨set_heap h.hp _, set_heap_other h.hq h.ne _, h.ne, h.le, h.bel.setCell (p := ⟨p, 0, none⟩) h.le.1 _⟩
theorem WB.setOi (h : WB w W p q g n cap oi oe va) (z : Int) : WB w (W.setCell ⟨p, 1, none⟩ (.int .i64 z)) p q g n cap z oe va :=
  ⟨set_heap h.hp _, set_heap_other h.hq h.ne _, h.ne, h.le, h.bel.setCell (p := ⟨p, 1, none⟩) h.le.1 _⟩
theorem WB.setOe (h : WB w W p q g n cap oi oe va) (z : Int) : WB w (W.setCell ⟨p, 2, none⟩ (.int .i64 z)) p q g n cap oi z va :=
  ⟨set_heap h.hp _, set_heap_other h.hq h.ne _, h.ne, h.le, h.bel.setCell (p := ⟨p, 2, none⟩) h.le.1 _⟩
theorem WB.setVa (h : WB w W p q g n cap oi oe va) (z : Int) : WB w (W.setCell ⟨p, 3, none⟩ (.int .i64 z)) p q g n cap oi oe z :=
  ⟨set_heap h.hp _, set_heap_other h.hq h.ne _, h.ne, h.le, h.bel.setCell (p := ⟨p, 3, none⟩) h.le.1 _⟩
/-- Four cells stored. -/
def set4 (W : World) (p g n cap : Nat) (oi oe va : Int) : World := (((W.setCell ⟨p, 0, none⟩ (.slice (some ⟨g, 0, none⟩) n cap)).setCell ⟨p, 1, none⟩ (.int .i64 oi)).setCell ⟨p, 2, none⟩ (.int .i64 oe)).setCell ⟨p, 3, none⟩ (.int .i64 va)
theorem WB.set4 (h : WB w W p q g n cap oi oe va) (g' n' cap' : Nat) (a b c : Int) : WB w (set4 W p g' n' cap' a b c) p q g' n' cap' a b c := (((h.setSl g' n' cap').setOi a).setOe b).setVa c
theorem WB.out (h : WB w W p q g n cap oi oe va) (g' n' cap' : Nat) (a b c : Int) : (Go.Proofs.YtfadjgaledddjaaGreatDoor.set4 W q g' n' cap' a b c).heap[q]? = some (.cells (wc4 g' n' cap' a b c) 74 (0, 0)) ∧ Below w.heap.size w (Go.Proofs.YtfadjgaledddjaaGreatDoor.set4 W q g' n' cap' a b c) :=
  ⟨set_heap (set_heap (set_heap (set_heap h.hq _) _) _) _, (((h.bel.setCell (p := ⟨q, 0, none⟩) h.le.2 _).setCell (p := ⟨q, 1, none⟩) h.le.2 _).setCell (p := ⟨q, 2, none⟩) h.le.2 _).setCell (p := ⟨q, 3, none⟩) h.le.2 _⟩
end
theorem WA.set4 {W : World} {st : List Ex.Ent} {g n cap p : Nat} (h : WA W st g n cap) (hne : ¬ g = p) (g' n' cap' : Nat) (a b c : Int) : WA (set4 W p g' n' cap' a b c) st g n cap := (((h.other hne).other hne).other hne).other hne
theorem WA.notWay {W : World} {st : List Ex.Ent} {g n cap p : Nat} {cs : Array Value} (h : WA W st g n cap) (hp : W.heap[p]? = some (.cells cs 74 (0, 0))) : ¬ g = p := by
  rintro rfl
  rcases h.2 with ⟨h0, _⟩ | ⟨g2, cap2, cur, hv2, hbs, hg2, rest⟩
  · cases h0
  · cases hv2
    rw [hp] at hg2
    simp at hg2
theorem owns_empty3 (w : World) (e : TypeId) (b : Nat) (hb : w.heap.size = b) : (w.alloc (.cells #[] e)).ownsRow b e 3 (.slice (some ⟨b, 0, none⟩) 0 0) 0 [] := by
  subst hb
  exact World.ownsRow_made w #[] 0 (Nat.le_refl _) (Nat.zero_le _) rfl
theorem rbuild_ent (l o : Int) (i : Bool) (w : World) : (Instr.build 78 #[(0, .int .i64 l), (1, .int .i64 o), (2, .bool i)]).run Tryz.prog w = .ok (.agg #[.int .i64 l, .int .i64 o, .bool i]) w := run_build w 78 _ _ (by kernel_rfl)
theorem rbuild_ent1 (x y : Int) (z : Bool) (w : World) : (Instr.buildSlice 72 1 #[(0, .agg #[.int .i64 x, .int .i64 y, .bool z])]).run Tryz.prog w = .ok (.slice (some ⟨w.heap.size, 0, none⟩) 1 1) (w.alloc (.cells #[.int .i64 x, .int .i64 y, .bool z] 78)) := by
  have hq := rentInfo
  cases hi : Tryz.prog.info? 78 with
  | none => rw [hi] at hq; cases hq
  | some ie =>
    rw [hi] at hq
    simp only [Option.map_some, Option.some.injEq, Prod.mk.injEq] at hq
    refine run_buildSlice w 72 78 1 _ _ ie _ Tryz.underlying72 hi hq.1 (by rw [hq.2.1]; decide) (by rw [hq.2.1]; decide) ?_
    rw [hq.2.1]
    kernel_rfl
theorem rfield_lv (a b : Int) (c : Bool) (w : World) : (Instr.field 78 (.agg #[.int .i64 a, .int .i64 b, .bool c]) 0).run Tryz.prog w = .ok (.int .i64 a) w := by kernel_rfl
theorem rfield_ov (a b : Int) (c : Bool) (w : World) : (Instr.field 78 (.agg #[.int .i64 a, .int .i64 b, .bool c]) 1).run Tryz.prog w = .ok (.int .i64 b) w := by kernel_rfl
theorem rfield_is (a b : Int) (c : Bool) (w : World) : (Instr.field 78 (.agg #[.int .i64 a, .int .i64 b, .bool c]) 2).run Tryz.prog w = .ok (.bool c) w := by kernel_rfl
theorem wayInfo : (Tryz.prog.info? 74).map (·.size) = some 4 := by kernel_rfl
theorem results2 {fn : Func} {p u : Tmp} {ty : TypeId} (h : fn.results = #[.cell p ty, .tmp u]) (tmps : Array Value) (P : Program) (w : World) (g : Nat) (v x : Value) (hp : tmps.getD p undef = .pointer (some ⟨g, 0, none⟩)) (hu : tmps.getD u undef = x) (hl : (loadVar ty ⟨g, 0, none⟩).run P w = .ok v w) : (results fn tmps).run P w = .ok (.tuple #[v, x]) w := by
  rw [results_cell_tmp h, hp, hu]
  simp only [asAddr, Sem.run_pure, Result.andThen_ok, hl]
theorem results1 {fn : Func} {p : Tmp} {ty : TypeId} (h : fn.results = #[.cell p ty]) (tmps : Array Value) (P : Program) (w : World) (g : Nat) (v : Value) (hp : tmps.getD p undef = .pointer (some ⟨g, 0, none⟩)) (hl : (loadVar ty ⟨g, 0, none⟩).run P w = .ok v w) : (results fn tmps).run P w = .ok v w := by
  have hp' : tmps[p]?.getD undef = .pointer (some ⟨g, 0, none⟩) := by simpa using hp
  simp [results, h, hp', asAddr, hl]
theorem way_out {w W : World} {p q g n cap : Nat} {oi oe va : Int} (h : WB w W p q g n cap oi oe va) (g' n' cap' : Nat) (a b c : Int) : (loadVar 74 ⟨q, 0, none⟩).run Tryz.prog ((((W.setCell ⟨q, 0, none⟩ (.slice (some ⟨g', 0, none⟩) n' cap')).setCell ⟨q, 1, none⟩ (.int .i64 a)).setCell ⟨q, 2, none⟩ (.int .i64 b)).setCell ⟨q, 3, none⟩ (.int .i64 c)) = .ok (.agg #[.slice (some ⟨g', 0, none⟩) n' cap', .int .i64 a, .int .i64 b, .int .i64 c]) ((((W.setCell ⟨q, 0, none⟩ (.slice (some ⟨g', 0, none⟩) n' cap')).setCell ⟨q, 1, none⟩ (.int .i64 a)).setCell ⟨q, 2, none⟩ (.int .i64 b)).setCell ⟨q, 3, none⟩ (.int .i64 c)) :=
  run_loadVar_row (P := Tryz.prog) _ q 74 74 _ (0, 0) _ (h.out g' n' cap' a b c).1 Tryz.underlying74 rfl wayInfo
theorem way_bel {w W : World} {p q g n cap : Nat} {oi oe va : Int} (h : WB w W p q g n cap oi oe va) (g' n' cap' : Nat) (a b c : Int) : Below w.heap.size w ((((W.setCell ⟨q, 0, none⟩ (.slice (some ⟨g', 0, none⟩) n' cap')).setCell ⟨q, 1, none⟩ (.int .i64 a)).setCell ⟨q, 2, none⟩ (.int .i64 b)).setCell ⟨q, 3, none⟩ (.int .i64 c)) := (h.out g' n' cap' a b c).2
theorem WB.set4' {w W : World} {p q g n cap : Nat} {oi oe va : Int} (h : WB w W p q g n cap oi oe va) (g' n' cap' : Nat) (a b c : Int) : WB w ((((W.setCell ⟨p, 0, none⟩ (.slice (some ⟨g', 0, none⟩) n' cap')).setCell ⟨p, 1, none⟩ (.int .i64 a)).setCell ⟨p, 2, none⟩ (.int .i64 b)).setCell ⟨p, 3, none⟩ (.int .i64 c)) p q g' n' cap' a b c := h.set4 g' n' cap' a b c
theorem WA.set4' {W : World} {st : List Ex.Ent} {g n cap p : Nat} (h : WA W st g n cap) (hne : ¬ g = p) (g' n' cap' : Nat) (a b c : Int) : WA ((((W.setCell ⟨p, 0, none⟩ (.slice (some ⟨g', 0, none⟩) n' cap')).setCell ⟨p, 1, none⟩ (.int .i64 a)).setCell ⟨p, 2, none⟩ (.int .i64 b)).setCell ⟨p, 3, none⟩ (.int .i64 c)) st g n cap := h.set4 hne g' n' cap' a b c
theorem radd_no {w : World} {st : List Ex.Ent} {g n cap : Nat} (h : WA w st g n cap) (hn : 0 < n) (oi oe va : Nat) (o : Bool) (ov : Int) (is : Bool) (h0 : 0 ≤ (Ex.hd st).lv) (h1 : (Ex.hd st).lv ≤ 125) (hc : Ex.can ⟨st, oi, oe, va⟩ o = false) :
    Calls Tryz.prog 67 #[.agg #[.slice (some ⟨g, 0, none⟩) n cap, .int .i64 (oi : Int), .int .i64 (oe : Int), .int .i64 (va : Int)], .bool o, .int .i64 ov, .bool is] w fun e w' => e = .returned (.tuple #[.agg #[.slice (some ⟨g, 0, none⟩) n cap, .int .i64 (oi : Int), .int .i64 (oe : Int), .int .i64 (va : Int)], .bool false]) ∧ Below w.heap.size w w' := by
  have HB := hide (WB.begin w g n cap oi oe va)
  have HL := hide (rlast_any (h.below ((Below.alloc (Below.alloc (Below.refl _ w) (Nat.le_refl _) (.cells #[.slice (some ⟨g, 0, none⟩) n cap, .int .i64 (oi : Int), .int .i64 (oe : Int), .int .i64 (va : Int)] 74)) (by simp) (.cells #[.slice none 0 0, .int .i64 0, .int .i64 0, .int .i64 0] 74)))) hn oi oe va)
  have HH := hide (fun w' => rhigher_any (Ex.hd st).lv o w' h0 h1)
  have hfl := rfield_lv
  have HC : Hid (125 < Ex.nl (Ex.hd st).lv o ∨ (¬ 125 < Ex.nl (Ex.hd st).lv o ∧ 0 < oi) ∨ (¬ 125 < Ex.nl (Ex.hd st).lv o ∧ ¬ 0 < oi ∧ 0 < oe)) := by
    by_cases c1 : 125 < Ex.nl (Ex.hd st).lv o
    · exact .inl c1
    · by_cases c2 : 0 < oi
      · exact .inr (.inl ⟨c1, c2⟩)
      · by_cases c3 : 0 < oe
        · exact .inr (.inr ⟨c1, c2, c3⟩)
        · rw [Ex.can_mk (by simp only; omega) (by simp only; omega) (by simp only; omega)] at hc
          cases hc
  generalize Ex.nl (Ex.hd st).lv o = l at *
  generalize (Ex.hd st).lv = lv at *
  generalize (Ex.hd st).ov = ov2 at *
  generalize (Ex.hd st).is = is2 at *
  clear hc h
  rcases HC.out with c1 | ⟨c1, c2⟩ | ⟨c1, c2, c3⟩
  all_goals
    first
      | have i1 : (0 : Int) < (oi : Int) := by omega
      | have i1 : ¬ (0 : Int) < (oi : Int) := by omega
      | skip
    first
      | have i2 : (0 : Int) < (oe : Int) := by omega
      | skip
    clear HC
    go_enter Tryz.func67, Tryz.ntmps67
    go_wp2_with fail
    refine HL.out.mono ?_
    rintro e w3 ⟨rfl, hb3⟩
    have hB := HB.out.below hb3
    obtain ⟨p0, p1, p2, p3⟩ := hB.c
    obtain ⟨q0, q1, q2, q3⟩ := hB.qc
    have f0 := hB.qf 0
    have f1 := hB.qf 1
    have f2 := hB.qf 2
    have f3 := hB.qf 3
    have HO1 := hide (way_out hB g n cap oi oe va)
    have HO2 := hide (way_bel hB g n cap oi oe va)
    clear hb3 HL hB
    go_wp2_with (go_at_call 95; refine (HH.out _).mono ?_; rintro e w4 ⟨rfl, rfl⟩)
    exact bodyPost_ret (results2 Tryz.results67 _ _ _ (w.heap.size + 1) _ (.bool false) rfl rfl HO1.out) rfl ⟨rfl, HO2.out⟩
theorem radd_yes {w : World} {st : List Ex.Ent} {g n cap : Nat} (h : WA w st g n cap) (hn : 0 < n) (hn2 : n ≤ 200) (va : Int) (o : Bool) (ov : Int) (is : Bool) (h0 : 0 ≤ (Ex.hd st).lv) (h1 : (Ex.hd st).lv ≤ 125) (hc : Ex.nl (Ex.hd st).lv o ≤ 125) :
    Calls Tryz.prog 67 #[.agg #[.slice (some ⟨g, 0, none⟩) n cap, .int .i64 0, .int .i64 0, .int .i64 va], .bool o, .int .i64 ov, .bool is] w fun e w' => ∃ g' cap', e = .returned (.tuple #[.agg #[.slice (some ⟨g', 0, none⟩) (n + 1) cap', .int .i64 0, .int .i64 0, .int .i64 va], .bool true]) ∧ WA w' (⟨Ex.nl (Ex.hd st).lv o, ov, is⟩ :: st) g' (n + 1) cap' ∧ Below w.heap.size w w' := by
  have HB := hide (WB.begin w g n cap 0 0 va)
  have hw2 := h.below ((Below.alloc (Below.alloc (Below.refl _ w) (Nat.le_refl _) (.cells #[.slice (some ⟨g, 0, none⟩) n cap, .int .i64 0, .int .i64 0, .int .i64 va] 74)) (by simp) (.cells #[.slice none 0 0, .int .i64 0, .int .i64 0, .int .i64 0] 74)))
  have HL := hide (rlast_any hw2 hn 0 0 va)
  have HW2 := hide hw2
  have HH := hide (fun w' => rhigher_any (Ex.hd st).lv o w' h0 h1)
  have hfl := rfield_lv
  have hbe := rbuild_ent
  have hbo := rbuild_ent1
  obtain ⟨ii, hii, hy0, hy1, hy2⟩ := info_parts rentInfo
  have HII := hide hii
  have HY0 := hide hy0
  have HY1 := hide hy1
  have HY2 := hide hy2
  have c1 : ¬ 125 < Ex.nl (Ex.hd st).lv o := by omega
  generalize Ex.nl (Ex.hd st).lv o = l at *
  generalize (Ex.hd st).lv = lv at *
  generalize (Ex.hd st).ov = ov2 at *
  generalize (Ex.hd st).is = is2 at *
  clear hc h hw2 hii hy0 hy1 hy2
  go_enter Tryz.func67, Tryz.ntmps67
  go_wp2_with fail
  refine HL.out.mono ?_
  rintro e w3 ⟨rfl, hb3⟩
  have hB := HB.out.below hb3
  have hA := HW2.out.below hb3
  have HA := hide hA
  have HBB := hide hB
  obtain ⟨p0, p1, p2, p3⟩ := hB.c
  have hka : Below w3.heap.size w3 (w3.alloc (.cells #[] 78)) := Below.alloc (Below.refl _ _) (Nat.le_refl _) _
  have p0a : ∀ ob : Obj, (w3.alloc ob).cell? ⟨w.heap.size, 0, none⟩ = some (.slice (some ⟨g, 0, none⟩) n cap) := fun ob => (hB.below (Below.alloc (Below.refl _ _) (Nat.le_refl _) ob)).c.1
  have HSRC := hide (show ∀ j u, (ents st)[j]? = some u → (w3.alloc (.cells #[] 78)).cell? ((⟨g, 0, none⟩ : Addr).add j) = some u from by
    intro j u hj
    have hjl : j < n * 3 := by
      have := (List.getElem?_eq_some_iff.1 hj).1
      rw [ents_len, hA.len] at this
      exact this
    have hadd : (⟨g, 0, none⟩ : Addr).add j = ⟨g, j, none⟩ := by unfold Addr.add; split <;> simp_all
    rw [hadd, (hA.below hka).cell hjl, hj])
  have HEL := hide (show (ents st).length = n * 3 from by rw [ents_len, hA.len])
  clear hb3 HL hB hA HB HW2 hka
  go_wp2_with (first
    | (go_at_call 95; refine (HH.out _).mono ?_; rintro e w4 ⟨rfl, rfl⟩)
    | (at_builtin; refine wpList_append_own _ rfl (.tmp 29) (.tmp 31) 72 rfl w3.heap.size 78 ii _ 3 24 Tryz.underlying72 HII.out HY0.out HY1.out HY2.out rfl (by decide) (.slice (some ⟨w3.heap.size, 0, none⟩) 0 0) 0 [] rfl (owns_empty3 w3 78 w3.heap.size rfl) ⟨g, 0, none⟩ n cap (ents st) rfl HEL.out HSRC.out (ents_one st) (by unfold maxLen; omega) (by omega) (by simp) ?_; intro v5 w5 ho5 hg5 hn5; rw [Nat.zero_add, List.nil_append] at ho5; have k5 : Below w3.heap.size w3 w5 := (Below.alloc (Below.refl _ w3) (Nat.le_refl _) _).grown hg5 (by simp) (fun j hj => by simp [Value.ownBlock] at hj; omega); have z5 : w3.heap.size ≤ w5.heap.size := k5.size; obtain ⟨g5, c5, rfl, y5, _⟩ := owns_pos ho5 hn)
    | (at_builtin; refine wpList_append_ent w5 rfl (.tmp 32) (.tmp 37) 72 rfl w3.heap.size 78 ii _ Tryz.underlying72 HII.out HY0.out HY1.out HY2.out rfl (.slice (some ⟨g5, 0, none⟩) n c5) n _ rfl ⟨l, ov, is⟩ ho5 _ rfl rfl (by omega) z5 ?_; intro v6 w6 ho6 hg6; have k6 : Below w3.heap.size w3 w6 := (Below.alloc k5 z5 _).grown hg6 (by simp; omega) (fun j hj => by simp [Value.ownBlock] at hj; omega); obtain ⟨g6, c6, rfl, y6, _⟩ := owns_pos ho6 (by omega); have hB6 := HBB.out.below k6; obtain ⟨r0, r1, r2, r3⟩ := hB6.c; have rf0 := hB6.f 0; have hB7 := hB6.setSl g6 (n + 1) c6; obtain ⟨s0, s1, s2, s3⟩ := hB7.c; obtain ⟨q0, q1, q2, q3⟩ := hB7.qc; have f0 := hB7.qf 0; have f1 := hB7.qf 1; have f2 := hB7.qf 2; have f3 := hB7.qf 3))
  have hA6 : WA w6 (⟨l, ov, is⟩ :: st) g6 (n + 1) c6 := by unfold WA; rw [ents_cons]; exact owns_mono ho6 (Nat.zero_le _)
  have hlt := HBB.out.lt
  have np : ¬ g6 = w.heap.size := by omega
  have nq : ¬ g6 = w.heap.size + 1 := by omega
  exact bodyPost_ret (results2 Tryz.results67 _ _ _ (w.heap.size + 1) _ (.bool true) rfl rfl (way_out hB7 g6 (n + 1) c6 0 0 va)) rfl ⟨g6, c6, rfl, (hA6.other np).set4' nq g6 (n + 1) c6 0 0 va, way_bel hB7 g6 (n + 1) c6 0 0 va⟩
theorem rodd_any (ao : Option Addr) (n cap : Nat) (c : List Int) (i : Nat) (w : World) (h : Row .i64 w ao n cap c) (hn : n ≤ 300) (hi : i < n) :
    Calls Tryz.prog 68 #[.slice ao n cap, .int .i64 (i : Int)] w fun e w' => e = .returned (.bool (Ex.wo (c.getD i 0) (c.drop (i + 1)))) ∧ w = w' := by
  have hp1 := Iso.partner_gt c i
  have hp2 := Iso.partner_le c i (by rw [h.len]; exact hi)
  rw [h.len] at hp2
  have HP := hide (partner_any ao n cap c i w h (by omega) hi)
  have HB := hide (rbase_ok ao n cap c (i + 1) (Iso.partner c i) w h (by omega) (by omega) hp2)
  rw [Ex.base_fs] at HB
  have e1 : ((i + 1 : Nat) : Int) = (i : Int) + 1 := by omega
  rw [e1] at HB
  obtain ⟨b, off, rfl, hbl, hc⟩ := h.cells (by omega)
  have ck : w.cell? ⟨b, off + i, none⟩ = some (.int .i64 (c.getD i 0)) := hc i (by rw [h.len]; exact hi)
  have hin : (i : Int) < (n : Int) := by omega
  have hwo : Ex.wo (c.getD i 0) (c.drop (i + 1)) = if c.getD i 0 = 22 then Ex.fs 0 (c.drop (i + 1)) == 1 else c.getD i 0 == 21 := rfl
  rw [hwo]
  generalize Ex.fs 0 (c.drop (i + 1)) = F at *
  generalize Iso.partner c i = q at *
  generalize c.getD i 0 = x at *
  clear hc h hwo e1
  by_cases hx : x = 22
  · subst hx
    go_enter Tryz.func68, Tryz.ntmps68
    go_wp2_with (first
      | (go_at_call 36; refine HP.out.mono ?_; rintro e w2 ⟨rfl, rfl⟩)
      | (go_at_call 22; refine HB.out.mono ?_; rintro e w2 ⟨rfl, rfl⟩))
    go_ret
    exact ⟨rfl, rfl⟩
  · have hx2 : (x == 22) = false := beq_false_of_ne hx
    rw [if_neg hx]
    go_enter Tryz.func68, Tryz.ntmps68
    go_wp2
    go_ret
    exact ⟨rfl, rfl⟩
end Go.Proofs.YtfadjgaledddjaaGreatDoor

/- The document's behind: what is kept behind a place. -/
namespace Go.Proofs.YtfadjgaledddjaaGreatDoor
open Go.RowKit
set_option linter.unusedVariables false
set_option maxHeartbeats 2000000
set_option maxRecDepth 100000
theorem rbeh_other {w : World} {st : List Ex.Ent} {g n cap : Nat} {oi oe va : Nat} {b : Int} {k : Nat} (h : WA w st g n cap) (hok : Ex.Ok b ⟨st, oi, oe, va⟩ k) (hb0 : 0 ≤ b) (hb1 : b ≤ 1) (hk : k ≤ 1000) (ao : Option Addr) (nc capc : Nat) (c : List Int) (hr : Row .i64 w ao nc capc c) (hnc : nc ≤ 300) (i : Nat) (hi : i < nc) (x : Int) (hx : c.getD i 0 = x) (hoth : ¬ x = 17 ∧ ¬ x = 15 ∧ ¬ x = 18 ∧ ¬ x = 16 ∧ ¬ x = 19 ∧ ¬ x = 23 ∧ ¬ x = 20 ∧ ¬ x = 21 ∧ ¬ x = 22) :
    Calls Tryz.prog 39 #[.agg #[.slice (some ⟨g, 0, none⟩) n cap, .int .i64 (oi : Int), .int .i64 (oe : Int), .int .i64 (va : Int)], .slice ao nc capc, .int .i64 (i : Int)] w fun e w' => ∃ g' n' cap', e = .returned (.agg #[.slice (some ⟨g', 0, none⟩) n' cap', .int .i64 (((⟨st, oi, oe, va⟩ : Ex.St)).oi : Int), .int .i64 (((⟨st, oi, oe, va⟩ : Ex.St)).oe : Int), .int .i64 (((⟨st, oi, oe, va⟩ : Ex.St)).va : Int)]) ∧ WA w' ((⟨st, oi, oe, va⟩ : Ex.St)).st g' n' cap' ∧ Below w.heap.size w w' := by
  have hlo := hok.ch.lo
  have hhi := hok.ch.hi (by omega)
  have hpos := hok.ch.pos
  have hcl := hok.ch.len
  have hkoi := hok.oi
  have hkoe := hok.oe
  have hkva : va ≤ 126 := by have h1 : va = Ex.cn st := hok.va; have h2 := Ex.cn_le st; simp only at hcl hhi hlo; omega
  simp only at hlo hhi hpos hcl hkoi hkoe
  have hln := h.len
  have hn0 : 0 < n := by omega
  have hn2 : n ≤ 200 := by omega
  obtain ⟨W, hW⟩ : ∃ W, (w.alloc (.cells #[.slice (some ⟨g, 0, none⟩) n cap, .int .i64 (oi : Int), .int .i64 (oe : Int), .int .i64 (va : Int)] 74)).alloc (.cells #[.slice none 0 0, .int .i64 0, .int .i64 0, .int .i64 0] 74) = W := ⟨_, rfl⟩
  have hB : WB w W w.heap.size (w.heap.size + 1) g n cap (oi : Int) (oe : Int) (va : Int) := by rw [← hW]; exact WB.begin w g n cap oi oe va
  have hA : WA W st g n cap := h.below hB.bel
  have HA := hide hA
  have HB := hide hB
  have hfl := rfield_lv
  have hfo := rfield_ov
  have hfi := rfield_is
  have hrW := hr.below hB.bel
  have HRW := hide hrW
  obtain ⟨cb, off, rfl, hbl, hcc⟩ := hrW.cells (by omega)
  have ck : W.cell? ⟨cb, off + i, none⟩ = some (.int .i64 (c.getD i 0)) := hcc i (by rw [hr.len]; exact hi)
  rw [hx] at ck
  have hin : (i : Int) < (nc : Int) := by omega
  obtain ⟨p0, p1, p2, p3⟩ := hB.c
  obtain ⟨q0, q1, q2, q3⟩ := hB.qc
  have pf1 := hB.f 1
  have pf2 := hB.f 2
  have pf3 := hB.f 3
  have qf0 := hB.qf 0
  have qf1 := hB.qf 1
  have qf2 := hB.qf 2
  have qf3 := hB.qf 3
  have npq : ¬ w.heap.size + 1 = w.heap.size := by omega
  have npq2 : ¬ w.heap.size = w.heap.size + 1 := by omega
  obtain ⟨o1, o2, o3, o4, o5, o6, o7, o8, o9⟩ := hoth
  have z1 : (x == 17) = false := beq_false_of_ne o1
  have z2 : (x == 15) = false := beq_false_of_ne o2
  have z3 : (x == 18) = false := beq_false_of_ne o3
  have z4 : (x == 16) = false := beq_false_of_ne o4
  have z5 : (x == 19) = false := beq_false_of_ne o5
  have z6 : (x == 23) = false := beq_false_of_ne o6
  have z7 : (x == 20) = false := beq_false_of_ne o7
  have z8 : (x == 21) = false := beq_false_of_ne o8
  have z9 : (x == 22) = false := beq_false_of_ne o9
  clear hcc hrW hr hok h hA hB hx o1 o2 o3 o4 o5 o6 o7 o8 o9
  go_enter Tryz.func39, Tryz.ntmps39
  go_wp2
  exact bodyPost_ret (results1 Tryz.results39 _ _ _ (w.heap.size + 1) _ rfl (way_out HB.out g n cap oi oe va)) rfl ⟨g, n, cap, rfl, (HA.out).set4' ((HA.out).notWay (HB.out).hq) g n cap oi oe va, way_bel HB.out g n cap oi oe va⟩
theorem rbeh_pdf {w : World} {st : List Ex.Ent} {g n cap : Nat} {oi oe va : Nat} {b : Int} {k : Nat} (h : WA w st g n cap) (hok : Ex.Ok b ⟨st, oi, oe, va⟩ k) (hb0 : 0 ≤ b) (hb1 : b ≤ 1) (hk : k ≤ 1000) (ao : Option Addr) (nc capc : Nat) (c : List Int) (hr : Row .i64 w ao nc capc c) (hnc : nc ≤ 300) (i : Nat) (hi : i < nc) (hx : c.getD i 0 = 19) :
    Calls Tryz.prog 39 #[.agg #[.slice (some ⟨g, 0, none⟩) n cap, .int .i64 (oi : Int), .int .i64 (oe : Int), .int .i64 (va : Int)], .slice ao nc capc, .int .i64 (i : Int)] w fun e w' => ∃ g' n' cap', e = .returned (.agg #[.slice (some ⟨g', 0, none⟩) n' cap', .int .i64 ((Ex.pdf ⟨st, oi, oe, va⟩).oi : Int), .int .i64 ((Ex.pdf ⟨st, oi, oe, va⟩).oe : Int), .int .i64 ((Ex.pdf ⟨st, oi, oe, va⟩).va : Int)]) ∧ WA w' (Ex.pdf ⟨st, oi, oe, va⟩).st g' n' cap' ∧ Below w.heap.size w w' := by
  have hlo := hok.ch.lo
  have hhi := hok.ch.hi (by omega)
  have hpos := hok.ch.pos
  have hcl := hok.ch.len
  have hkoi := hok.oi
  have hkoe := hok.oe
  have hkva : va ≤ 126 := by have h1 : va = Ex.cn st := hok.va; have h2 := Ex.cn_le st; simp only at hcl hhi hlo; omega
  simp only at hlo hhi hpos hcl hkoi hkoe
  have hln := h.len
  have hn0 : 0 < n := by omega
  have hn2 : n ≤ 200 := by omega
  obtain ⟨W, hW⟩ : ∃ W, (w.alloc (.cells #[.slice (some ⟨g, 0, none⟩) n cap, .int .i64 (oi : Int), .int .i64 (oe : Int), .int .i64 (va : Int)] 74)).alloc (.cells #[.slice none 0 0, .int .i64 0, .int .i64 0, .int .i64 0] 74) = W := ⟨_, rfl⟩
  have hB : WB w W w.heap.size (w.heap.size + 1) g n cap (oi : Int) (oe : Int) (va : Int) := by rw [← hW]; exact WB.begin w g n cap oi oe va
  have hA : WA W st g n cap := h.below hB.bel
  have HA := hide hA
  have HB := hide hB
  have hfl := rfield_lv
  have hfo := rfield_ov
  have hfi := rfield_is
  have hrW := hr.below hB.bel
  have HRW := hide hrW
  obtain ⟨cb, off, rfl, hbl, hcc⟩ := hrW.cells (by omega)
  have ck : W.cell? ⟨cb, off + i, none⟩ = some (.int .i64 (c.getD i 0)) := hcc i (by rw [hr.len]; exact hi)
  rw [hx] at ck
  have hin : (i : Int) < (nc : Int) := by omega
  obtain ⟨p0, p1, p2, p3⟩ := hB.c
  obtain ⟨q0, q1, q2, q3⟩ := hB.qc
  have pf1 := hB.f 1
  have pf2 := hB.f 2
  have pf3 := hB.f 3
  have qf0 := hB.qf 0
  have qf1 := hB.qf 1
  have qf2 := hB.qf 2
  have qf3 := hB.qf 3
  have npq : ¬ w.heap.size + 1 = w.heap.size := by omega
  have npq2 : ¬ w.heap.size = w.heap.size + 1 := by omega
  have HL := hide (rlast_any hA hn0 oi oe va)
  clear hcc hrW hr h hB hx
  by_cases c1 : 0 < oi
  · have e1 : Ex.pdf ⟨st, oi, oe, va⟩ = ⟨st, oi, oe, va⟩ := by unfold Ex.pdf; rw [if_pos c1]
    rw [e1]
    have c1' : (0 : Int) < (oi : Int) := by omega
    clear e1 hok HL
    go_enter Tryz.func39, Tryz.ntmps39
    go_wp2
    exact bodyPost_ret (results1 Tryz.results39 _ _ _ (w.heap.size + 1) _ rfl (way_out HB.out g n cap oi oe va)) rfl ⟨g, n, cap, rfl, (HA.out).set4' ((HA.out).notWay (HB.out).hq) g n cap oi oe va, way_bel HB.out g n cap oi oe va⟩
  · have c1' : ¬ (0 : Int) < (oi : Int) := by omega
    by_cases c2 : 0 < oe
    · have e1 : Ex.pdf ⟨st, oi, oe, va⟩ = ⟨st, oi, oe - 1, va⟩ := by unfold Ex.pdf; rw [if_neg c1, if_pos c2]
      rw [e1]
      have c2' : (0 : Int) < (oe : Int) := by omega
      have e2 : ((oe - 1 : Nat) : Int) = (oe : Int) - 1 := by omega
      have HB2 := hide (HB.out.setOe ((oe : Int) - 1))
      have HA2 := hide (HA.out.other (p := w.heap.size) (j := 2) (v := .int .i64 ((oe : Int) - 1)) (HA.out.notWay HB.out.hp))
      have HE := hide e2
      clear e1 hok HL e2
      go_enter Tryz.func39, Tryz.ntmps39
      go_wp2
      exact bodyPost_ret (results1 Tryz.results39 _ _ _ (w.heap.size + 1) _ rfl (way_out HB2.out g n cap oi ((oe : Int) - 1) va)) rfl ⟨g, n, cap, by rw [HE.out], (HA2.out).set4' ((HA2.out).notWay (HB2.out).hq) g n cap oi ((oe : Int) - 1) va, way_bel HB2.out g n cap oi ((oe : Int) - 1) va⟩
    · have c2' : ¬ (0 : Int) < (oe : Int) := by omega
      have e0 : Ex.pdf ⟨st, oi, oe, va⟩ = if (Ex.hd st).is = false ∧ 1 < st.length then ⟨st.tail, oi, oe, va⟩ else ⟨st, oi, oe, va⟩ := by unfold Ex.pdf; rw [if_neg c1, if_neg c2]
      cases his : (Ex.hd st).is with
      | true =>
        have e1 : Ex.pdf ⟨st, oi, oe, va⟩ = ⟨st, oi, oe, va⟩ := by rw [e0, if_neg (fun h => by rw [his] at h; cases h.1)]
        rw [e1]
        rw [his] at HL
        generalize (Ex.hd st).lv = lv at *
        generalize (Ex.hd st).ov = ov at *
        clear e0 e1 hok his
        go_enter Tryz.func39, Tryz.ntmps39
        go_wp2_with fail
        refine HL.out.mono ?_
        rintro e w3 ⟨rfl, hb3⟩
        have hB3 := HB.out.below hb3
        have hA3 := HA.out.below hb3
        obtain ⟨r0, r1, r2, r3⟩ := hB3.c
        obtain ⟨s0, s1, s2, s3⟩ := hB3.qc
        have sf0 := hB3.qf 0
        have sf1 := hB3.qf 1
        have sf2 := hB3.qf 2
        have sf3 := hB3.qf 3
        have HB3 := hide hB3
        have HA3 := hide hA3
        clear hB3 hA3 hb3 HL
        go_wp2
        exact bodyPost_ret (results1 Tryz.results39 _ _ _ (w.heap.size + 1) _ rfl (way_out HB3.out g n cap oi oe va)) rfl ⟨g, n, cap, rfl, (HA3.out).set4' ((HA3.out).notWay (HB3.out).hq) g n cap oi oe va, way_bel HB3.out g n cap oi oe va⟩
      | false =>
        rw [his] at HL
        by_cases hl1 : 1 < st.length
        · have e1 : Ex.pdf ⟨st, oi, oe, va⟩ = ⟨st.tail, oi, oe, va⟩ := by rw [e0, if_pos ⟨his, hl1⟩]
          rw [e1]
          obtain ⟨m, rfl⟩ : ∃ m, n = m + 1 := ⟨n - 1, by omega⟩
          have hm1 : (1 : Int) < ((m + 1 : Nat) : Int) := by omega
          generalize (Ex.hd st).lv = lv at *
          generalize (Ex.hd st).ov = ov at *
          clear e0 e1 hok his
          go_enter Tryz.func39, Tryz.ntmps39
          go_wp2_with fail
          refine HL.out.mono ?_
          rintro e w3 ⟨rfl, hb3⟩
          have hB3 := HB.out.below hb3
          have hA3 := HA.out.below hb3
          obtain ⟨r0, r1, r2, r3⟩ := hB3.c
          have HLS := hide (rless_any hA3 rfl oi oe va)
          have HB3 := hide hB3
          have HA3 := hide hA3
          clear hB3 hA3 hb3 HL
          go_wp2_with fail
          refine HLS.out.mono ?_
          rintro e w4 ⟨rfl, hb4⟩
          have hB4 := HB3.out.below hb4
          have hA4 := (HA3.out.below hb4).pop rfl
          obtain ⟨t0, t1, t2, t3⟩ := hB4.c
          have tf0 := hB4.f 0
          have tf1 := hB4.f 1
          have tf2 := hB4.f 2
          have tf3 := hB4.f 3
          have hA5 := hA4.set4' (hA4.notWay hB4.hp) g m cap oi oe va
          have hB5 := hB4.set4' g m cap oi oe va
          obtain ⟨s0, s1, s2, s3⟩ := hB4.qc
          have sf0 := hB4.qf 0
          have sf1 := hB4.qf 1
          have sf2 := hB4.qf 2
          have sf3 := hB4.qf 3
          have HB5 := hide hB5
          have HA5 := hide hA5
          clear hB4 hA4 hB5 hA5 hb4 HLS
          go_wp2
          exact bodyPost_ret (results1 Tryz.results39 _ _ _ (w.heap.size + 1) _ rfl (way_out HB5.out g m cap oi oe va)) rfl ⟨g, m, cap, rfl, (HA5.out).set4' ((HA5.out).notWay (HB5.out).hq) g m cap oi oe va, way_bel HB5.out g m cap oi oe va⟩
        · have e1 : Ex.pdf ⟨st, oi, oe, va⟩ = ⟨st, oi, oe, va⟩ := by rw [e0, if_neg (fun h => hl1 h.2)]
          rw [e1]
          have hm1 : ¬ (1 : Int) < (n : Int) := by omega
          generalize (Ex.hd st).lv = lv at *
          generalize (Ex.hd st).ov = ov at *
          clear e0 e1 hok his
          go_enter Tryz.func39, Tryz.ntmps39
          go_wp2_with fail
          refine HL.out.mono ?_
          rintro e w3 ⟨rfl, hb3⟩
          have hB3 := HB.out.below hb3
          have hA3 := HA.out.below hb3
          obtain ⟨r0, r1, r2, r3⟩ := hB3.c
          obtain ⟨s0, s1, s2, s3⟩ := hB3.qc
          have sf0 := hB3.qf 0
          have sf1 := hB3.qf 1
          have sf2 := hB3.qf 2
          have sf3 := hB3.qf 3
          have HB3 := hide hB3
          have HA3 := hide hA3
          clear hB3 hA3 hb3 HL
          go_wp2
          exact bodyPost_ret (results1 Tryz.results39 _ _ _ (w.heap.size + 1) _ rfl (way_out HB3.out g n cap oi oe va)) rfl ⟨g, n, cap, rfl, (HA3.out).set4' ((HA3.out).notWay (HB3.out).hq) g n cap oi oe va, way_bel HB3.out g n cap oi oe va⟩
end Go.Proofs.YtfadjgaledddjaaGreatDoor

/- The document's behind, at a PDI, at embeddings and at initiators. -/
namespace Go.Proofs.YtfadjgaledddjaaGreatDoor
open Go.RowKit
set_option linter.unusedVariables false
set_option maxHeartbeats 2000000
set_option maxRecDepth 100000
theorem rbeh_pdi {w : World} {st : List Ex.Ent} {g n cap : Nat} {oi oe va : Nat} {b : Int} {k : Nat} (h : WA w st g n cap) (hok : Ex.Ok b ⟨st, oi, oe, va⟩ k) (hb0 : 0 ≤ b) (hb1 : b ≤ 1) (hk : k ≤ 1000) (ao : Option Addr) (nc capc : Nat) (c : List Int) (hr : Row .i64 w ao nc capc c) (hnc : nc ≤ 300) (i : Nat) (hi : i < nc) (hx : c.getD i 0 = 23) :
    Calls Tryz.prog 39 #[.agg #[.slice (some ⟨g, 0, none⟩) n cap, .int .i64 (oi : Int), .int .i64 (oe : Int), .int .i64 (va : Int)], .slice ao nc capc, .int .i64 (i : Int)] w fun e w' => ∃ g' n' cap', e = .returned (.agg #[.slice (some ⟨g', 0, none⟩) n' cap', .int .i64 ((Ex.pdi ⟨st, oi, oe, va⟩).oi : Int), .int .i64 ((Ex.pdi ⟨st, oi, oe, va⟩).oe : Int), .int .i64 ((Ex.pdi ⟨st, oi, oe, va⟩).va : Int)]) ∧ WA w' (Ex.pdi ⟨st, oi, oe, va⟩).st g' n' cap' ∧ Below w.heap.size w w' := by
  have hlo := hok.ch.lo
  have hhi := hok.ch.hi (by omega)
  have hpos := hok.ch.pos
  have hcl := hok.ch.len
  have hkoi := hok.oi
  have hkoe := hok.oe
  have hkva : va ≤ 126 := by have h1 : va = Ex.cn st := hok.va; have h2 := Ex.cn_le st; simp only at hcl hhi hlo; omega
  simp only at hlo hhi hpos hcl hkoi hkoe
  have hln := h.len
  have hn0 : 0 < n := by omega
  have hn2 : n ≤ 200 := by omega
  obtain ⟨W, hW⟩ : ∃ W, (w.alloc (.cells #[.slice (some ⟨g, 0, none⟩) n cap, .int .i64 (oi : Int), .int .i64 (oe : Int), .int .i64 (va : Int)] 74)).alloc (.cells #[.slice none 0 0, .int .i64 0, .int .i64 0, .int .i64 0] 74) = W := ⟨_, rfl⟩
  have hB : WB w W w.heap.size (w.heap.size + 1) g n cap (oi : Int) (oe : Int) (va : Int) := by rw [← hW]; exact WB.begin w g n cap oi oe va
  have hA : WA W st g n cap := h.below hB.bel
  have HA := hide hA
  have HB := hide hB
  have hfl := rfield_lv
  have hfo := rfield_ov
  have hfi := rfield_is
  have hrW := hr.below hB.bel
  have HRW := hide hrW
  obtain ⟨cb, off, rfl, hbl, hcc⟩ := hrW.cells (by omega)
  have ck : W.cell? ⟨cb, off + i, none⟩ = some (.int .i64 (c.getD i 0)) := hcc i (by rw [hr.len]; exact hi)
  rw [hx] at ck
  have hin : (i : Int) < (nc : Int) := by omega
  obtain ⟨p0, p1, p2, p3⟩ := hB.c
  obtain ⟨q0, q1, q2, q3⟩ := hB.qc
  have pf1 := hB.f 1
  have pf2 := hB.f 2
  have pf3 := hB.f 3
  have qf0 := hB.qf 0
  have qf1 := hB.qf 1
  have qf2 := hB.qf 2
  have qf3 := hB.qf 3
  have npq : ¬ w.heap.size + 1 = w.heap.size := by omega
  have npq2 : ¬ w.heap.size = w.heap.size + 1 := by omega
  clear hcc hrW hr h hB hx
  by_cases c1 : 0 < oi
  · have e1 : Ex.pdi ⟨st, oi, oe, va⟩ = ⟨st, oi - 1, oe, va⟩ := by unfold Ex.pdi; rw [if_pos c1]
    rw [e1]
    have c1' : (0 : Int) < (oi : Int) := by omega
    have e2 : ((oi - 1 : Nat) : Int) = (oi : Int) - 1 := by omega
    have HB2 := hide (HB.out.setOi ((oi : Int) - 1))
    have HA2 := hide (HA.out.other (p := w.heap.size) (j := 1) (v := .int .i64 ((oi : Int) - 1)) (HA.out.notWay HB.out.hp))
    have HE := hide e2
    clear e1 hok e2
    go_enter Tryz.func39, Tryz.ntmps39
    go_wp2
    exact bodyPost_ret (results1 Tryz.results39 _ _ _ (w.heap.size + 1) _ rfl (way_out HB2.out g n cap ((oi : Int) - 1) oe va)) rfl ⟨g, n, cap, by rw [HE.out], (HA2.out).set4' ((HA2.out).notWay (HB2.out).hq) g n cap ((oi : Int) - 1) oe va, way_bel HB2.out g n cap ((oi : Int) - 1) oe va⟩
  · have c1' : ¬ (0 : Int) < (oi : Int) := by omega
    by_cases c2 : va = 0
    · have e1 : Ex.pdi ⟨st, oi, oe, va⟩ = ⟨st, oi, oe, va⟩ := by unfold Ex.pdi; rw [if_neg c1, if_pos c2]
      rw [e1]
      have c2' : ¬ (0 : Int) < (va : Int) := by omega
      clear e1 hok c2
      go_enter Tryz.func39, Tryz.ntmps39
      go_wp2
      exact bodyPost_ret (results1 Tryz.results39 _ _ _ (w.heap.size + 1) _ rfl (way_out HB.out g n cap oi oe va)) rfl ⟨g, n, cap, rfl, (HA.out).set4' ((HA.out).notWay (HB.out).hq) g n cap oi oe va, way_bel HB.out g n cap oi oe va⟩
    · have c2' : (0 : Int) < (va : Int) := by omega
      have e1 : Ex.pdi ⟨st, oi, oe, va⟩ = ⟨Ex.pi st, oi, 0, va - 1⟩ := by unfold Ex.pdi; rw [if_neg c1, if_neg c2]
      rw [e1]
      have hcn : 0 < Ex.cn st := by have h1 : va = Ex.cn st := hok.va; omega
      have HE := hide (show ((va - 1 : Nat) : Int) = (va : Int) - 1 from by omega)
      have HB2 := hide (HB.out.setOe 0)
      have HA2 := hide (HA.out.other (p := w.heap.size) (j := 2) (v := .int .i64 0) (HA.out.notWay HB.out.hp))
      have HC := hide hcn
      obtain ⟨R, hR⟩ : ∃ R, Ex.pi st = R := ⟨_, rfl⟩
      rw [hR]
      have HR := hide hR
      have HLN := hide hln
      clear e1 hok hcn hR hln hpos hcl hlo hhi
      go_enter Tryz.func39, Tryz.ntmps39
      go_wp2_with (go_at_call 40; fail)
      clear p0 p1 p2 p3 q0 q1 q2 q3 pf1 pf2 pf3 qf0 qf1 qf2 qf3 ck
      go_loopg [] n (fun k wr => ∃ l : List Ex.Ent, Hid (l.length = k) ∧ Hid (Ex.pi l = R) ∧ Hid (0 < Ex.cn l) ∧ Hid (WB w wr w.heap.size (w.heap.size + 1) g k cap oi 0 va) ∧ Hid (WA wr l g k cap))
      case atStart => exact ⟨st, HLN, HR, HC, HB2, HA2⟩
      case round =>
        obtain ⟨l, hl, hR, hC, hB, hA⟩ := hrel
        have hpos : 0 < l.length := cn_pos hC.out
        have hlk := hl.out
        subst hlk
        obtain ⟨m, hm⟩ : ∃ m, l.length = m + 1 := ⟨l.length - 1, by omega⟩
        rw [hm] at hB hA
        have HL := hide (rlast_any hA.out (by omega) oi 0 va)
        have HM := hide hm
        have HMM : Hid (m ≤ l.length) := hide (by omega)
        have hph := pi_head hpos
        obtain ⟨r0, r1, r2, r3⟩ := hB.out.c
        clear hl hpos hm
        rcases hph with ⟨hi, hp⟩ | ⟨hi, hp, hc⟩
        · rw [hi] at HL
          rw [hR.out] at hp
          have HP := hide hp
          generalize (Ex.hd l).lv = lv at *
          generalize (Ex.hd l).ov = ov at *
          clear hp hi
          go_wp2_with fail
          refine HL.out.mono ?_
          rintro e w3 ⟨rfl, hb3⟩
          have hB3 := hB.out.below hb3
          have hA3 := hA.out.below hb3
          have HLS := hide (rless_any hA3 rfl oi 0 va)
          obtain ⟨s0, s1, s2, s3⟩ := hB3.c
          have HB3 := hide hB3
          have HA3 := hide hA3
          clear hB3 hA3 hb3 HL r0 r1 r2 r3
          go_wp2_with fail
          refine HLS.out.mono ?_
          rintro e w4 ⟨rfl, hb4⟩
          have hB4 := HB3.out.below hb4
          have hA4 := (HA3.out.below hb4).pop rfl
          have hA5 := hA4.set4' (hA4.notWay hB4.hp) g m cap oi 0 va
          have hB5 := hB4.set4' g m cap oi 0 va
          obtain ⟨W5, hW5⟩ : ∃ W5, (((w4.setCell ⟨w.heap.size, 0, none⟩ (.slice (some ⟨g, 0, none⟩) m cap)).setCell ⟨w.heap.size, 1, none⟩ (.int .i64 (oi : Int))).setCell ⟨w.heap.size, 2, none⟩ (.int .i64 0)).setCell ⟨w.heap.size, 3, none⟩ (.int .i64 (va : Int)) = W5 := ⟨_, rfl⟩
          rw [hW5] at hB5 hA5
          have hB6 := hB5.setVa ((va : Int) - 1)
          have hA6 := hA5.other (p := w.heap.size) (j := 3) (v := .int .i64 ((va : Int) - 1)) (hA5.notWay hB5.hp)
          obtain ⟨W6, hW6⟩ : ∃ W6, W5.setCell ⟨w.heap.size, 3, none⟩ (.int .i64 ((va : Int) - 1)) = W6 := ⟨_, rfl⟩
          rw [hW6] at hB6 hA6
          have HB6 := hide hB6
          have HA6 := hide hA6
          obtain ⟨t0, t1, t2, t3⟩ := hB4.c
          have tf0 := hB4.f 0
          have tf1 := hB4.f 1
          have tf2 := hB4.f 2
          have tf3 := hB4.f 3
          obtain ⟨_, _, _, v3⟩ := hB5.c
          have vf3 := hB5.f 3
          obtain ⟨x0, x1, x2, x3⟩ := hB6.c
          obtain ⟨y0, y1, y2, y3⟩ := hB6.qc
          have yf0 := hB6.qf 0
          have yf1 := hB6.qf 1
          have yf2 := hB6.qf 2
          have yf3 := hB6.qf 3
          clear hB4 hA4 hB5 hA5 hB6 hA6 hb4 HLS s0 s1 s2 s3
          go_wp2
          exact bodyPost_ret (results1 Tryz.results39 _ _ _ (w.heap.size + 1) _ rfl (way_out HB6.out g m cap oi 0 ((va : Int) - 1))) rfl ⟨g, m, cap, by rw [HE.out]; rfl, by rw [HP.out]; exact (HA6.out).set4' ((HA6.out).notWay (HB6.out).hq) g m cap oi 0 ((va : Int) - 1), way_bel HB6.out g m cap oi 0 ((va : Int) - 1)⟩
        · rw [hi] at HL
          rw [hR.out] at hp
          have HP := hide hp.symm
          have HCN := hide (show 0 < Ex.cn l.tail from by rw [hc]; exact hC.out)
          generalize (Ex.hd l).lv = lv at *
          generalize (Ex.hd l).ov = ov at *
          clear hp hi hc
          go_wp2_with fail
          refine HL.out.mono ?_
          rintro e w3 ⟨rfl, hb3⟩
          have hB3 := hB.out.below hb3
          have hA3 := hA.out.below hb3
          have HLS := hide (rless_any hA3 rfl oi 0 va)
          obtain ⟨s0, s1, s2, s3⟩ := hB3.c
          have HB3 := hide hB3
          have HA3 := hide hA3
          clear hB3 hA3 hb3 HL r0 r1 r2 r3
          go_wp2_with fail
          refine HLS.out.mono ?_
          rintro e w4 ⟨rfl, hb4⟩
          have hB4 := HB3.out.below hb4
          have hA4 := (HA3.out.below hb4).pop rfl
          have HA5 := hide (hA4.set4' (hA4.notWay hB4.hp) g m cap oi 0 va)
          have HB5 := hide (hB4.set4' g m cap oi 0 va)
          obtain ⟨t0, t1, t2, t3⟩ := hB4.c
          obtain ⟨u0, u1, u2, u3⟩ := hB4.qc
          have tf0 := hB4.f 0
          have tf1 := hB4.f 1
          have tf2 := hB4.f 2
          have tf3 := hB4.f 3
          have uf0 := hB4.qf 0
          have uf1 := hB4.qf 1
          have uf2 := hB4.qf 2
          have uf3 := hB4.qf 3
          clear hB4 hA4 hb4 HLS s0 s1 s2 s3
          go_wp2
          go_roundg m
          case measure => have := HM.out; omega
          case rel => exact ⟨l.tail, hide (by rw [List.length_tail, HM.out]; rfl), HP, HCN, HB5, HA5⟩
end Go.Proofs.YtfadjgaledddjaaGreatDoor

/- The document's behind, at embeddings and at initiators. -/
namespace Go.Proofs.YtfadjgaledddjaaGreatDoor
open Go.RowKit
set_option linter.unusedVariables false
set_option maxHeartbeats 2000000
set_option maxRecDepth 100000
theorem radd_yes' {w : World} {st : List Ex.Ent} {g n cap : Nat} (h : WA w st g n cap) (hn : 0 < n) (hn2 : n ≤ 200) (zi zo va : Int) (hzi : zi = 0) (hzo : zo = 0) (o : Bool) (ov : Int) (is : Bool) (h0 : 0 ≤ (Ex.hd st).lv) (h1 : (Ex.hd st).lv ≤ 125) (hc : Ex.nl (Ex.hd st).lv o ≤ 125) :
    Calls Tryz.prog 67 #[.agg #[.slice (some ⟨g, 0, none⟩) n cap, .int .i64 zi, .int .i64 zo, .int .i64 va], .bool o, .int .i64 ov, .bool is] w fun e w' => ∃ g' cap', e = .returned (.tuple #[.agg #[.slice (some ⟨g', 0, none⟩) (n + 1) cap', .int .i64 zi, .int .i64 zo, .int .i64 va], .bool true]) ∧ WA w' (⟨Ex.nl (Ex.hd st).lv o, ov, is⟩ :: st) g' (n + 1) cap' ∧ Below w.heap.size w w' := by
  subst hzi hzo
  exact radd_yes h hn hn2 va o ov is h0 h1 hc
end Go.Proofs.YtfadjgaledddjaaGreatDoor
