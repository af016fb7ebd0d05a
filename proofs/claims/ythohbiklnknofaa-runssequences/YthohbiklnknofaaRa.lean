/- The document's stack: add, odd. -/
import Derived.Test.YthohbiklnknofaaRw
namespace Go.Proofs.Ythohbiklnknofaa
open Go.RowKit
set_option linter.unusedVariables false
set_option maxHeartbeats 1000000
set_option maxRecDepth 100000
/-- A Way's cells. -/
def wc4 (g n cap : Nat) (oi oe va : Int) : Array Value := #[.slice (some ⟨g, 0, none⟩) n cap, .int .i64 oi, .int .i64 oe, .int .i64 va]
/-- Two variables of the type Way: one at p, the result at q. -/
structure WB (w W : World) (p q : Nat) (g n cap : Nat) (oi oe va : Int) : Prop where
  hp : W.heap[p]? = some (.cells (wc4 g n cap oi oe va) 68 (0, 0))
  hq : W.heap[q]? = some (.cells #[.slice none 0 0, .int .i64 0, .int .i64 0, .int .i64 0] 68 (0, 0))
  ne : ¬ p = q
  le : w.heap.size ≤ p ∧ w.heap.size ≤ q
  bel : Below w.heap.size w W
section
variable {w W : World} {p q g n cap : Nat} {oi oe va : Int}
theorem WB.begin (w : World) (g n cap : Nat) (oi oe va : Int) : WB w ((w.alloc (.cells #[.slice (some ⟨g, 0, none⟩) n cap, .int .i64 oi, .int .i64 oe, .int .i64 va] 68)).alloc (.cells #[.slice none 0 0, .int .i64 0, .int .i64 0, .int .i64 0] 68)) w.heap.size (w.heap.size + 1) g n cap oi oe va :=
  ⟨heap_alloc2_old w _ _, heap_alloc2_new w _ _, by omega, by omega, Below.alloc (Below.alloc (Below.refl _ _) (Nat.le_refl _) _) (by simp) _⟩
theorem WB.lt (h : WB w W p q g n cap oi oe va) : p < W.heap.size ∧ q < W.heap.size := ⟨(Array.getElem?_eq_some_iff.1 h.hp).1, (Array.getElem?_eq_some_iff.1 h.hq).1⟩
theorem WB.below (h : WB w W p q g n cap oi oe va) {W' : World} (hb : Below W.heap.size W W') : WB w W' p q g n cap oi oe va :=
  ⟨(hb.block p h.lt.1).trans h.hp, (hb.block q h.lt.2).trans h.hq, h.ne, h.le, KO.on h.bel hb⟩
theorem WB.c (h : WB w W p q g n cap oi oe va) : W.cell? ⟨p, 0, none⟩ = some (.slice (some ⟨g, 0, none⟩) n cap) ∧ W.cell? ⟨p, 1, none⟩ = some (.int .i64 oi) ∧ W.cell? ⟨p, 2, none⟩ = some (.int .i64 oe) ∧ W.cell? ⟨p, 3, none⟩ = some (.int .i64 va) := by
  refine ⟨?_, ?_, ?_, ?_⟩ <;> simp [World.cell?, h.hp, wc4]
theorem WB.f (h : WB w W p q g n cap oi oe va) (j : Nat) : W.frozen? ⟨p, j, none⟩ = false := by simp [World.frozen?, h.hp]
theorem WB.qc (h : WB w W p q g n cap oi oe va) : W.cell? ⟨q, 0, none⟩ = some (.slice none 0 0) ∧ W.cell? ⟨q, 1, none⟩ = some (.int .i64 0) ∧ W.cell? ⟨q, 2, none⟩ = some (.int .i64 0) ∧ W.cell? ⟨q, 3, none⟩ = some (.int .i64 0) := by
  refine ⟨?_, ?_, ?_, ?_⟩ <;> simp [World.cell?, h.hq]
theorem WB.qf (h : WB w W p q g n cap oi oe va) (j : Nat) : W.frozen? ⟨q, j, none⟩ = false := by simp [World.frozen?, h.hq]
theorem set_heap {W : World} {p j : Nat} {cs : Array Value} {t : TypeId} (h : W.heap[p]? = some (.cells cs t (0, 0))) (v : Value) : (W.setCell ⟨p, j, none⟩ v).heap[p]? = some (.cells (cs.setIfInBounds j v) t (0, 0)) := by
  rw [setCell_eq_setRow W p j _ _ _ v h]
  exact setRow_heap W p _ _ _ _ h
theorem set_heap_other {W : World} {p q j : Nat} {o : Option Obj} (h : W.heap[q]? = o) (hne : ¬ p = q) (v : Value) : (W.setCell ⟨p, j, none⟩ v).heap[q]? = o := by
  rw [← h]
  unfold World.setCell
  simp [Array.getElem?_modify, hne]
theorem WB.setSl (h : WB w W p q g n cap oi oe va) (g' n' cap' : Nat) : WB w (W.setCell ⟨p, 0, none⟩ (.slice (some ⟨g', 0, none⟩) n' cap')) p q g' n' cap' oi oe va :=
  ⟨set_heap h.hp _, set_heap_other h.hq h.ne _, h.ne, h.le, h.bel.setCell (p := ⟨p, 0, none⟩) h.le.1 _⟩
theorem WB.setOi (h : WB w W p q g n cap oi oe va) (z : Int) : WB w (W.setCell ⟨p, 1, none⟩ (.int .i64 z)) p q g n cap z oe va :=
  ⟨set_heap h.hp _, set_heap_other h.hq h.ne _, h.ne, h.le, h.bel.setCell (p := ⟨p, 1, none⟩) h.le.1 _⟩
theorem WB.setOe (h : WB w W p q g n cap oi oe va) (z : Int) : WB w (W.setCell ⟨p, 2, none⟩ (.int .i64 z)) p q g n cap oi z va :=
  ⟨set_heap h.hp _, set_heap_other h.hq h.ne _, h.ne, h.le, h.bel.setCell (p := ⟨p, 2, none⟩) h.le.1 _⟩
theorem WB.setVa (h : WB w W p q g n cap oi oe va) (z : Int) : WB w (W.setCell ⟨p, 3, none⟩ (.int .i64 z)) p q g n cap oi oe z :=
  ⟨set_heap h.hp _, set_heap_other h.hq h.ne _, h.ne, h.le, h.bel.setCell (p := ⟨p, 3, none⟩) h.le.1 _⟩
/-- Four cells stored. -/
def set4 (W : World) (p g n cap : Nat) (oi oe va : Int) : World := (((W.setCell ⟨p, 0, none⟩ (.slice (some ⟨g, 0, none⟩) n cap)).setCell ⟨p, 1, none⟩ (.int .i64 oi)).setCell ⟨p, 2, none⟩ (.int .i64 oe)).setCell ⟨p, 3, none⟩ (.int .i64 va)
theorem WB.set4 (h : WB w W p q g n cap oi oe va) (g' n' cap' : Nat) (a b c : Int) : WB w (set4 W p g' n' cap' a b c) p q g' n' cap' a b c := (((h.setSl g' n' cap').setOi a).setOe b).setVa c
theorem WB.out (h : WB w W p q g n cap oi oe va) (g' n' cap' : Nat) (a b c : Int) : (Go.Proofs.Ythohbiklnknofaa.set4 W q g' n' cap' a b c).heap[q]? = some (.cells (wc4 g' n' cap' a b c) 68 (0, 0)) ∧ Below w.heap.size w (Go.Proofs.Ythohbiklnknofaa.set4 W q g' n' cap' a b c) :=
  ⟨set_heap (set_heap (set_heap (set_heap h.hq _) _) _) _, (((h.bel.setCell (p := ⟨q, 0, none⟩) h.le.2 _).setCell (p := ⟨q, 1, none⟩) h.le.2 _).setCell (p := ⟨q, 2, none⟩) h.le.2 _).setCell (p := ⟨q, 3, none⟩) h.le.2 _⟩
end
theorem WA.set4 {W : World} {st : List Ex.Ent} {g n cap p : Nat} (h : WA W st g n cap) (hne : ¬ g = p) (g' n' cap' : Nat) (a b c : Int) : WA (set4 W p g' n' cap' a b c) st g n cap := (((h.other hne).other hne).other hne).other hne
theorem WA.notWay {W : World} {st : List Ex.Ent} {g n cap p : Nat} {cs : Array Value} (h : WA W st g n cap) (hp : W.heap[p]? = some (.cells cs 68 (0, 0))) : ¬ g = p := by
  rintro rfl
  rcases h.2 with ⟨h0, _⟩ | ⟨g2, cap2, cur, hv2, hbs, hg2, rest⟩
  · cases h0
  · cases hv2
    rw [hp] at hg2
    simp at hg2
theorem owns_empty3 (w : World) (e : TypeId) (b : Nat) (hb : w.heap.size = b) : (w.alloc (.cells #[] e)).ownsRow b e 3 (.slice (some ⟨b, 0, none⟩) 0 0) 0 [] := by
  subst hb
  exact World.ownsRow_made w #[] 0 (Nat.le_refl _) (Nat.zero_le _) rfl
theorem rbuild_ent (l o : Int) (i : Bool) (w : World) : (Instr.build 72 #[(0, .int .i64 l), (1, .int .i64 o), (2, .bool i)]).run Try.prog w = .ok (.agg #[.int .i64 l, .int .i64 o, .bool i]) w := run_build w 72 _ _ (by kernel_rfl)
theorem rbuild_ent1 (x y : Int) (z : Bool) (w : World) : (Instr.buildSlice 66 1 #[(0, .agg #[.int .i64 x, .int .i64 y, .bool z])]).run Try.prog w = .ok (.slice (some ⟨w.heap.size, 0, none⟩) 1 1) (w.alloc (.cells #[.int .i64 x, .int .i64 y, .bool z] 72)) := by
  have hq := rentInfo
  cases hi : Try.prog.info? 72 with
  | none => rw [hi] at hq; cases hq
  | some ie =>
    rw [hi] at hq
    simp only [Option.map_some, Option.some.injEq, Prod.mk.injEq] at hq
    refine run_buildSlice w 66 72 1 _ _ ie _ Try.underlying66 hi hq.1 (by rw [hq.2.1]; decide) (by rw [hq.2.1]; decide) ?_
    rw [hq.2.1]
    kernel_rfl
theorem rfield_lv (a b : Int) (c : Bool) (w : World) : (Instr.field 72 (.agg #[.int .i64 a, .int .i64 b, .bool c]) 0).run Try.prog w = .ok (.int .i64 a) w := by kernel_rfl
theorem rfield_ov (a b : Int) (c : Bool) (w : World) : (Instr.field 72 (.agg #[.int .i64 a, .int .i64 b, .bool c]) 1).run Try.prog w = .ok (.int .i64 b) w := by kernel_rfl
theorem rfield_is (a b : Int) (c : Bool) (w : World) : (Instr.field 72 (.agg #[.int .i64 a, .int .i64 b, .bool c]) 2).run Try.prog w = .ok (.bool c) w := by kernel_rfl
theorem wayInfo : (Try.prog.info? 68).map (·.size) = some 4 := by kernel_rfl
theorem results2 {fn : Func} {p u : Tmp} {ty : TypeId} (h : fn.results = #[.cell p ty, .tmp u]) (tmps : Array Value) (P : Program) (w : World) (g : Nat) (v x : Value) (hp : tmps.getD p undef = .pointer (some ⟨g, 0, none⟩)) (hu : tmps.getD u undef = x) (hl : (loadVar ty ⟨g, 0, none⟩).run P w = .ok v w) : (results fn tmps).run P w = .ok (.tuple #[v, x]) w := by
  rw [results_cell_tmp h, hp, hu]
  simp only [asAddr, Sem.run_pure, Result.andThen_ok, hl]
theorem results1 {fn : Func} {p : Tmp} {ty : TypeId} (h : fn.results = #[.cell p ty]) (tmps : Array Value) (P : Program) (w : World) (g : Nat) (v : Value) (hp : tmps.getD p undef = .pointer (some ⟨g, 0, none⟩)) (hl : (loadVar ty ⟨g, 0, none⟩).run P w = .ok v w) : (results fn tmps).run P w = .ok v w := by
  have hp' : tmps[p]?.getD undef = .pointer (some ⟨g, 0, none⟩) := by simpa using hp
  simp [results, h, hp', asAddr, hl]
theorem way_out {w W : World} {p q g n cap : Nat} {oi oe va : Int} (h : WB w W p q g n cap oi oe va) (g' n' cap' : Nat) (a b c : Int) : (loadVar 68 ⟨q, 0, none⟩).run Try.prog ((((W.setCell ⟨q, 0, none⟩ (.slice (some ⟨g', 0, none⟩) n' cap')).setCell ⟨q, 1, none⟩ (.int .i64 a)).setCell ⟨q, 2, none⟩ (.int .i64 b)).setCell ⟨q, 3, none⟩ (.int .i64 c)) = .ok (.agg #[.slice (some ⟨g', 0, none⟩) n' cap', .int .i64 a, .int .i64 b, .int .i64 c]) ((((W.setCell ⟨q, 0, none⟩ (.slice (some ⟨g', 0, none⟩) n' cap')).setCell ⟨q, 1, none⟩ (.int .i64 a)).setCell ⟨q, 2, none⟩ (.int .i64 b)).setCell ⟨q, 3, none⟩ (.int .i64 c)) :=
  run_loadVar_row (P := Try.prog) _ q 68 68 _ (0, 0) _ (h.out g' n' cap' a b c).1 Try.underlying68 rfl wayInfo
theorem way_bel {w W : World} {p q g n cap : Nat} {oi oe va : Int} (h : WB w W p q g n cap oi oe va) (g' n' cap' : Nat) (a b c : Int) : Below w.heap.size w ((((W.setCell ⟨q, 0, none⟩ (.slice (some ⟨g', 0, none⟩) n' cap')).setCell ⟨q, 1, none⟩ (.int .i64 a)).setCell ⟨q, 2, none⟩ (.int .i64 b)).setCell ⟨q, 3, none⟩ (.int .i64 c)) := (h.out g' n' cap' a b c).2
theorem WB.set4' {w W : World} {p q g n cap : Nat} {oi oe va : Int} (h : WB w W p q g n cap oi oe va) (g' n' cap' : Nat) (a b c : Int) : WB w ((((W.setCell ⟨p, 0, none⟩ (.slice (some ⟨g', 0, none⟩) n' cap')).setCell ⟨p, 1, none⟩ (.int .i64 a)).setCell ⟨p, 2, none⟩ (.int .i64 b)).setCell ⟨p, 3, none⟩ (.int .i64 c)) p q g' n' cap' a b c := h.set4 g' n' cap' a b c
theorem WA.set4' {W : World} {st : List Ex.Ent} {g n cap p : Nat} (h : WA W st g n cap) (hne : ¬ g = p) (g' n' cap' : Nat) (a b c : Int) : WA ((((W.setCell ⟨p, 0, none⟩ (.slice (some ⟨g', 0, none⟩) n' cap')).setCell ⟨p, 1, none⟩ (.int .i64 a)).setCell ⟨p, 2, none⟩ (.int .i64 b)).setCell ⟨p, 3, none⟩ (.int .i64 c)) st g n cap := h.set4 hne g' n' cap' a b c
theorem radd_no {w : World} {st : List Ex.Ent} {g n cap : Nat} (h : WA w st g n cap) (hn : 0 < n) (oi oe va : Nat) (o : Bool) (ov : Int) (is : Bool) (h0 : 0 ≤ (Ex.hd st).lv) (h1 : (Ex.hd st).lv ≤ 125) (hc : Ex.can ⟨st, oi, oe, va⟩ o = false) :
    Calls Try.prog 60 #[.agg #[.slice (some ⟨g, 0, none⟩) n cap, .int .i64 (oi : Int), .int .i64 (oe : Int), .int .i64 (va : Int)], .bool o, .int .i64 ov, .bool is] w fun e w' => e = .returned (.tuple #[.agg #[.slice (some ⟨g, 0, none⟩) n cap, .int .i64 (oi : Int), .int .i64 (oe : Int), .int .i64 (va : Int)], .bool false]) ∧ Below w.heap.size w w' := by
  have HB := hide (WB.begin w g n cap oi oe va)
  have HL := hide (rlast_any (h.below ((Below.alloc (Below.alloc (Below.refl _ w) (Nat.le_refl _) (.cells #[.slice (some ⟨g, 0, none⟩) n cap, .int .i64 (oi : Int), .int .i64 (oe : Int), .int .i64 (va : Int)] 68)) (by simp) (.cells #[.slice none 0 0, .int .i64 0, .int .i64 0, .int .i64 0] 68)))) hn oi oe va)
  have HH := hide (fun w' => rhigher_any (Ex.hd st).lv o w' h0 h1)
  have hfl := rfield_lv
  have HC : Hid (125 < Ex.nl (Ex.hd st).lv o ∨ (¬ 125 < Ex.nl (Ex.hd st).lv o ∧ 0 < oi) ∨ (¬ 125 < Ex.nl (Ex.hd st).lv o ∧ ¬ 0 < oi ∧ 0 < oe)) := by
    by_cases c1 : 125 < Ex.nl (Ex.hd st).lv o
    · exact .inl c1
    · by_cases c2 : 0 < oi
      · exact .inr (.inl ⟨c1, c2⟩)
      · by_cases c3 : 0 < oe
        · exact .inr (.inr ⟨c1, c2, c3⟩)
        · rw [Ex.can_mk (by simp only; omega) (by simp only; omega) (by simp only; omega)] at hc
          cases hc
  generalize Ex.nl (Ex.hd st).lv o = l at *
  generalize (Ex.hd st).lv = lv at *
  generalize (Ex.hd st).ov = ov2 at *
  generalize (Ex.hd st).is = is2 at *
  clear hc h
  rcases HC.out with c1 | ⟨c1, c2⟩ | ⟨c1, c2, c3⟩
  all_goals
    first
      | have i1 : (0 : Int) < (oi : Int) := by omega
      | have i1 : ¬ (0 : Int) < (oi : Int) := by omega
      | skip
    first
      | have i2 : (0 : Int) < (oe : Int) := by omega
      | skip
    clear HC
    go_enter Try.func60, Try.ntmps60
    go_wp2_with fail
    refine HL.out.mono ?_
    rintro e w3 ⟨rfl, hb3⟩
    have hB := HB.out.below hb3
    obtain ⟨p0, p1, p2, p3⟩ := hB.c
    obtain ⟨q0, q1, q2, q3⟩ := hB.qc
    have f0 := hB.qf 0
    have f1 := hB.qf 1
    have f2 := hB.qf 2
    have f3 := hB.qf 3
    have HO1 := hide (way_out hB g n cap oi oe va)
    have HO2 := hide (way_bel hB g n cap oi oe va)
    clear hb3 HL hB
    go_wp2_with (go_at_call 65; refine (HH.out _).mono ?_; rintro e w4 ⟨rfl, rfl⟩)
    exact bodyPost_ret (results2 Try.results60 _ _ _ (w.heap.size + 1) _ (.bool false) rfl rfl HO1.out) rfl ⟨rfl, HO2.out⟩
theorem radd_yes {w : World} {st : List Ex.Ent} {g n cap : Nat} (h : WA w st g n cap) (hn : 0 < n) (hn2 : n ≤ 200) (va : Int) (o : Bool) (ov : Int) (is : Bool) (h0 : 0 ≤ (Ex.hd st).lv) (h1 : (Ex.hd st).lv ≤ 125) (hc : Ex.nl (Ex.hd st).lv o ≤ 125) :
    Calls Try.prog 60 #[.agg #[.slice (some ⟨g, 0, none⟩) n cap, .int .i64 0, .int .i64 0, .int .i64 va], .bool o, .int .i64 ov, .bool is] w fun e w' => ∃ g' cap', e = .returned (.tuple #[.agg #[.slice (some ⟨g', 0, none⟩) (n + 1) cap', .int .i64 0, .int .i64 0, .int .i64 va], .bool true]) ∧ WA w' (⟨Ex.nl (Ex.hd st).lv o, ov, is⟩ :: st) g' (n + 1) cap' ∧ Below w.heap.size w w' := by
  have HB := hide (WB.begin w g n cap 0 0 va)
  have hw2 := h.below ((Below.alloc (Below.alloc (Below.refl _ w) (Nat.le_refl _) (.cells #[.slice (some ⟨g, 0, none⟩) n cap, .int .i64 0, .int .i64 0, .int .i64 va] 68)) (by simp) (.cells #[.slice none 0 0, .int .i64 0, .int .i64 0, .int .i64 0] 68)))
  have HL := hide (rlast_any hw2 hn 0 0 va)
  have HW2 := hide hw2
  have HH := hide (fun w' => rhigher_any (Ex.hd st).lv o w' h0 h1)
  have hfl := rfield_lv
  have hbe := rbuild_ent
  have hbo := rbuild_ent1
  obtain ⟨ii, hii, hy0, hy1, hy2⟩ := info_parts rentInfo
  have HII := hide hii
  have HY0 := hide hy0
  have HY1 := hide hy1
  have HY2 := hide hy2
  have c1 : ¬ 125 < Ex.nl (Ex.hd st).lv o := by omega
  generalize Ex.nl (Ex.hd st).lv o = l at *
  generalize (Ex.hd st).lv = lv at *
  generalize (Ex.hd st).ov = ov2 at *
  generalize (Ex.hd st).is = is2 at *
  clear hc h hw2 hii hy0 hy1 hy2
  go_enter Try.func60, Try.ntmps60
  go_wp2_with fail
  refine HL.out.mono ?_
  rintro e w3 ⟨rfl, hb3⟩
  have hB := HB.out.below hb3
  have hA := HW2.out.below hb3
  have HA := hide hA
  have HBB := hide hB
  obtain ⟨p0, p1, p2, p3⟩ := hB.c
  have hka : Below w3.heap.size w3 (w3.alloc (.cells #[] 72)) := Below.alloc (Below.refl _ _) (Nat.le_refl _) _
  have p0a : ∀ ob : Obj, (w3.alloc ob).cell? ⟨w.heap.size, 0, none⟩ = some (.slice (some ⟨g, 0, none⟩) n cap) := fun ob => (hB.below (Below.alloc (Below.refl _ _) (Nat.le_refl _) ob)).c.1
  have HSRC := hide (show ∀ j u, (ents st)[j]? = some u → (w3.alloc (.cells #[] 72)).cell? ((⟨g, 0, none⟩ : Addr).add j) = some u from by
    intro j u hj
    have hjl : j < n * 3 := by
      have := (List.getElem?_eq_some_iff.1 hj).1
      rw [ents_len, hA.len] at this
      exact this
    have hadd : (⟨g, 0, none⟩ : Addr).add j = ⟨g, j, none⟩ := by unfold Addr.add; split <;> simp_all
    rw [hadd, (hA.below hka).cell hjl, hj])
  have HEL := hide (show (ents st).length = n * 3 from by rw [ents_len, hA.len])
  clear hb3 HL hB hA HB HW2 hka
  go_wp2_with (first
    | (go_at_call 65; refine (HH.out _).mono ?_; rintro e w4 ⟨rfl, rfl⟩)
    | (at_builtin; refine wpList_append_own _ rfl (.tmp 29) (.tmp 31) 66 rfl w3.heap.size 72 ii _ 3 24 Try.underlying66 HII.out HY0.out HY1.out HY2.out rfl (by decide) (.slice (some ⟨w3.heap.size, 0, none⟩) 0 0) 0 [] rfl (owns_empty3 w3 72 w3.heap.size rfl) ⟨g, 0, none⟩ n cap (ents st) rfl HEL.out HSRC.out (ents_one st) (by unfold maxLen; omega) (by omega) (by simp) ?_; intro v5 w5 ho5 hg5 hn5; rw [Nat.zero_add, List.nil_append] at ho5; have k5 : Below w3.heap.size w3 w5 := (Below.alloc (Below.refl _ w3) (Nat.le_refl _) _).grown hg5 (by simp) (fun j hj => by simp [Value.ownBlock] at hj; omega); have z5 : w3.heap.size ≤ w5.heap.size := k5.size; obtain ⟨g5, c5, rfl, y5, _⟩ := owns_pos ho5 hn)
    | (at_builtin; refine wpList_append_ent w5 rfl (.tmp 32) (.tmp 37) 66 rfl w3.heap.size 72 ii _ Try.underlying66 HII.out HY0.out HY1.out HY2.out rfl (.slice (some ⟨g5, 0, none⟩) n c5) n _ rfl ⟨l, ov, is⟩ ho5 _ rfl rfl (by omega) z5 ?_; intro v6 w6 ho6 hg6; have k6 : Below w3.heap.size w3 w6 := (Below.alloc k5 z5 _).grown hg6 (by simp; omega) (fun j hj => by simp [Value.ownBlock] at hj; omega); obtain ⟨g6, c6, rfl, y6, _⟩ := owns_pos ho6 (by omega); have hB6 := HBB.out.below k6; obtain ⟨r0, r1, r2, r3⟩ := hB6.c; have rf0 := hB6.f 0; have hB7 := hB6.setSl g6 (n + 1) c6; obtain ⟨s0, s1, s2, s3⟩ := hB7.c; obtain ⟨q0, q1, q2, q3⟩ := hB7.qc; have f0 := hB7.qf 0; have f1 := hB7.qf 1; have f2 := hB7.qf 2; have f3 := hB7.qf 3))
  have hA6 : WA w6 (⟨l, ov, is⟩ :: st) g6 (n + 1) c6 := by unfold WA; rw [ents_cons]; exact owns_mono ho6 (Nat.zero_le _)
  have hlt := HBB.out.lt
  have np : ¬ g6 = w.heap.size := by omega
  have nq : ¬ g6 = w.heap.size + 1 := by omega
  exact bodyPost_ret (results2 Try.results60 _ _ _ (w.heap.size + 1) _ (.bool true) rfl rfl (way_out hB7 g6 (n + 1) c6 0 0 va)) rfl ⟨g6, c6, rfl, (hA6.other np).set4' nq g6 (n + 1) c6 0 0 va, way_bel hB7 g6 (n + 1) c6 0 0 va⟩
theorem rodd_any (ao : Option Addr) (n cap : Nat) (c : List Int) (i : Nat) (w : World) (h : Row .i64 w ao n cap c) (hn : n ≤ 300) (hi : i < n) :
    Calls Try.prog 61 #[.slice ao n cap, .int .i64 (i : Int)] w fun e w' => e = .returned (.bool (Ex.wo (c.getD i 0) (c.drop (i + 1)))) ∧ w = w' := by
  have hp1 := Iso.partner_gt c i
  have hp2 := Iso.partner_le c i (by rw [h.len]; exact hi)
  rw [h.len] at hp2
  have HP := hide (partner_any ao n cap c i w h (by omega) hi)
  have HB := hide (rbase_ok ao n cap c (i + 1) (Iso.partner c i) w h (by omega) (by omega) hp2)
  rw [Ex.base_fs] at HB
  have e1 : ((i + 1 : Nat) : Int) = (i : Int) + 1 := by omega
  rw [e1] at HB
  obtain ⟨b, off, rfl, hbl, hc⟩ := h.cells (by omega)
  have ck : w.cell? ⟨b, off + i, none⟩ = some (.int .i64 (c.getD i 0)) := hc i (by rw [h.len]; exact hi)
  have hin : (i : Int) < (n : Int) := by omega
  have hwo : Ex.wo (c.getD i 0) (c.drop (i + 1)) = if c.getD i 0 = 22 then Ex.fs 0 (c.drop (i + 1)) == 1 else c.getD i 0 == 21 := rfl
  rw [hwo]
  generalize Ex.fs 0 (c.drop (i + 1)) = F at *
  generalize Iso.partner c i = q at *
  generalize c.getD i 0 = x at *
  clear hc h hwo e1
  by_cases hx : x = 22
  · subst hx
    go_enter Try.func61, Try.ntmps61
    go_wp2_with (first
      | (go_at_call 48; refine HP.out.mono ?_; rintro e w2 ⟨rfl, rfl⟩)
      | (go_at_call 66; refine HB.out.mono ?_; rintro e w2 ⟨rfl, rfl⟩))
    go_ret
    exact ⟨rfl, rfl⟩
  · have hx2 : (x == 22) = false := beq_false_of_ne hx
    rw [if_neg hx]
    go_enter Try.func61, Try.ntmps61
    go_wp2
    go_ret
    exact ⟨rfl, rfl⟩
end Go.Proofs.Ythohbiklnknofaa
