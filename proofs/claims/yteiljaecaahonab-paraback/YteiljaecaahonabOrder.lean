/- ParaOrder, ParaBack: places under edits. -/
import Derived.Test.YteiljaecaahonabWorks
namespace Go.Proofs.Yteiljaecaahonab
open Go.RowKit
set_option linter.unusedVariables false
set_option maxHeartbeats 1000000
set_option maxRecDepth 100000
theorem mvN_mono {x y a g c : Int} (h : x ≤ y) (hg : 0 ≤ g) (hc : 0 ≤ c) : mvN x a g c ≤ mvN y a g c := by
  unfold mvN; split <;> split <;> (try split) <;> (try split) <;> omega
theorem mvN_none (x a : Int) : mvN x a 0 0 = x := by unfold mvN; split <;> (try split) <;> omega
theorem mvN_back {i a g c : Int} (hi : 0 ≤ i) (hg : 0 ≤ g) (hc : 0 ≤ c) (h : ¬ (a ≤ i ∧ i < a + g)) : mvN (mvN i a g c) a c g = i := by
  by_cases h1 : i < a
  · rw [show mvN i a g c = i from by unfold mvN; rw [if_pos h1]]
    unfold mvN; rw [if_pos h1]
  · have h2 : a + g ≤ i := by omega
    rw [show mvN i a g c = i - g + c from by unfold mvN; rw [if_neg h1, if_pos h2]]
    unfold mvN; rw [if_neg (by omega), if_pos (by omega)]; omega
theorem mvN_lo {i a g c : Int} (hi : 0 ≤ i) (ha : 0 ≤ a) (hg : 0 ≤ g) (hc : 0 ≤ c) : 0 ≤ mvN i a g c := by
  unfold mvN; split <;> (try split) <;> omega
/-- Move, either way. -/
theorem move_any (i a g c : Int) (w : World) : ∃ n e : Int, Calls Try.prog 16 #[.int .i64 i, .int .i64 a, .int .i64 g, .int .i64 c] w (fun r w' => r = .returned (.tuple #[.int .i64 n, .int .i64 e]) ∧ w = w') ∧ ((Near i ∧ Near a ∧ Near g ∧ Near c ∧ n = mvN i a g c ∧ e = 0) ∨ (¬ (Near i ∧ Near a ∧ Near g ∧ Near c) ∧ n = 0 ∧ e = 2)) := by
  by_cases h : Near i ∧ Near a ∧ Near g ∧ Near c
  · exact ⟨_, _, move_ok i a g c w h.1 h.2.1 h.2.2.1 h.2.2.2, .inl ⟨h.1, h.2.1, h.2.2.1, h.2.2.2, rfl, rfl⟩⟩
  · exact ⟨_, _, move_bad i a g c w h, .inr ⟨h, rfl, rfl⟩⟩
theorem ParaOrder_walk (w : World) (i a g c : Int) (hi : (Lit.int .i64 i).wf = true) (ha : (Lit.int .i64 a).wf = true) (hg : (Lit.int .i64 g).wf = true) (hc : (Lit.int .i64 c).wf = true) (o : Int) (ho : (Lit.int .i64 o).wf = true) :
    Calls Try.prog 5 #[.agg #[.int .i64 i, .int .i64 a, .int .i64 g, .int .i64 c], .int .i64 o] w fun e w' => e = .returned (.bool true) ∧ Below w.heap.size w w' := by
  obtain ⟨V, hV⟩ : ∃ V, w.alloc (.cells #[.int .i64 i, .int .i64 a, .int .i64 g, .int .i64 c] 40) = V := ⟨_, rfl⟩
  have hkV : KO w V := by rw [← hV]; exact KO.alloc (KO.refl _) _
  have hVs : w.heap.size < V.heap.size := by rw [← hV]; simp
  have cV : ∀ j, V.cell? ⟨w.heap.size, j, none⟩ = (#[.int .i64 i, .int .i64 a, .int .i64 g, .int .i64 c] : Array Value)[j]? := fun j => by rw [← hV, World.cell?_alloc_mark]
  have HW := hide (pworks_any V)
  have HKV := hide hkV
  clear hi ha hg hc ho
  go_enter Try.func5, Try.ntmps5
  go_wp2_with fail
  clear hV
  refine HW.out.mono ?_
  rintro e w1 ⟨rfl, hb1⟩
  have c0 : w1.cell? ⟨w.heap.size, 0, none⟩ = some (.int .i64 i) := (hb1.cell (by exact hVs)).trans (cV 0)
  have c1 : w1.cell? ⟨w.heap.size, 1, none⟩ = some (.int .i64 a) := (hb1.cell (by exact hVs)).trans (cV 1)
  have c2 : w1.cell? ⟨w.heap.size, 2, none⟩ = some (.int .i64 g) := (hb1.cell (by exact hVs)).trans (cV 2)
  have c3 : w1.cell? ⟨w.heap.size, 3, none⟩ = some (.int .i64 c) := (hb1.cell (by exact hVs)).trans (cV 3)
  have HB := hide (KO.on HKV.out hb1)
  obtain ⟨lo, hlo⟩ : ∃ lo : Int, (if o < i then o else i) = lo := ⟨_, rfl⟩
  obtain ⟨hh, hhh⟩ : ∃ hh : Int, (if i < o then o else i) = hh := ⟨_, rfl⟩
  have hmn : ∀ (w' : World) (ts : Array TypeId) (t : TypeId), (Builtin.min_ ts t #[.int .i64 i, .int .i64 o]).run Try.prog w' = .ok (.int .i64 lo) w' := fun w' ts t => by rw [run_min_int2, ← hlo]
  have hmx : ∀ (w' : World) (ts : Array TypeId) (t : TypeId), (Builtin.max_ ts t #[.int .i64 i, .int .i64 o]).run Try.prog w' = .ok (.int .i64 hh) w' := fun w' ts t => by rw [run_max_int2, ← hhh]
  clear hb1 cV hVs hkV HW
  go_wp2_with fail
  obtain ⟨n1, e1, M1, K1⟩ := move_any lo a g c w1
  refine M1.mono ?_
  rintro r w' ⟨rfl, rfl⟩
  clear M1
  go_wp2_with fail
  obtain ⟨n2, e2, M2, K2⟩ := move_any hh a g c w1
  refine M2.mono ?_
  rintro r w' ⟨rfl, rfl⟩
  clear M2
  have HLO := hide hlo
  have HHH := hide hhh
  clear hlo hhh
  rcases K1 with ⟨i1, i2, i3, i4, rfl, rfl⟩ | ⟨_, rfl, rfl⟩
  · rcases K2 with ⟨j1, _, _, _, rfl, rfl⟩ | ⟨_, rfl, rfl⟩
    · have hno : Near o := by
        have := HLO.out; have := HHH.out
        unfold Near at *
        split at this <;> split at * <;> omega
      have hle : mvN lo a g c ≤ mvN hh a g c := by
        refine mvN_mono ?_ i3.1 i4.1
        have h1 := HLO.out; have h2 := HHH.out
        split at h1 <;> split at h2 <;> omega
      have M3 := move_ok o a 0 0 w1 hno i2 (by unfold Near; omega) (by unfold Near; omega)
      rw [mvN_none] at M3
      have HM3 := hide M3
      generalize mvN lo a g c = p at *
      generalize mvN hh a g c = q at *
      clear hno M3 i1 i2 i3 i4 j1
      go_wp2_with fail
      refine HM3.out.mono ?_
      rintro r w' ⟨rfl, rfl⟩
      go_wp2_with fail
      go_ret
      exact ⟨ret_bool (by simp), HB.out⟩
    · clear i1 i2 i3 i4
      generalize mvN lo a g c = p at *
      go_wp2_with fail
      go_ret
      exact ⟨rfl, HB.out⟩
  · clear K2
    go_wp2_with fail
    go_ret
    exact ⟨rfl, HB.out⟩
theorem ParaBack_walk (w : World) (i a g c : Int) (hi : (Lit.int .i64 i).wf = true) (ha : (Lit.int .i64 a).wf = true) (hg : (Lit.int .i64 g).wf = true) (hc : (Lit.int .i64 c).wf = true) :
    Calls Try.prog 6 #[.agg #[.int .i64 i, .int .i64 a, .int .i64 g, .int .i64 c]] w fun e w' => e = .returned (.bool true) ∧ Below w.heap.size w w' := by
  obtain ⟨V, hV⟩ : ∃ V, w.alloc (.cells #[.int .i64 i, .int .i64 a, .int .i64 g, .int .i64 c] 40) = V := ⟨_, rfl⟩
  have hkV : KO w V := by rw [← hV]; exact KO.alloc (KO.refl _) _
  have hVs : w.heap.size < V.heap.size := by rw [← hV]; simp
  have cV : ∀ j, V.cell? ⟨w.heap.size, j, none⟩ = (#[.int .i64 i, .int .i64 a, .int .i64 g, .int .i64 c] : Array Value)[j]? := fun j => by rw [← hV, World.cell?_alloc_mark]
  have HW := hide (pworks_any V)
  have HKV := hide hkV
  clear hi ha hg hc
  go_enter Try.func6, Try.ntmps6
  go_wp2_with fail
  clear hV
  refine HW.out.mono ?_
  rintro e w1 ⟨rfl, hb1⟩
  have c0 : w1.cell? ⟨w.heap.size, 0, none⟩ = some (.int .i64 i) := (hb1.cell (by exact hVs)).trans (cV 0)
  have c1 : w1.cell? ⟨w.heap.size, 1, none⟩ = some (.int .i64 a) := (hb1.cell (by exact hVs)).trans (cV 1)
  have c2 : w1.cell? ⟨w.heap.size, 2, none⟩ = some (.int .i64 g) := (hb1.cell (by exact hVs)).trans (cV 2)
  have c3 : w1.cell? ⟨w.heap.size, 3, none⟩ = some (.int .i64 c) := (hb1.cell (by exact hVs)).trans (cV 3)
  have HB := hide (KO.on HKV.out hb1)
  clear hb1 cV hVs hkV HW
  go_wp2_with fail
  obtain ⟨n1, e1, M1, K1⟩ := move_any i a g c w1
  refine M1.mono ?_
  rintro r w' ⟨rfl, rfl⟩
  clear M1
  rcases K1 with ⟨i1, i2, i3, i4, rfl, rfl⟩ | ⟨_, rfl, rfl⟩
  · have hn0 := mvN_lo i1.1 i2.1 i3.1 i4.1
    by_cases hin : a ≤ i ∧ i < a + g
    · obtain ⟨h1, h2⟩ := hin
      have HN := hide i1
      unfold Near at i1 i2 i3 i4
      generalize mvN i a g c = n at *
      go_wp2_with fail
      go_ret
      exact ⟨rfl, HB.out⟩
    · have hbk := mvN_back i1.1 i3.1 i4.1 hin
      generalize mvN i a g c = n at *
      have hout : i < a ∨ (a ≤ i ∧ a + g ≤ i) := by omega
      by_cases hbig : 1099511627776 < n
      · unfold Near at i1 i2 i3 i4
        clear hin
        rcases hout with h1 | ⟨h1, h2⟩
        · go_wp2_with fail
          go_ret
          exact ⟨rfl, HB.out⟩
        · go_wp2_with fail
          go_ret
          exact ⟨rfl, HB.out⟩
      · have M2 := move_ok n a c g w1 ⟨hn0, by omega⟩ i2 i4 i3
        rw [hbk] at M2
        have HM2 := hide M2
        unfold Near at i1 i2 i3 i4
        clear hin M2 hbk
        rcases hout with h1 | ⟨h1, h2⟩
        · go_wp2_with fail
          refine HM2.out.mono ?_
          rintro r w' ⟨rfl, rfl⟩
          go_wp2_with fail
          go_ret
          exact ⟨rfl, HB.out⟩
        · go_wp2_with fail
          refine HM2.out.mono ?_
          rintro r w' ⟨rfl, rfl⟩
          go_wp2_with fail
          go_ret
          exact ⟨rfl, HB.out⟩
  · go_wp2_with fail
    go_ret
    exact ⟨rfl, HB.out⟩
end Go.Proofs.Yteiljaecaahonab
