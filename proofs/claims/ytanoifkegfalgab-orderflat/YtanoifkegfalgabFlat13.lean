/- OrderFlat: one level, with a stretch of the next one. -/
import Derived.Test.YtanoifkegfalgabWorks13
import Derived.Test.YtanoifkegfalgabOc
import Derived.Test.YtanoifkegfalgabGrown
namespace Go.Proofs.Ytanoifkegfalgab
open Go.RowKit
set_option linter.unusedVariables false
set_option maxHeartbeats 1600000
set_option maxRecDepth 100000
theorem flat_OA {k a m b : Nat} (hk : k < 127) : OA (Od.flat (k : Int) a m b) (Od.Z ((List.range (a + m + b)).map (Od.want (k : Int) a m b))) 0 := by
  refine .inl ⟨fun i hi => ?_, ?_, rfl⟩
  · rw [Od.flat_len] at hi
    rw [Od.flat_at _ _ _ _ hi]
    split <;> omega
  · unfold Od.ON
    rw [Od.flat_OD (by omega) (by omega)]
    rfl
theorem flat_next (k a m b : Nat) {i : Nat} (hi : i < a + m + b) : (Od.flat (k : Int) a m b).take (i + 1) = (Od.flat (k : Int) a m b).take i ++ [if a ≤ i ∧ i < a + m then (k : Int) + 1 else (k : Int)] := by
  rw [take_snoc _ _ (by rw [Od.flat_len]; exact hi), Od.flat_at _ _ _ _ hi]
/-- What the law reckons: the place counted from the end, or not, turned about in the stretch, or not. -/
theorem want_is (k a m b i : Nat) (hi : i < a + m + b) : ∃ q x : Nat, q < a + m + b ∧ x < a + m + b ∧ Od.want (k : Int) a m b i = x ∧
    ((((k : Int) % 2 = 1 ∧ q = a + m + b - 1 - i) ∨ ((k : Int) % 2 = 0 ∧ q = i)) ∧ ((a ≤ q ∧ q < a + m ∧ x = 2 * a + m - 1 - q) ∨ (q < a ∧ x = q) ∨ (a ≤ q ∧ a + m ≤ q ∧ x = q))) := by
  by_cases hp : (k : Int) % 2 = 1
  · refine ⟨a + m + b - 1 - i, _, by omega, Od.want_lt hi, rfl, .inl ⟨hp, rfl⟩, ?_⟩
    unfold Od.want
    simp only
    rw [if_pos hp]
    split <;> omega
  · refine ⟨i, _, hi, Od.want_lt hi, rfl, .inr ⟨by omega, rfl⟩, ?_⟩
    unfold Od.want
    simp only
    rw [if_neg hp]
    split <;> omega
theorem OrderFlat_walk (w : World) (lv : Int) (hwl : (Lit.int .i64 lv).wf = true) (x0 x1 x2 : Int) (hw0 : (Lit.int .i64 x0).wf = true) (hw1 : (Lit.int .i64 x1).wf = true) (hw2 : (Lit.int .i64 x2).wf = true) :
    Calls Try.prog 3 #[.int .i64 lv, .agg #[.int .i64 x0, .int .i64 x1, .int .i64 x2]] w fun e w' => e = .returned (.bool true) ∧ Below w.heap.size w w' := by
  obtain ⟨ii, hii, hy0, hy1, hy2⟩ := info_parts infoInt
  have HII : Hid (Try.prog.info? 3 = some ii) := hii
  have HY0 := hide hy0
  have HY1 := hide hy1
  have HY2 := hide hy2
  obtain ⟨X, hX⟩ : ∃ X : World, X = w.alloc (.cells #[.int .i64 x0, .int .i64 x1, .int .i64 x2] 22) := ⟨_, rfl⟩
  have HW := hide (works13_any X)
  have HKX := hide (show KO w X from by rw [hX]; exact KO.alloc (KO.refl w) _)
  have HCX : Hid (∀ W, KO X W → W.cell? ⟨w.heap.size, 0, none⟩ = some (.int .i64 x0) ∧ W.cell? ⟨w.heap.size, 1, none⟩ = some (.int .i64 x1) ∧ W.cell? ⟨w.heap.size, 2, none⟩ = some (.int .i64 x2)) := hide (fun W hk => by
    have hlt : w.heap.size < X.heap.size := by rw [hX]; simp
    have hh : W.heap[w.heap.size]? = some (.cells #[.int .i64 x0, .int .i64 x1, .int .i64 x2] 22 (0, 0)) := (Below.block hk _ hlt).trans (by rw [hX]; exact heap_alloc_new w _)
    simp [World.cell?, hh])
  obtain ⟨k0, hk0, e0'⟩ := place_at lv 127 (by decide) (by decide)
  obtain ⟨a, ha, ea'⟩ := place_at x0 300 (by decide) (by decide)
  obtain ⟨m, hm, em'⟩ := place_at x1 300 (by decide) (by decide)
  obtain ⟨b, hb, eb'⟩ := place_at x2 300 (by decide) (by decide)
  have e0 : wrap64 ((IntKind.u64.wrap lv).tmod 127) = (k0 : Int) := e0'
  have ea : wrap64 ((IntKind.u64.wrap x0).tmod 300) = (a : Int) := ea'
  have em : wrap64 ((IntKind.u64.wrap x1).tmod 300) = (m : Int) := em'
  have eb : wrap64 ((IntKind.u64.wrap x2).tmod 300) = (b : Int) := eb'
  clear e0' ea' em' eb' hii hy0 hy1 hy2
  subst hX
  go_enter Try.func3, Try.ntmps3
  go_wp2_with fail
  refine HW.out.mono ?_
  rintro e w1 ⟨rfl, hk1⟩
  have K1 := hide (KO.on HKX.out hk1)
  obtain ⟨d0, d1, d2⟩ := HCX.out w1 hk1
  clear hk1 HW HKX HCX
  go_wp2_with fail
  go_quiet (fail)
  rw [e0, ea, em, eb]
  clear e0 ea em eb d0 d1 d2
  have K2 := hide (KO.on K1.out (below_drewN w1 nq))
  generalize w1.drewN nq = w2 at *
  clear K1
  obtain ⟨N, hN⟩ : ∃ N, N = a + m + b := ⟨_, rfl⟩
  have HN := hide hN
  have hN2 : N ≤ 900 := by omega
  have ha2 : (a : Int) < 300 := by omega
  have hm2 : (m : Int) < 300 := by omega
  have hb2 : (b : Int) < 300 := by omega
  have hk2 : (k0 : Int) < 127 := by omega
  clear hN
  go_wp2
  go_loopw [8, 9, 10] (fun s8 s9 s10 W => ∃ (v : Value) (i : Nat), v = s8 ∧ s9 = .int .i64 (i : Int) ∧ i ≤ N ∧ Hid (RG w2 ((Od.flat (k0 : Int) a m b).take i) i v W)) (fun _ s9 _ _ => N - (intOf s9).toNat)
  case atStart => exact ⟨_, 0, rfl, rfl, Nat.zero_le _, hide ⟨World.ownsRow_nil _ _ _ _, KO.refl w2⟩⟩
  case round =>
    obtain ⟨v, i, hv, rfl, hi, hm⟩ := hrel
    subst hv
    by_cases hlt : i < N
    · have hin : (i : Int) < (a : Int) + (m : Int) + (b : Int) := by have := HN.out; omega
      have hnx := flat_next k0 a m b (i := i) (by have := HN.out; omega)
      have HW2 := hide hm.out
      obtain ⟨a3, c3, rfl, hle3⟩ := owns_form hm.out.own
      clear hm
      by_cases h1 : a ≤ i
      · have h1b : (a : Int) ≤ (i : Int) := by omega
        by_cases h2 : i < a + m
        · have h2b : (i : Int) < (a : Int) + (m : Int) := by omega
          rw [if_pos ⟨h1, h2⟩] at hnx
          have HNX := hide hnx
          clear hnx h1 h2
          go_wp2_with (at_builtin; refine wpList_append_row _ rfl (.tmp 59) (.tmp 61) 25 rfl w2.heap.size 3 ii (.int .i64 0) 8 Try.underlying25 HII.out HY0.out HY1.out HY2.out rfl _ i _ rfl (HW2.out.own.alloc _) .i64 _ 1 1 [(k0 : Int) + 1] rfl (row_one _ wr.heap.size rfl ((k0 : Int) + 1)) (by omega) (by omega) (by have := HW2.out.bel.size; simp; omega) ?_; intro v2 w3 hown2 hb3)
          have HM := hide (RG.snoc HW2.out.bel hb3 hown2 HNX.out)
          clear hown2 hb3 HW2
          go_wp2
          go_roundw
          case rel => exact ⟨_, i + 1, rfl, by go_num, by omega, HM⟩
          case measure => simp [intOf]; omega
        · have h2b : ¬ (i : Int) < (a : Int) + (m : Int) := by omega
          rw [if_neg (fun q => h2 q.2)] at hnx
          have HNX := hide hnx
          clear hnx h1 h2
          go_wp2_with (at_builtin; refine wpList_append_row _ rfl (.tmp 59) (.tmp 61) 25 rfl w2.heap.size 3 ii (.int .i64 0) 8 Try.underlying25 HII.out HY0.out HY1.out HY2.out rfl _ i _ rfl (HW2.out.own.alloc _) .i64 _ 1 1 [(k0 : Int)] rfl (row_one _ wr.heap.size rfl (k0 : Int)) (by omega) (by omega) (by have := HW2.out.bel.size; simp; omega) ?_; intro v2 w3 hown2 hb3)
          have HM := hide (RG.snoc HW2.out.bel hb3 hown2 HNX.out)
          clear hown2 hb3 HW2
          go_wp2
          go_roundw
          case rel => exact ⟨_, i + 1, rfl, by go_num, by omega, HM⟩
          case measure => simp [intOf]; omega
      · have h1b : ¬ (a : Int) ≤ (i : Int) := by omega
        rw [if_neg (fun q => h1 q.1)] at hnx
        have HNX := hide hnx
        clear hnx
        go_wp2_with (at_builtin; refine wpList_append_row _ rfl (.tmp 59) (.tmp 61) 25 rfl w2.heap.size 3 ii (.int .i64 0) 8 Try.underlying25 HII.out HY0.out HY1.out HY2.out rfl _ i _ rfl (HW2.out.own.alloc _) .i64 _ 1 1 [(k0 : Int)] rfl (row_one _ wr.heap.size rfl (k0 : Int)) (by omega) (by omega) (by have := HW2.out.bel.size; simp; omega) ?_; intro v2 w3 hown2 hb3)
        have HM := hide (RG.snoc HW2.out.bel hb3 hown2 HNX.out)
        clear hown2 hb3 HW2
        go_wp2
        go_roundw
        case rel => exact ⟨_, i + 1, rfl, by go_num, by omega, HM⟩
        case measure => simp [intOf]; omega
    · obtain rfl : N = i := by omega
      have hne : ¬ (N : Int) < (a : Int) + (m : Int) + (b : Int) := by have := HN.out; omega
      have hfl : (Od.flat (k0 : Int) a m b).take N = Od.flat (k0 : Int) a m b := List.take_of_length_le (by rw [Od.flat_len, HN.out]; exact Nat.le_refl _)
      have hmo := hm.out
      rw [hfl] at hmo
      obtain ⟨a3, c3, ev, hr3⟩ := row_of_owns hmo.own
      subst ev
      have K3 := hide (KO.on K2.out hmo.bel)
      have hOA := flat_OA (k := k0) (a := a) (m := m) (b := b) hk0
      have hll : (Od.Z ((List.range (a + m + b)).map (Od.want (k0 : Int) a m b))).length = N := by rw [Od.Z_len, List.length_map, List.length_range, HN.out]
      have HAT : Hid (∀ i, i < N → (Od.Z ((List.range (a + m + b)).map (Od.want (k0 : Int) a m b))).getD i 0 = (Od.want (k0 : Int) a m b i : Int)) := hide (fun i hi => by
        rw [Od.Z_at _ (by rw [List.length_map, List.length_range, ← HN.out]; exact hi)]
        congr 1
        simp [List.getD, show i < a + m + b by rw [← HN.out]; exact hi])
      generalize Od.Z ((List.range (a + m + b)).map (Od.want (k0 : Int) a m b)) = L at *
      have HO := hide (order_any a3 N c3 _ wr hr3 (by omega) L 0 hOA)
      rw [hll] at HO
      have HLL := hide hll
      clear hm hfl hmo hr3 hOA hll
      go_wp2_with fail
      refine HO.out.mono ?_
      rintro e w4 ⟨a4, c4, rfl, hr4, hk4⟩
      have K4 := hide (KO.on K3.out hk4)
      have R4 := hide hr4
      have hnb : ((N : Int) != (N : Int)) = false := by simp
      clear hr4 hk4 HO K3
      go_wp2
      go_loopw [13, 14, 15, 79] (fun s13 s14 s15 s79 W => ∃ i : Nat, s79 = .int .i64 (i : Int) ∧ i ≤ N ∧ w4 = W) (fun _ _ _ s79 _ => N - (intOf s79).toNat)
      case atStart => exact ⟨0, rfl, Nat.zero_le _, rfl⟩
      case round =>
        obtain ⟨i, rfl, hi2, rfl⟩ := hrel
        by_cases hlt2 : i < N
        · have hin : (i : Int) < (N : Int) := by omega
          obtain ⟨b4, o4, rfl, hb4, hc4⟩ := R4.out.cells (by omega)
          have c4i := hc4 i (by rw [HLL.out]; exact hlt2)
          rw [HAT.out i hlt2] at c4i
          obtain ⟨q, x, hq, hx, hw, hpar, hst⟩ := want_is k0 a m b i (by rw [← HN.out]; exact hlt2)
          rw [hw] at c4i
          have hNi : (N : Int) = (a : Int) + (m : Int) + (b : Int) := by have := HN.out; omega
          have HQ : Hid (q < N) := hide (by rw [HN.out]; exact hq)
          have hxx : ((x : Int) != (x : Int)) = false := by simp
          clear hc4 hw hq
          rcases hpar with ⟨hp, hq⟩ | ⟨hp, hq⟩
          · have ht : (k0 : Int).tmod 2 = 1 := by rw [Int.tmod_eq_emod_of_nonneg (by omega)]; exact hp
            have eq1 : (N : Int) - 1 - (i : Int) = (q : Int) := by have := HQ.out; omega
            clear hq hp
            rcases hst with ⟨g1, g2, g3⟩ | ⟨g1, g3⟩ | ⟨g1, g2, g3⟩
            · have g1b : (a : Int) ≤ (q : Int) := by omega
              have g2b : (q : Int) < (a : Int) + (m : Int) := by omega
              have g3b : 2 * (a : Int) + (m : Int) - 1 - (q : Int) = (x : Int) := by omega
              clear hNi g3
              go_wp2
              go_roundw
              case rel => exact ⟨i + 1, by go_num, by omega, by first | rfl | trivial⟩
              case measure => simp [intOf]; omega
            · have g1b : ¬ (a : Int) ≤ (q : Int) := by omega
              subst g3
              clear hNi
              go_wp2
              go_roundw
              case rel => exact ⟨i + 1, by go_num, by omega, by first | rfl | trivial⟩
              case measure => simp [intOf]; omega
            · have g1b : (a : Int) ≤ (q : Int) := by omega
              have g2b : ¬ (q : Int) < (a : Int) + (m : Int) := by omega
              subst g3
              clear hNi
              go_wp2
              go_roundw
              case rel => exact ⟨i + 1, by go_num, by omega, by first | rfl | trivial⟩
              case measure => simp [intOf]; omega
          · have ht : (k0 : Int).tmod 2 = 0 := by rw [Int.tmod_eq_emod_of_nonneg (by omega)]; exact hp
            subst hq
            clear hp
            rcases hst with ⟨g1, g2, g3⟩ | ⟨g1, g3⟩ | ⟨g1, g2, g3⟩
            · have g1b : (a : Int) ≤ (q : Int) := by omega
              have g2b : (q : Int) < (a : Int) + (m : Int) := by omega
              have g3b : 2 * (a : Int) + (m : Int) - 1 - (q : Int) = (x : Int) := by omega
              clear hNi g3
              go_wp2
              go_roundw
              case rel => exact ⟨q + 1, by go_num, by omega, by first | rfl | trivial⟩
              case measure => simp [intOf]; omega
            · have g1b : ¬ (a : Int) ≤ (q : Int) := by omega
              subst g3
              clear hNi
              go_wp2
              go_roundw
              case rel => exact ⟨x + 1, by go_num, by omega, by first | rfl | trivial⟩
              case measure => simp [intOf]; omega
            · have g1b : (a : Int) ≤ (q : Int) := by omega
              have g2b : ¬ (q : Int) < (a : Int) + (m : Int) := by omega
              subst g3
              clear hNi
              go_wp2
              go_roundw
              case rel => exact ⟨x + 1, by go_num, by omega, by first | rfl | trivial⟩
              case measure => simp [intOf]; omega
        · obtain rfl : N = i := by omega
          have hne2 : ¬ (N : Int) < (N : Int) := by omega
          go_wp2
          go_ret
          exact ⟨rfl, K4.out⟩
end Go.Proofs.Ytanoifkegfalgab
