/- works: the chapter's examples; ExplicitRemoves. -/
import Derived.Test.YthoganddhoklpaaRes
namespace Go.Proofs.Ythoganddhoklpaa
open Go.RowKit
set_option linter.unusedVariables false
set_option maxHeartbeats 1000000
set_option maxRecDepth 100000
theorem ex_l0 : Ex.LV 0 [18, 1, 14] = [-1, 1, 1] := by decide
theorem ex_t0 : Ex.TY 0 [18, 1, 14] = [18, 2, 2] := by decide
theorem ex_l1 : Ex.LV 1 [20, 2, 23] = [1, 2, 1] := by decide
theorem ex_f0 : Ex.Formed [18, 1, 14] := by
  intro i hi
  match i, hi with
  | 0, _ => decide
  | 1, _ => decide
  | 2, _ => decide
theorem ex_f1 : Ex.Formed [20, 2, 23] := by
  intro i hi
  match i, hi with
  | 0, _ => decide
  | 1, _ => decide
  | 2, _ => decide
theorem works7_any (w : World) : Calls Try.prog 9 #[] w fun e w' => e = .returned (.bool true) ∧ Below w.heap.size w w' := by
  have hk0 : KO w (w.alloc (.cells #[.int .i64 18, .int .i64 1, .int .i64 14] 3)) := KO.alloc (KO.refl _) _
  have hr0 : Row .i64 (w.alloc (.cells #[.int .i64 18, .int .i64 1, .int .i64 14] 3)) (some ⟨w.heap.size, 0, none⟩) 3 3 [18, 1, 14] := row_lit .i64 w [18, 1, 14] 3 (by decide)
  have HR0 := hide (resolve_ok _ 3 3 [18, 1, 14] 0 _ hr0 (by omega) (.inl rfl) ex_f0)
  rw [ex_l0, ex_t0] at HR0
  have HK0 := hide hk0
  clear hr0 hk0
  go_enter Try.func9, Try.ntmps9
  go_wp2_with fail
  refine HR0.out.mono ?_
  rintro e w1 ⟨l1, t1, rfl, rl1, rt1, hb1⟩
  have k1 : KO w w1 := KO.on HK0.out hb1
  have hr1 : Row .i64 (w1.alloc (.cells #[.int .i64 20, .int .i64 2, .int .i64 23] 3)) (some ⟨w1.heap.size, 0, none⟩) 3 3 [20, 2, 23] := row_lit .i64 w1 [20, 2, 23] 3 (by decide)
  have HR1 := hide (resolve_ok _ 3 3 [20, 2, 23] 1 _ hr1 (by omega) (.inr rfl) ex_f1)
  rw [ex_l1] at HR1
  have ka : KO w1 (w1.alloc (.cells #[.int .i64 20, .int .i64 2, .int .i64 23] 3)) := KO.alloc (KO.refl _) _
  clear hr1 HR0 hb1 HK0
  go_wp2_with fail
  refine HR1.out.mono ?_
  rintro e w2 ⟨l2, t2, rfl, rl2, rt2, hb2⟩
  have k2 : KO w1 w2 := KO.on ka hb2
  have kb : KO w2 (w2.alloc (.cells #[.int .i64 (-1), .int .i64 1, .int .i64 1] 3)) := KO.alloc (KO.refl _) _
  have HI1 := hide (ints_yes (some ⟨l1, 0, none⟩) (some ⟨w2.heap.size, 0, none⟩) 3 3 3 [-1, 1, 1] _ ((rl1.below k2).below kb) (row_lit .i64 w2 [-1, 1, 1] 3 (by decide)))
  clear HR1 hb2 ka rt2
  go_wp2_with fail
  refine HI1.out.mono ?_
  rintro e w3 ⟨rfl, hd3⟩
  have k3 : KO w2 w3 := KO.on kb (below_of_drewN hd3)
  have kc : KO w3 (w3.alloc (.cells #[.int .i64 18, .int .i64 2, .int .i64 2] 3)) := KO.alloc (KO.refl _) _
  have HI2 := hide (ints_yes (some ⟨t1, 0, none⟩) (some ⟨w3.heap.size, 0, none⟩) 3 3 3 [18, 2, 2] _ ((rt1.below (KO.on k2 k3)).below kc) (row_lit .i64 w3 [18, 2, 2] 3 (by decide)))
  clear HI1 hd3 rl1
  go_wp2_with fail
  refine HI2.out.mono ?_
  rintro e w4 ⟨rfl, hd4⟩
  have k4 : KO w2 w4 := KO.on k3 (KO.on kc (below_of_drewN hd4))
  have kd : KO w4 (w4.alloc (.cells #[.int .i64 1, .int .i64 2, .int .i64 1] 3)) := KO.alloc (KO.refl _) _
  have HI3 := hide (ints_yes (some ⟨l2, 0, none⟩) (some ⟨w4.heap.size, 0, none⟩) 3 3 3 [1, 2, 1] _ ((rl2.below k4).below kd) (row_lit .i64 w4 [1, 2, 1] 3 (by decide)))
  clear HI2 hd4 rl2 rt1
  go_wp2_with fail
  refine HI3.out.mono ?_
  rintro e w5 ⟨rfl, hd5⟩
  have HK := hide (KO.on k1 (KO.on k2 (KO.on k4 (KO.on kd (below_of_drewN hd5)))))
  clear HI3 hd5 k1 k2 k3 k4 kb kc kd
  go_wp2_with fail
  go_ret
  exact ⟨rfl, HK.out⟩
theorem rremoved_any (x : Int) (w : World) : Calls Try.prog 14 #[.int .i64 x] w fun e w' => e = .returned (.bool (Ex.rm x)) ∧ w = w' := by
  rcases rm_cases x with ⟨hs, h⟩ | ⟨hs, h1, h2, h3, h4, h5, h6⟩
  · rcases h with rfl | rfl | rfl | rfl | rfl | rfl
    all_goals
      clear hs
      go_enter Try.func14, Try.ntmps14
      go_wp2
      go_ret
      exact ⟨rfl, rfl⟩
  · rw [hs]
    have q1 : (x == 17) = false := beq_false_of_ne h1
    have q2 : (x == 15) = false := beq_false_of_ne h2
    have q3 : (x == 18) = false := beq_false_of_ne h3
    have q4 : (x == 16) = false := beq_false_of_ne h4
    have q5 : (x == 19) = false := beq_false_of_ne h5
    have q6 : (x == 10) = false := beq_false_of_ne h6
    clear hs
    go_enter Try.func14, Try.ntmps14
    go_wp2
    go_ret
    exact ⟨rfl, rfl⟩
theorem ExplicitRemoves_walk (w : World) (x : Int) (hw : (Lit.int .i64 x).wf = true) : Calls Try.prog 4 #[.int .i64 x] w fun e w' => e = .returned (.bool true) ∧ Below w.heap.size w w' := by
  have HA := hide (removed_any x w)
  have HB := hide (rremoved_any x w)
  have HC := hide (removed_any 10 w)
  rw [show Ex.rm 10 = true from rfl] at HC
  have HW := hide (works7_any w)
  generalize Ex.rm x = r at *
  have he : (r == r) = true := by simp
  go_enter Try.func4, Try.ntmps4
  go_wp2_with fail
  refine HA.out.mono ?_
  rintro e w' ⟨rfl, rfl⟩
  go_wp2_with fail
  refine HB.out.mono ?_
  rintro e w' ⟨rfl, rfl⟩
  go_wp2_with fail
  refine HC.out.mono ?_
  rintro e w' ⟨rfl, rfl⟩
  go_wp2_with fail
  refine HW.out.mono ?_
  rintro e w' ⟨rfl, hb⟩
  go_wp2
  go_ret
  exact ⟨rfl, hb⟩
end Go.Proofs.Ythoganddhoklpaa
