/- works: the chapter's examples. -/
import Derived.Test.YtfdfoojagngnnaaBase
import Derived.Test.YtfdfoojagngnnaaDepth
namespace Go.Proofs.Ytfdfoojagngnnaa
open Go.RowKit
set_option linter.unusedVariables false
set_option maxHeartbeats 1000000
set_option maxRecDepth 100000
theorem ex_mt : Iso.MT [20, 1, 23, 2] = [2, 1, 0, 3] := by decide
theorem ex_dp : Iso.DP [20, 1, 23, 2] = [0, 1, 0, 0] := by decide
theorem ex_bs : Iso.bso 0 (([20, 1, 23, 2] : List Int).take 4 |>.drop 0) = 1 := by decide
theorem row_owned {w : World} {base n cap g : Nat} {zs : List Int} (h : w.ownsRow base 3 1 (.slice (some ⟨g, 0, none⟩) n cap) n (zs.map (Value.int .i64))) : Row .i64 w (some ⟨g, 0, none⟩) n cap zs := by
  obtain ⟨ao, c, e, hr⟩ := row_of_owns h
  simp only [Value.slice.injEq] at e
  obtain ⟨rfl, _, rfl⟩ := e
  exact hr
theorem works_any (w : World) : Calls Try.prog 9 #[] w fun e w' => e = .returned (.bool true) ∧ Below w.heap.size w w' := by
  obtain ⟨V, hV⟩ : ∃ V, w.alloc (.cells #[.int .i64 20, .int .i64 1, .int .i64 23, .int .i64 2] 3) = V := ⟨_, rfl⟩
  have hkV : KO w V := by rw [← hV]; exact KO.alloc (KO.refl _) _
  have hr : Row .i64 V (some ⟨w.heap.size, 0, none⟩) 4 4 [20, 1, 23, 2] := by rw [← hV]; exact row_lit .i64 w [20, 1, 23, 2] 3 (by decide)
  have HB := hide (base_ok (some ⟨w.heap.size, 0, none⟩) 4 4 [20, 1, 23, 2] 0 4 V hr (by omega) (by omega) (by omega))
  rw [ex_bs] at HB
  have HM := hide (match_any (some ⟨w.heap.size, 0, none⟩) 4 4 [20, 1, 23, 2] V hr (by omega))
  rw [ex_mt] at HM
  have HD := hide (fun w' (h : KO V w') => depth_any (some ⟨w.heap.size, 0, none⟩) 4 4 [20, 1, 23, 2] w' (hr.below h) (by omega))
  rw [ex_dp] at HD
  have HKV := hide hkV
  clear hr hkV
  go_enter Try.func9, Try.ntmps9
  go_wp2_with fail
  clear hV
  refine HB.out.mono ?_
  rintro e w1 ⟨rfl, rfl⟩
  go_wp2_with fail
  refine HM.out.mono ?_
  rintro e w1 ⟨rfl, ho1, hb1⟩
  have hka : KO w1 (w1.alloc (.cells #[.int .i64 2, .int .i64 1, .int .i64 0, .int .i64 3] 3)) := KO.alloc (KO.refl _) _
  have HI1 := hide (ints_yes (some ⟨V.heap.size, 0, none⟩) (some ⟨w1.heap.size, 0, none⟩) 4 4 4 [2, 1, 0, 3] _ ((row_owned ho1).below hka) (row_lit .i64 w1 [2, 1, 0, 3] 3 (by decide)))
  have HK1 := hide (KO.on hb1 hka)
  clear ho1 hb1 hka
  go_wp2_with fail
  refine HI1.out.mono ?_
  rintro e w2 ⟨rfl, hd2⟩
  have HK2 := hide (KO.on HK1.out (below_of_drewN hd2))
  clear hd2
  go_wp2_with fail
  refine (HD.out _ HK2.out).mono ?_
  rintro e w3 ⟨rfl, ho3, hb3⟩
  have hka : KO w3 (w3.alloc (.cells #[.int .i64 0, .int .i64 1, .int .i64 0, .int .i64 0] 3)) := KO.alloc (KO.refl _) _
  have HI2 := hide (ints_yes (some ⟨w2.heap.size, 0, none⟩) (some ⟨w3.heap.size, 0, none⟩) 4 4 4 [0, 1, 0, 0] _ ((row_owned ho3).below hka) (row_lit .i64 w3 [0, 1, 0, 0] 3 (by decide)))
  have HK3 := hide (KO.on (KO.on HK2.out hb3) hka)
  clear ho3 hb3 hka
  go_wp2_with fail
  refine HI2.out.mono ?_
  rintro e w4 ⟨rfl, hd4⟩
  have HK4 := hide (KO.on HKV.out (KO.on HK3.out (below_of_drewN hd4)))
  clear hd4
  go_wp2_with fail
  go_ret
  exact ⟨rfl, HK4.out⟩
end Go.Proofs.Ytfdfoojagngnnaa
