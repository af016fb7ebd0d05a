/- works: the chapter's examples. -/
import Derived.Test.YtkkmifpdhcdkpaaDoorBe
import Derived.Test.YtkkmifpdhcdkpaaDoorEq2
namespace Go.Proofs.YtkkmifpdhcdkpaaDoor
open Go.RowKit
set_option linter.unusedVariables false
set_option maxHeartbeats 1000000
set_option maxRecDepth 100000
theorem ex10a : Br.PP [97, 40, 98, 41] [1, 14, 1, 14] = [(1, 3)] := by decide +kernel
theorem ex10b : Br.RA [97, 40, 98, 41] [2, 14, 1, 14] [2, 14, 1, 14] 1 2 = (0, [2, 2, 1, 2]) := by decide +kernel
theorem works10_any (w : World) (hm : Marks w) : Calls Tryd.prog 9 #[] w fun e w' => e = .returned (.bool true) ∧ KO w w' := by
  have heq := run_same2
  have hbt := build_two
  obtain ⟨W0, hW0⟩ : ∃ W0, w.alloc (.cells #[.int .i32 97, .int .i32 40, .int .i32 98, .int .i32 41] 21) = W0 := ⟨_, rfl⟩
  have hk0 : KO w W0 := by rw [← hW0]; exact KO.alloc (KO.refl _) _
  have hr0 : Row .i32 W0 (some ⟨w.heap.size, 0, none⟩) 4 4 [97, 40, 98, 41] := by rw [← hW0]; exact row_lit .i32 w [97, 40, 98, 41] 21 (by decide)
  have hm0 := hm.below hk0
  obtain ⟨W1, hW1⟩ : ∃ W1, W0.alloc (.cells #[.int .i64 1, .int .i64 14, .int .i64 1, .int .i64 14] 3) = W1 := ⟨_, rfl⟩
  have hk1 : KO W0 W1 := by rw [← hW1]; exact KO.alloc (KO.refl _) _
  have hr1 : Row .i64 W1 (some ⟨W0.heap.size, 0, none⟩) 4 4 [1, 14, 1, 14] := by rw [← hW1]; exact row_lit .i64 W0 [1, 14, 1, 14] 3 (by decide)
  have HP := hide (pairs_ok _ _ 4 4 4 _ _ W1 (hr0.below hk1) hr1 (by decide) (hm0.below hk1) (by omega))
  rw [ex10a] at HP
  have HK := hide (KO.on hk0 hk1)
  have HR0 := hide (hr0.below hk1)
  have HM := hide (hm0.below hk1)
  clear hr0 hr1 hm0 hk0 hk1 hm
  go_enter Tryd.func9, Tryd.ntmps9
  go_wp2_with fail
  refine HP.out.mono ?_
  rintro e w2 ⟨ap, cp, rfl, hp, hb2⟩
  clear hW0 hW1
  have HK2 := hide (KO.on HK.out hb2)
  have HPP := hide hp
  have HR2 := hide (HR0.out.below hb2)
  have HM2 := hide (HM.out.below hb2)
  obtain ⟨W3, hW3⟩ : ∃ W3, w2.alloc (.cells #[.int .i64 2, .int .i64 14, .int .i64 1, .int .i64 14] 3) = W3 := ⟨_, rfl⟩
  have hk3 : KO w2 W3 := by rw [← hW3]; exact KO.alloc (KO.refl _) _
  have hr3 : Row .i64 W3 (some ⟨w2.heap.size, 0, none⟩) 4 4 [2, 14, 1, 14] := by rw [← hW3]; exact row_lit .i64 w2 [2, 14, 1, 14] 3 (by decide)
  obtain ⟨W4, hW4⟩ : ∃ W4, W3.alloc (.cells #[.int .i64 2, .int .i64 14, .int .i64 1, .int .i64 14] 3) = W4 := ⟨_, rfl⟩
  have hk4 : KO W3 W4 := by rw [← hW4]; exact KO.alloc (KO.refl _) _
  have hr4 : Row .i64 W4 (some ⟨W3.heap.size, 0, none⟩) 4 4 [2, 14, 1, 14] := by rw [← hW4]; exact row_lit .i64 W3 [2, 14, 1, 14] 3 (by decide)
  have HR := hide (resolve_any _ _ _ 4 4 4 4 4 4 _ _ _ 1 2 W4 (HR2.out.below (KO.on hk3 hk4)) (hr3.below hk4) hr4 (by decide) (HM2.out.below (KO.on hk3 hk4)) (by omega))
  rw [ex10b] at HR
  have HK4 := hide (KO.on HK2.out (KO.on hk3 hk4))
  have HPP4 := hide (HPP.out.below (KO.on hk3 hk4))
  clear hr3 hr4 hk3 hk4 hp hb2 HP HPP HK HR0 HM HM2 HR2
  go_wp2_with fail
  refine HR.out.mono ?_
  rintro e w5 ⟨ar, cr, rfl, hr, hb5⟩
  clear hW3 hW4
  simp only [List.length_cons, List.length_nil, Nat.zero_add, Nat.reduceAdd] at hr ⊢
  have HRR := hide hr
  have hp5 := HPP4.out.below hb5
  obtain ⟨b, eb, _, hc⟩ := hp5.cells (by decide)
  obtain ⟨c0, c1⟩ := hc 0 (by decide)
  subst eb
  simp only [List.getD_cons_zero, Nat.zero_mul, Nat.zero_add] at c0 c1
  have HK5 := hide (KO.on HK4.out hb5)
  have hka : KO w5 (w5.alloc (.cells #[.int .i64 2, .int .i64 2, .int .i64 1, .int .i64 2] 3)) := KO.alloc (KO.refl _) _
  have HI := hide (ints_yes ar (some ⟨w5.heap.size, 0, none⟩) 4 cr 4 [2, 2, 1, 2] _ (HRR.out.below hka) (row_lit .i64 w5 [2, 2, 1, 2] 3 (by decide)))
  have HKA := hide hka
  clear hr hp5 hc hb5 hka HR HPP4 HK2
  go_wp2_with fail
  refine HI.out.mono ?_
  rintro e w6 ⟨rfl, hd6⟩
  have HK6 := hide (KO.on HK5.out (KO.on HKA.out (below_of_drewN hd6)))
  clear hd6
  go_wp2
  go_ret
  exact ⟨rfl, HK6.out⟩
end Go.Proofs.YtkkmifpdhcdkpaaDoor
