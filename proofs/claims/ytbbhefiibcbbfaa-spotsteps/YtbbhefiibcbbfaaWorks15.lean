/- The chapter's examples: works. -/
import Derived.Test.YtbbhefiibcbbfaaCs15
import Derived.Test.YtbbhefiibcbbfaaCf15
namespace Go.Proofs.Ytbbhefiibcbbfaa
open Go.RowKit
set_option linter.unusedVariables false
set_option maxHeartbeats 1600000
set_option maxRecDepth 100000
namespace Fl
theorem fb_two : fb 2 = 4611686018427387904 := by decide
theorem fb_three : fb 3 = 4613937818241073152 := by decide
end Fl
theorem ex15s : SPA [0, 1, 1] 0 [(0, 1), (2, -1), (1, -1), (3, 1)] 0 := .inl ⟨⟨.inl rfl, by decide⟩, by decide +kernel, rfl⟩
theorem ex15a : Spt.ST [(0, 1), (2, -1), (1, -1), (3, 1)] 0 1 = (2, 0) := by decide +kernel
theorem ex15b : Spt.ST [(0, 1), (2, -1), (1, -1), (3, 1)] 3 1 = (0, 150) := by decide +kernel
theorem ex15f : Spt.FP [(0, 1), (2, -1), (1, -1), (3, 1)] = [(3, -1), (1, 1), (2, 1), (0, -1)] := by decide +kernel
theorem works15_any (w : World) : Calls Try.prog 9 #[] w fun e w' => e = .returned (.bool true) ∧ KO w w' := by
  have ka : KO w (w.alloc (.cells #[.int .i64 0, .int .i64 1, .int .i64 1] 3)) := KO.alloc (KO.refl w) _
  have HS := hide (spots_any (some ⟨w.heap.size, 0, none⟩) 3 3 [0, 1, 1] 0 (w.alloc (.cells #[.int .i64 0, .int .i64 1, .int .i64 1] 3)) (row_lit .i64 w [0, 1, 1] 3 (by unfold maxLen; simp)) (by omega) _ 0 ex15s)
  have KA := hide ka
  have hwz := SPA_wz ex15s 4 (by decide)
  have HST := hide (fun (x : Option Addr) (c : Nat) (W : World) (h : ZR W x 4 c [(0, 1), (2, -1), (1, -1), (3, 1)]) => step_any [(0, 1), (2, -1), (1, -1), (3, 1)] 0 1 4 (by omega) hwz x 4 c W h)
  have HSU := hide (fun (x : Option Addr) (c : Nat) (W : World) (h : ZR W x 4 c [(0, 1), (2, -1), (1, -1), (3, 1)]) => step_any [(0, 1), (2, -1), (1, -1), (3, 1)] 3 1 4 (by omega) hwz x 4 c W h)
  have HFL := hide (fun (x : Option Addr) (c : Nat) (W : World) (h : ZR W x 4 c [(0, 1), (2, -1), (1, -1), (3, 1)]) => flip_any [(0, 1), (2, -1), (1, -1), (3, 1)] 4 hwz x 4 c W h (by omega) (by omega))
  rw [ex15a] at HST
  rw [ex15b] at HSU
  rw [ex15f] at HFL
  have q0 : (FloatKind.f64.format.order 0 0 == some .eq) = true := by decide
  have q1 : (FloatKind.f64.format.order 4607182418800017408 4607182418800017408 == some .eq) = true := by decide
  have q2 : (FloatKind.f64.format.order 13830554455654793216 13830554455654793216 == some .eq) = true := by decide
  have q3 : (FloatKind.f64.format.order 4611686018427387904 4611686018427387904 == some .eq) = true := by decide
  have q4 : (FloatKind.f64.format.order 4613937818241073152 4613937818241073152 == some .eq) = true := by decide
  clear ka hwz
  go_enter Try.func9, Try.ntmps9
  go_wp2_with fail
  refine HS.out.mono ?_
  rintro e w1 ⟨x1, c1, rfl, hz1, hk1⟩
  have Z1 := hide (show ZR w1 x1 4 c1 [(0, 1), (2, -1), (1, -1), (3, 1)] from hz1)
  have K1 := hide (KO.on KA.out hk1)
  obtain ⟨b1, o1, rfl, hb1, hc1⟩ := Z1.out.at (by omega)
  have C1 := hide (fun W (hk : KO w1 W) i (hi : i < 4) => (Below.cell hk (by exact hb1)).trans (hc1 i hi))
  have d0 : w1.cell? ⟨b1, o1, none⟩ = some (.complex .f64 0 4607182418800017408) := by have := hc1 0 (by omega); rw [show Fl.fb (([(0, 1), (2, -1), (1, -1), (3, 1)] : List (Int × Int)).getD 0 (0, 0)).1 = 0 from Fl.fb_zero, show Fl.fb (([(0, 1), (2, -1), (1, -1), (3, 1)] : List (Int × Int)).getD 0 (0, 0)).2 = 4607182418800017408 from Fl.fb_one] at this; exact this
  have d1 : w1.cell? ⟨b1, o1 + 1, none⟩ = some (.complex .f64 4611686018427387904 13830554455654793216) := by have := hc1 1 (by omega); rw [show Fl.fb (([(0, 1), (2, -1), (1, -1), (3, 1)] : List (Int × Int)).getD 1 (0, 0)).1 = 4611686018427387904 from Fl.fb_two, show Fl.fb (([(0, 1), (2, -1), (1, -1), (3, 1)] : List (Int × Int)).getD 1 (0, 0)).2 = 13830554455654793216 from Fl.fb_neg] at this; exact this
  have d2 : w1.cell? ⟨b1, o1 + 2, none⟩ = some (.complex .f64 4607182418800017408 13830554455654793216) := by have := hc1 2 (by omega); rw [show Fl.fb (([(0, 1), (2, -1), (1, -1), (3, 1)] : List (Int × Int)).getD 2 (0, 0)).1 = 4607182418800017408 from Fl.fb_one, show Fl.fb (([(0, 1), (2, -1), (1, -1), (3, 1)] : List (Int × Int)).getD 2 (0, 0)).2 = 13830554455654793216 from Fl.fb_neg] at this; exact this
  have d3 : w1.cell? ⟨b1, o1 + 3, none⟩ = some (.complex .f64 4613937818241073152 4607182418800017408) := by have := hc1 3 (by omega); rw [show Fl.fb (([(0, 1), (2, -1), (1, -1), (3, 1)] : List (Int × Int)).getD 3 (0, 0)).1 = 4613937818241073152 from Fl.fb_three, show Fl.fb (([(0, 1), (2, -1), (1, -1), (3, 1)] : List (Int × Int)).getD 3 (0, 0)).2 = 4607182418800017408 from Fl.fb_one] at this; exact this
  have HST1 := hide (HST.out _ _ _ Z1.out)
  clear hz1 hk1 hc1 HS HST
  go_wp2_with fail
  refine HST1.out.mono ?_
  rintro e w2 ⟨rfl, hk2⟩
  have K2 := hide hk2
  have HSU2 := hide (HSU.out _ _ _ (Z1.out.below hk2))
  clear hk2 HST1 HSU d0 d1 d2 d3
  go_wp2_with fail
  refine HSU2.out.mono ?_
  rintro e w3 ⟨rfl, hk3⟩
  have K3 := hide (KO.on K2.out hk3)
  have HFL3 := hide (HFL.out _ _ _ (Z1.out.below (KO.on K2.out hk3)))
  clear hk3 HSU2 HFL
  go_wp2_with fail
  refine HFL3.out.mono ?_
  rintro e w4 ⟨rfl, hz4, hk4⟩
  obtain ⟨b4, o4, e4, hb4, hc4⟩ := hz4.at (by omega)
  simp only [Option.some.injEq, Addr.mk.injEq, and_true] at e4
  obtain ⟨rfl, rfl⟩ := e4
  have K4 := hide (KO.on K1.out (KO.on K3.out hk4))
  have f0 : w4.cell? ⟨w3.heap.size, 0, none⟩ = some (.complex .f64 4613937818241073152 13830554455654793216) := by have := hc4 0 (by omega); rw [show Fl.fb (([(3, -1), (1, 1), (2, 1), (0, -1)] : List (Int × Int)).getD 0 (0, 0)).1 = 4613937818241073152 from Fl.fb_three, show Fl.fb (([(3, -1), (1, 1), (2, 1), (0, -1)] : List (Int × Int)).getD 0 (0, 0)).2 = 13830554455654793216 from Fl.fb_neg] at this; exact this
  have f1 : w4.cell? ⟨w3.heap.size, 1, none⟩ = some (.complex .f64 4607182418800017408 4607182418800017408) := by have := hc4 1 (by omega); rw [show Fl.fb (([(3, -1), (1, 1), (2, 1), (0, -1)] : List (Int × Int)).getD 1 (0, 0)).1 = 4607182418800017408 from Fl.fb_one, show Fl.fb (([(3, -1), (1, 1), (2, 1), (0, -1)] : List (Int × Int)).getD 1 (0, 0)).2 = 4607182418800017408 from Fl.fb_one] at this; exact this
  clear hz4 hk4 hc4 HFL3
  go_wp2
  go_ret
  exact ⟨rfl, K4.out⟩
end Go.Proofs.Ytbbhefiibcbbfaa
