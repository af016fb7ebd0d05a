/- MirrorGlyphs, MirrorBack, MirrorShows. -/
import Derived.Test.YtchpdokjalbpnaaDoorGt14
namespace Go.Proofs.YtchpdokjalbpnaaDoor
open Go.RowKit
set_option linter.unusedVariables false
set_option maxHeartbeats 1600000
set_option maxRecDepth 100000
theorem MirrorGlyphs_walk (w : World) (hm : Marks w) (r : Int) (hr : (Lit.int .i32 r).wf = true) (lv : Int) (hv : (Lit.int .i64 lv).wf = true) :
    Calls Tryd.prog 3 #[.int .i32 r, .int .i64 lv] w fun e w' => e = .returned (.bool true) ∧ Below w.heap.size w w' := by
  have HA := hide (glyph_any r lv w hr hm)
  have HB := hide (fun w' => rglyph_any r lv w')
  have HW := hide (fun w' (hk : KO w w') => works14_any w' (hm.below hk))
  clear hm hv hr
  generalize Mi.gl r lv = g at *
  go_enter Tryd.func3, Tryd.ntmps3
  go_wp2_with (first
    | (go_at_call 8; refine HA.out.mono ?_; rintro e w1 ⟨rfl, hk1⟩; have K1 := hide hk1; clear hk1)
    | (go_at_call 9; refine (HB.out _).mono ?_; rintro e w2 ⟨rfl, hk2⟩; have K2 := hide (KO.on K1.out hk2); clear hk2)
    | (go_at_call 10; refine (HW.out _ K2.out).mono ?_; rintro e w3 ⟨rfl, hk3⟩; have K3 := hide (KO.on K2.out hk3); clear hk3))
  go_ret
  exact ⟨rfl, K3.out⟩
theorem MirrorBack_walk (w : World) (hm : Marks w) (r : Int) (hr : (Lit.int .i32 r).wf = true) (lv : Int) (hv : (Lit.int .i64 lv).wf = true) :
    Calls Tryd.prog 7 #[.int .i32 r, .int .i64 lv] w fun e w' => e = .returned (.bool true) ∧ Below w.heap.size w w' := by
  have HW := hide (works14_any w hm)
  by_cases h0 : lv < 0
  · have HA := hide (fun w' (hk : KO w w') => glyph_any r lv w' hr (hm.below hk))
    rw [Mi.gl_even (by omega)] at HA
    clear hm hv hr
    go_enter Tryd.func7, Tryd.ntmps7
    go_wp2_with (first
      | (go_at_call 10; refine HW.out.mono ?_; rintro e w3 ⟨rfl, hk3⟩; have K3 := hide hk3; clear hk3)
      | (go_at_call 8; refine (HA.out _ K3.out).mono ?_; rintro e w1 ⟨rfl, hk1⟩; have K1 := hide (KO.on K3.out hk1); clear hk1))
    go_ret
    exact ⟨rfl, K1.out⟩
  by_cases h1 : lv % 2 = 0
  · have HA := hide (fun w' (hk : KO w w') => glyph_any r lv w' hr (hm.below hk))
    rw [Mi.gl_even (by omega)] at HA
    have ht : lv.tmod 2 = 0 := by rw [Int.tmod_eq_emod_of_nonneg (by omega)]; exact h1
    clear hm hv hr h1
    go_enter Tryd.func7, Tryd.ntmps7
    go_wp2_with (first
      | (go_at_call 10; refine HW.out.mono ?_; rintro e w3 ⟨rfl, hk3⟩; have K3 := hide hk3; clear hk3)
      | (go_at_call 8; refine (HA.out _ K3.out).mono ?_; rintro e w1 ⟨rfl, hk1⟩; have K1 := hide (KO.on K3.out hk1); clear hk1))
    go_ret
    exact ⟨rfl, K1.out⟩
  · have hb := bounds_i32 hr
    have HA := hide (fun w' (hk : KO w w') => glyph_any r lv w' hr (hm.below hk))
    have HB := hide (fun w' (hk : KO w w') => glyph_any (Mi.gl r lv) 1 w' (WalkArith.wf_i32 (Mi.gl_ok hb)) (hm.below hk))
    have HC := hide (fun w' (hk : KO w w') => glyph_any (Mi.gl r lv) 125 w' (WalkArith.wf_i32 (Mi.gl_ok hb)) (hm.below hk))
    rw [Mi.gl_twice (by omega) (by omega)] at HB HC
    have ht : lv.tmod 2 = 1 := by rw [Int.tmod_eq_emod_of_nonneg (by omega)]; omega
    clear hm hv hr h1 hb
    generalize Mi.gl r lv = g at *
    go_enter Tryd.func7, Tryd.ntmps7
    go_wp2_with fail
    refine HW.out.mono ?_
    rintro e w3 ⟨rfl, hk3⟩
    have K3 := hide hk3
    clear hk3
    go_wp2_with fail
    refine (HA.out _ K3.out).mono ?_
    rintro e w4 ⟨rfl, hk4⟩
    have K4 := hide (KO.on K3.out hk4)
    clear hk4
    go_wp2_with fail
    refine (HB.out _ K4.out).mono ?_
    rintro e w5 ⟨rfl, hk5⟩
    have K5 := hide (KO.on K4.out hk5)
    clear hk5
    go_wp2_with fail
    refine (HC.out _ K5.out).mono ?_
    rintro e w6 ⟨rfl, hk6⟩
    have K6 := hide (KO.on K5.out hk6)
    clear hk6
    go_wp2
    go_ret
    exact ⟨rfl, K6.out⟩
end Go.Proofs.YtchpdokjalbpnaaDoor
