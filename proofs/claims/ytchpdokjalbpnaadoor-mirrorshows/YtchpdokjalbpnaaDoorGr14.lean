/- The document's Glyph and Show, by contract. -/
import Derived.Test.YtchpdokjalbpnaaDoorGl14
import Derived.Test.YtchpdokjalbpnaaDoorRefm
import Derived.Test.YtchpdokjalbpnaaDoorRg13
import Derived.Deep.RegionHeldLaw
import Derived.Deep.RegionHeld3
namespace Go.Proofs.YtchpdokjalbpnaaDoor
open Go.RowKit
set_option linter.unusedVariables false
set_option maxHeartbeats 1600000
set_option maxRecDepth 100000
theorem rglyph_any (r lv : Int) (w : World) : Calls Tryd.prog 9 #[.int .i32 r, .int .i64 lv] w fun e w' => e = .returned (.int .i32 (Mi.gl r lv)) ∧ KO w w' := by
  have HM := hide (rmirror_any r w)
  by_cases h0 : 0 ≤ lv
  · by_cases h1 : lv % 2 = 1
    · have ht : lv.tmod 2 = 1 := by rw [Int.tmod_eq_emod_of_nonneg h0]; exact h1
      cases hb : (Ucd.mir r).2 with
      | true =>
        rw [hb, ← Mi.gl_yes ⟨h0, h1⟩ hb] at HM
        clear hb h1
        generalize Mi.gl r lv = g at *
        generalize hx : lv.tmod 2 = x at ht
        subst ht
        go_enter Tryd.func9, Tryd.ntmps9
        go_wp2_with (go_at_call 18; refine HM.out.mono ?_; rintro e w1 ⟨rfl, hk1⟩; have HK := hide hk1; clear hk1)
        go_ret
        exact ⟨rfl, HK.out⟩
      | false =>
        rw [hb] at HM
        rw [Mi.gl_no hb]
        clear hb h1 ht
        generalize (Ucd.mir r).1 = g at *
        go_enter Tryd.func9, Tryd.ntmps9
        go_wp2_with (go_at_call 18; refine HM.out.mono ?_; rintro e w1 ⟨rfl, hk1⟩; have HK := hide hk1; clear hk1)
        go_ret
        exact ⟨rfl, HK.out⟩
    · have ht : ¬ lv.tmod 2 = 1 := by rw [Int.tmod_eq_emod_of_nonneg h0]; exact h1
      have htb : (lv.tmod 2 == 1) = false := by simpa using ht
      rw [Mi.gl_even (fun q => h1 q.2)]
      clear h1
      generalize (Ucd.mir r).1 = g at *
      generalize (Ucd.mir r).2 = b at *
      generalize hx : lv.tmod 2 = x at ht htb
      cases b
      · go_enter Tryd.func9, Tryd.ntmps9
        go_wp2_with (go_at_call 18; refine HM.out.mono ?_; rintro e w1 ⟨rfl, hk1⟩; have HK := hide hk1; clear hk1)
        go_ret
        exact ⟨rfl, HK.out⟩
      · go_enter Tryd.func9, Tryd.ntmps9
        go_wp2_with (go_at_call 18; refine HM.out.mono ?_; rintro e w1 ⟨rfl, hk1⟩; have HK := hide hk1; clear hk1)
        go_ret
        exact ⟨rfl, HK.out⟩
  · rw [Mi.gl_even (fun q => h0 q.1)]
    generalize (Ucd.mir r).1 = g at *
    generalize (Ucd.mir r).2 = b at *
    have h2 : ¬ lv ≥ 0 := h0
    cases b
    · go_enter Tryd.func9, Tryd.ntmps9
      go_wp2_with (go_at_call 18; refine HM.out.mono ?_; rintro e w1 ⟨rfl, hk1⟩; have HK := hide hk1; clear hk1)
      go_ret
      exact ⟨rfl, HK.out⟩
    · go_enter Tryd.func9, Tryd.ntmps9
      go_wp2_with (go_at_call 18; refine HM.out.mono ?_; rintro e w1 ⟨rfl, hk1⟩; have HK := hide hk1; clear hk1)
      go_ret
      exact ⟨rfl, HK.out⟩
end Go.Proofs.YtchpdokjalbpnaaDoor
