/- IsolateBases: the base direction of any places is as the document has it. -/
import Derived.Test.YtfdfoojagngnnaaRefb6
import Derived.Test.YtfdfoojagngnnaaWorks
namespace Go.Proofs.Ytfdfoojagngnnaa
open Go.RowKit
set_option linter.unusedVariables false
set_option maxHeartbeats 1000000
set_option maxRecDepth 100000
theorem IsolateBases_walk (w : World) (a0 : Option Addr) (n0 cap0 : Nat) (c : List Int) (h0 : Row .i64 w a0 n0 cap0 c) (hf0 : ∀ x ∈ c, (Lit.int .i64 x).wf = true) (hs0 : n0 * 8 ≤ 140737488351232)
    (fr : Int) (hfr : (Lit.int .i64 fr).wf = true) (to : Int) (hto : (Lit.int .i64 to).wf = true) :
    Calls Try.prog 4 #[.slice a0 n0 cap0, .int .i64 fr, .int .i64 to] w fun e w' => e = .returned (.bool true) ∧ Below w.heap.size w w' := by
  have HW := hide (works_any w)
  by_cases hbig : n0 ≤ 2000
  · have e0 : ¬ ((2000 : Int) < (n0 : Int)) := by omega
    by_cases hr : fr < 0 ∨ (n0 : Int) < to ∨ to < fr
    · have HB := hide (base_bad a0 n0 cap0 fr to w hr)
      have HRB := hide (rbase_bad a0 n0 cap0 fr to w hr)
      clear h0 hf0 hs0 hfr hto hr hbig
      go_enter Try.func4, Try.ntmps4
      go_wp2_with fail
      refine HB.out.mono ?_
      rintro e w' ⟨rfl, rfl⟩
      go_wp2_with fail
      refine HRB.out.mono ?_
      rintro e w' ⟨rfl, rfl⟩
      go_wp2_with fail
      refine HW.out.mono ?_
      rintro e w1 ⟨rfl, hb1⟩
      go_wp2_with fail
      go_ret
      exact ⟨rfl, hb1⟩
    · obtain ⟨f, rfl⟩ : ∃ f : Nat, fr = (f : Int) := ⟨fr.toNat, by omega⟩
      obtain ⟨t, rfl⟩ : ∃ t : Nat, to = (t : Int) := ⟨to.toNat, by omega⟩
      have HB := hide (base_ok a0 n0 cap0 c f t w h0 (by omega) (by omega) (by omega))
      have HRB := hide (rbase_ok a0 n0 cap0 c f t w h0 (by omega) (by omega) (by omega))
      generalize Iso.bso 0 ((c.take t).drop f) = R at *
      clear h0 hf0 hs0 hfr hto hr hbig
      go_enter Try.func4, Try.ntmps4
      go_wp2_with fail
      refine HB.out.mono ?_
      rintro e w' ⟨rfl, rfl⟩
      go_wp2_with fail
      refine HRB.out.mono ?_
      rintro e w' ⟨rfl, rfl⟩
      go_wp2_with fail
      refine HW.out.mono ?_
      rintro e w1 ⟨rfl, hb1⟩
      go_wp2_with fail
      go_ret
      exact ⟨ret_bool (by simp), hb1⟩
  · have e0 : (2000 : Int) < (n0 : Int) := by omega
    clear h0 hf0 hs0 hbig hfr hto
    go_enter Try.func4, Try.ntmps4
    go_wp2_with (go_at_call 9; refine HW.out.mono ?_; rintro e w1 ⟨rfl, hb1⟩)
    go_ret
    exact ⟨rfl, hb1⟩
end Go.Proofs.Ytfdfoojagngnnaa
