/- The walk of the law on cuts. -/
import Derived.Test.YtkcalmighgdojaaCopy
namespace Go.Proofs.Ytkcalmighgdojaa
open Go.RowKit
set_option linter.unusedVariables false
set_option maxHeartbeats 2000000 in
theorem UtfCuts_walk (w : World) (ao : Option Addr) (n cap : Nat) (l : List Int) (h : Row .u8 w ao n cap l) (hwf : ∀ x ∈ l, (Lit.int .u8 x).wf = true) (hsz : n * 1 ≤ 140737488351232) (m : Int) (hm : (Lit.int .i64 m).wf = true) :
    Calls Try.prog 6 #[.slice ao n cap, .int .i64 m] w fun e w' => e = .returned (.bool true) ∧ Below w.heap.size w w' := by
  have hbs := Bytes.of_wf hwf
  obtain ⟨i5, hi, hz0, hz1, hz2⟩ := info_parts Try.info5
  have HI : Hid (Try.prog.info? 5 = some i5) := hi
  have HZ0 := hide hz0
  have HZ1 := hide hz1
  have HZ2 := hide hz2
  have HR := hide h
  have HBS := hide hbs
  clear hi hz0 hz1 hz2 hwf h hbs
  have hb0 : Hid (Below w.heap.size w (w.alloc (.cells #[] 5))) := (Below.refl _ w).alloc (Nat.le_refl _) _
  go_enter Try.func6, Try.ntmps6
  go_wp2_with (first | (go_at_call 11; refine (names_any _).mono ?_; rintro e w' ⟨rfl, rfl⟩) | (at_builtin; refine wpList_append_row _ (by rfl) _ _ 22 rfl w.heap.size 5 i5 (.int .u8 0) 1 Try.underlying22 HI.out HZ0.out HZ1.out HZ2.out rfl _ 0 [] rfl (owns_empty w 5 _ rfl) .u8 ao n cap l rfl (HR.out.below hb0.out) ?c1 (by omega) ?c2 ?_))
  case c1 => omega
  case c2 => simp
  intro v1 w1 ho1 hb1
  obtain ⟨a1, c1, rfl, hr1⟩ := row_of_owns ho1
  have HR1 := hide hr1
  have HB1 := hide (hb0.out.trans hb1)
  have HRl := hide (HR.out.below HB1.out)
  clear ho1 hb1 hr1
  have hc1 := hide (cut_any _ _ _ m _ _ HR1.out HBS.out)
  have hc2 := hide (rcut_any _ _ _ m _ _ HRl.out HBS.out (by omega))
  go_wp2_with (first | (go_at_call 18; refine hc1.out.mono ?_; rintro e w' ⟨rfl, rfl⟩) | (go_at_call 19; refine hc2.out.mono ?_; rintro e w' ⟨rfl, hb2⟩))
  go_ret
  have s1 := HB1.out.size
  exact ⟨rfl, HB1.out.trans (hb2.mono (by omega))⟩
end Go.Proofs.Ytkcalmighgdojaa
