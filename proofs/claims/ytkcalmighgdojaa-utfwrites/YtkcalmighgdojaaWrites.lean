/- The walk of the law on what is written. -/
import Derived.Test.YtkcalmighgdojaaCopy
import Derived.Test.YtkcalmighgdojaaSizes
namespace Go.Proofs.Ytkcalmighgdojaa
open Go.RowKit
set_option linter.unusedVariables false
set_option maxHeartbeats 2000000 in
theorem UtfWrites_walk (w : World) (ao : Option Addr) (n cap : Nat) (l : List Int) (h : Row .i32 w ao n cap l) (hwf : ∀ x ∈ l, (Lit.int .i32 x).wf = true) (hsz : n * 4 ≤ 140737488351232) :
    Calls Try.prog 4 #[.slice ao n cap] w fun e w' => e = .returned (.bool true) ∧ Below w.heap.size w w' := by
  have hru := Runes.of_wf hwf
  obtain ⟨i21, hi, hz0, hz1, hz2⟩ := info_parts Try.info21
  have HI : Hid (Try.prog.info? 21 = some i21) := hi
  have HZ0 := hide hz0
  have HZ1 := hide hz1
  have HZ2 := hide hz2
  have HR := hide h
  have HRU := hide hru
  clear hi hz0 hz1 hz2 hwf h hru
  have hb0 : Hid (Below w.heap.size w (w.alloc (.cells #[] 21))) := (Below.refl _ w).alloc (Nat.le_refl _) _
  go_enter Try.func4, Try.ntmps4
  go_wp2_with (at_builtin; refine wpList_append_row _ (by rfl) _ _ 26 rfl w.heap.size 21 i21 (.int .i32 0) 4 Try.underlying26 HI.out HZ0.out HZ1.out HZ2.out rfl _ 0 [] rfl (owns_empty w 21 _ rfl) .i32 ao n cap l rfl (HR.out.below hb0.out) ?c1 (by omega) ?c2 ?_)
  case c1 => omega
  case c2 => simp
  intro v1 w1 ho1 hb1
  obtain ⟨a1, c1, rfl, hr1⟩ := row_of_owns ho1
  have HR1 := hide hr1
  have HB1 := hide (hb0.out.trans hb1)
  have HRl := hide (HR.out.below HB1.out)
  clear ho1 hb1 hr1
  go_wp2_with fail
  rcases Utf.bad_or l with hok | ⟨j, hj, hbad, hfirst⟩
  · have hbs : Bytes (Utf.enc l) := Utf.enc_bytes hok
    have HBS := hide hbs
    refine (encode_ok _ _ _ _ _ HR1.out hsz hok).mono ?_
    rintro e w2 ⟨v2, rfl, ho2, hb2⟩
    obtain ⟨a2, c2, rfl, hr2⟩ := row_of_owns ho2
    have HR2 := hide hr2
    have HB2 := hide hb2
    have HRl2 := hide (HRl.out.below hb2)
    have HR12 := hide (HR1.out.below hb2)
    clear ho2 hb2 hr2 hbs
    go_wp2_with fail
    refine (rencode_ok _ _ _ _ _ HRl2.out hsz hok).mono ?_
    rintro e w3 ⟨v3, rfl, ho3, hb3⟩
    obtain ⟨a3, c3, rfl, hr3⟩ := row_of_owns ho3
    have hq1 := run_str _ _ _ _ _ (HR2.out.below hb3) HBS.out
    have hq2 := run_str _ _ _ _ _ hr3 HBS.out
    have HS := hide (same_yes _ _ _ _ _ _ _ (HR12.out.below hb3) (HRl2.out.below hb3))
    have HB3 := hide hb3
    clear ho3 hb3 hr3 hok
    go_wp2_with (first | (go_at_call 11; refine (names_any _).mono ?_; rintro e w' ⟨rfl, rfl⟩) | (go_at_call 14; refine HS.out.mono ?_; rintro e w' ⟨rfl, q, rfl⟩))
    go_ret
    have s1 := HB1.out.size
    have s2 := HB2.out.size
    exact ⟨rfl, below_drewN ((HB1.out.trans (HB2.out.mono (by omega))).trans (HB3.out.mono (by omega))) _⟩
  · have hjn : j < n := by have := HR.out.len; omega
    have hcv := fun W => run_str_nil W
    refine (encode_bad _ _ _ _ _ HR1.out hsz j hjn hbad hfirst).mono ?_
    rintro e w2 ⟨rfl, rfl⟩
    go_wp2_with fail
    refine (rencode_bad _ _ _ _ _ HRl.out HRU.out hsz j hjn hbad hfirst).mono ?_
    rintro e w3 ⟨rfl, hb3⟩
    have HS := hide (same_yes _ _ _ _ _ _ _ (HR1.out.below hb3) (HRl.out.below hb3))
    have HB3 := hide hb3
    clear hb3 hbad hfirst
    go_wp2_with (first | (go_at_call 11; refine (names_any _).mono ?_; rintro e w' ⟨rfl, rfl⟩) | (go_at_call 14; refine HS.out.mono ?_; rintro e w' ⟨rfl, q, rfl⟩))
    go_ret
    have s1 := HB1.out.size
    exact ⟨rfl, below_drewN (HB1.out.trans (HB3.out.mono (by omega))) _⟩
end Go.Proofs.Ytkcalmighgdojaa
