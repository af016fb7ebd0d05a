/- The walk of the law on what is read. -/
import Derived.Test.YtkcalmighgdojaaCopy
namespace Go.Proofs.Ytkcalmighgdojaa
open Go.RowKit
set_option linter.unusedVariables false
set_option maxHeartbeats 2000000 in
theorem UtfReads_walk (w : World) (ao : Option Addr) (n cap : Nat) (l : List Int) (h : Row .u8 w ao n cap l) (hwf : ∀ x ∈ l, (Lit.int .u8 x).wf = true) (hsz : n ≤ 1048576) :
    Calls Try.prog 5 #[.slice ao n cap] w fun e w' => e = .returned (.bool true) ∧ Below w.heap.size w w' := by
  have hbs := Bytes.of_wf hwf
  have hdl := Utf.dec_le l.length l (Nat.le_refl _)
  rw [h.len] at hdl
  obtain ⟨i5, hi, hz0, hz1, hz2⟩ := info_parts Try.info5
  have HI : Hid (Try.prog.info? 5 = some i5) := hi
  have HZ0 := hide hz0
  have HZ1 := hide hz1
  have HZ2 := hide hz2
  have HR := hide h
  have HBS := hide hbs
  clear hi hz0 hz1 hz2 hwf h hbs
  have hb0 : Hid (Below w.heap.size w (w.alloc (.cells #[] 5))) := (Below.refl _ w).alloc (Nat.le_refl _) _
  go_enter Try.func5, Try.ntmps5
  go_wp2_with (at_builtin; refine wpList_append_row _ (by rfl) _ _ 22 rfl w.heap.size 5 i5 (.int .u8 0) 1 Try.underlying22 HI.out HZ0.out HZ1.out HZ2.out rfl _ 0 [] rfl (owns_empty w 5 _ rfl) .u8 ao n cap l rfl (HR.out.below hb0.out) ?c1 (by omega) ?c2 ?_)
  case c1 => omega
  case c2 => simp
  intro v1 w1 ho1 hb1
  obtain ⟨a1, c1, rfl, hr1⟩ := row_of_owns ho1
  have HR1 := hide hr1
  have HB1 := hide (hb0.out.trans hb1)
  have HRl := hide (HR.out.below HB1.out)
  clear ho1 hb1 hr1
  go_wp2_with fail
  have s1 := HB1.out.size
  by_cases hw : (Utf.dec l).2 = n
  · refine (decode_yes _ _ _ _ _ HR1.out HBS.out hw (by omega)).mono ?_
    rintro e w2 ⟨v2, rfl, ho2, hb2⟩
    obtain ⟨a2, c2, rfl, hr2⟩ := row_of_owns ho2
    have HR2 := hide hr2
    have HB2 := hide hb2
    have s2 := hb2.size
    clear ho2 hb2 hr2
    go_wp2_with fail
    refine (rdecode_any _ _ _ _ _ (HRl.out.below HB2.out) HBS.out (by omega)).mono ?_
    rintro e w3 ⟨hor, hb3⟩
    rcases hor with ⟨hlt, _⟩ | ⟨_, v3, rfl, ho3⟩
    · omega
    obtain ⟨a3, c3, rfl, hr3⟩ := row_of_owns ho3
    have s3 := hb3.size
    have HS := hide (same_yes _ _ _ _ _ _ _ (HR2.out.below hb3) hr3)
    have HCn := hide (count_yes _ _ _ _ _ ((HR1.out.below HB2.out).below hb3) HBS.out hw)
    have hq1 := fun k => run_str (w3.drewN k) _ _ _ _ ((HR1.out.below HB2.out).below (below_drewN hb3 k)) HBS.out
    have hq2 := fun k => run_str (w3.drewN k) _ _ _ _ ((HRl.out.below HB2.out).below (below_drewN hb3 k)) HBS.out
    have HB3 := hide hb3
    clear ho3 hb3 hr3
    go_wp2_with (first | (go_at_call 17; refine HCn.out.mono ?_; rintro e w' ⟨rfl, rfl⟩) | (go_at_call 11; refine (names_any _).mono ?_; rintro e w' ⟨rfl, rfl⟩) | (go_at_call 14; refine HS.out.mono ?_; rintro e w' ⟨rfl, q, rfl⟩))
    go_ret
    exact ⟨rfl, below_drewN ((HB1.out.trans (HB2.out.mono (by omega))).trans (HB3.out.mono (by omega))) _⟩
  · have hlt : (Utf.dec l).2 < n := by omega
    refine (decode_no _ _ _ _ _ HR1.out HBS.out hlt).mono ?_
    rintro e w2 ⟨rfl, rfl⟩
    go_wp2_with fail
    refine (rdecode_any _ _ _ _ _ HRl.out HBS.out (by omega)).mono ?_
    rintro e w3 ⟨hor, hb3⟩
    rcases hor with ⟨_, rfl⟩ | ⟨h', _⟩
    rotate_left
    · omega
    have hnil : Row .i32 w3 none 0 0 [] := ⟨rfl, Nat.le_refl _, Nat.zero_le _, fun h => by omega, fun _ => rfl⟩
    have HS := hide (same_yes _ _ _ _ _ _ _ hnil hnil)
    have HCn := hide (count_no _ _ _ _ _ (HR1.out.below hb3) HBS.out hlt)
    have hq1 := fun k => run_str (w3.drewN k) _ _ _ _ (HR1.out.below (below_drewN hb3 k)) HBS.out
    have hq2 := fun k => run_str (w3.drewN k) _ _ _ _ (HRl.out.below (below_drewN hb3 k)) HBS.out
    have HB3 := hide hb3
    clear hb3 hnil
    go_wp2_with (first | (go_at_call 17; refine HCn.out.mono ?_; rintro e w' ⟨rfl, rfl⟩) | (go_at_call 11; refine (names_any _).mono ?_; rintro e w' ⟨rfl, rfl⟩) | (go_at_call 14; refine HS.out.mono ?_; rintro e w' ⟨rfl, q, rfl⟩))
    go_ret
    exact ⟨rfl, below_drewN (HB1.out.trans (HB3.out.mono (by omega))) _⟩
end Go.Proofs.Ytkcalmighgdojaa
