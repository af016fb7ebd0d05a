/- The walk of the law on sizes. -/
import Derived.Test.YtkcalmighgdojaaStr
namespace Go.Proofs.Ytkcalmighgdojaa
open Go.RowKit
set_option linter.unusedVariables false
theorem row_one (w : World) (r : Int) (b : Nat) (hb : w.heap.size = b) : Row .i32 (w.alloc (.cells #[.int .i32 r] 21)) (some ⟨b, 0, none⟩) 1 1 [r] := by
  subst hb
  exact ⟨rfl, Nat.le_refl _, by unfold maxLen; omega, fun _ => ⟨_, _, rfl, by simp, fun i hi => by
    obtain rfl : i = 0 := by simp at hi; omega
    simp⟩, fun h => by cases h⟩
theorem run_str_nil (w : World) : (convert 22 9 (.slice none 0 0)).run Try.prog w = .ok (.string (str [])) w :=
  run_str w none 0 0 [] ⟨rfl, Nat.le_refl _, Nat.zero_le _, fun h => by omega, fun _ => rfl⟩ (by intro x hx; cases hx)
set_option maxHeartbeats 1000000 in
theorem UtfSizes_walk (w : World) (r : Int) (hr : (Lit.int .i32 r).wf = true) :
    Calls Try.prog 3 #[.int .i32 r] w fun e w' => e = .returned (.bool true) ∧ Below w.heap.size w w' := by
  have hbd := bounds_i32 hr
  by_cases h0 : Utf.size r = 0
  · have HE := hide (encode_bad _ _ _ _ _ (row_one w r _ rfl) (by omega) 0 (by omega) (by simpa using h0) (by omega))
    have HD := hide (rencode_bad _ _ _ _ _ (row_one (w.alloc (.cells #[.int .i32 r] 21)) r (w.heap.size + 1) (by simp)) (by simpa using hbd) (by omega) 0 (by omega) (by simpa using h0) (by omega))
    have hcv := fun W => run_str_nil W
    go_enter Try.func3, Try.ntmps3
    go_wp2_with (first | (go_at_call 9; refine HE.out.mono ?_; rintro e w' ⟨rfl, rfl⟩) | (go_at_call 10; refine HD.out.mono ?_; rintro e w' ⟨rfl, hb⟩) | (go_at_call 11; refine (names_any _).mono ?_; rintro e w' ⟨rfl, rfl⟩) | (go_at_call 12; refine (size_any _ _).mono ?_; rintro e w' ⟨rfl, rfl⟩) | (go_at_call 13; refine (rsize_any _ _ (by omega) (by omega)).mono ?_; rintro e w' ⟨rfl, rfl⟩))
    go_ret
    exact ⟨rfl, (((Below.refl _ w).alloc (Nat.le_refl _) _).alloc (by simp) _).trans (hb.mono (by simp; omega))⟩
  · have hok : ∀ x ∈ [r], Utf.size x ≠ 0 := by simpa using h0
    have hbs : Bytes (Utf.enc [r]) := Utf.enc_bytes hok
    have HE := hide (encode_ok _ _ _ _ _ (row_one w r _ rfl) (by omega) hok)
    have HD := hide (fun w1 => rencode_ok _ _ _ _ _ (row_one w1 r _ rfl) (by omega) hok)
    have HK := hide hok
    have HB := hide hbs
    clear hok hbs
    go_enter Try.func3, Try.ntmps3
    go_wp2_with (first | (go_at_call 9; refine HE.out.mono ?_; rintro e w1 ⟨v1, rfl, ho1, hb1⟩))
    obtain ⟨a1, c1, rfl, hr1⟩ := row_of_owns ho1
    have HR1 := hide hr1
    have HB1 := hide hb1
    have hz1 := hb1.size
    clear ho1 hb1 hr1 HE
    go_wp2_with (first | (go_at_call 10; refine (HD.out _).mono ?_; rintro e w2 ⟨v2, rfl, ho2, hb2⟩))
    obtain ⟨a2, c2, rfl, hr2⟩ := row_of_owns ho2
    have hq1 := run_str _ _ _ _ _ ((HR1.out.below ((Below.refl _ w1).alloc (Nat.le_refl _) _)).below hb2) HB.out
    have hq2 := run_str _ _ _ _ _ hr2 HB.out
    have HB2 := hide hb2
    clear ho2 hb2 hr2 HD HR1
    go_wp2_with (first | (go_at_call 11; refine (names_any _).mono ?_; rintro e w' ⟨rfl, rfl⟩) | (go_at_call 12; refine (size_any _ _).mono ?_; rintro e w' ⟨rfl, rfl⟩) | (go_at_call 13; refine (rsize_any _ _ (by omega) (by omega)).mono ?_; rintro e w' ⟨rfl, rfl⟩))
    go_ret
    exact ⟨rfl, ((((Below.refl _ w).alloc (Nat.le_refl _) _).trans (HB1.out.mono (by simp))).alloc (by simp at hz1; omega) _).trans (HB2.out.mono (by simp at hz1 ⊢; omega))⟩
end Go.Proofs.Ytkcalmighgdojaa
