/- The walks of the laws on sums: SumsCrcs, SumsParts. -/
import Derived.Test.YthnhpbambkhphaaDoorWorks
import Derived.Test.YthnhpbambkhphaaDoorRefs
import Derived.Test.YthnhpbambkhphaaDoorSlices
import Derived.WalkSmall
namespace Go.Proofs.YthnhpbambkhphaaDoor
open Go.RowKit
set_option linter.unusedVariables false
set_option maxHeartbeats 1000000 in
theorem SumsCrcs_walk (w : World) (ht : Tab w) (a0 : Option Addr) (n0 cap0 : Nat) (xs : List Int) (h0 : Row .u8 w a0 n0 cap0 xs) (hf0 : ∀ x ∈ xs, (Lit.int .u8 x).wf = true) (hs0 : n0 * 1 ≤ 140737488351232) :
    Calls Tryd.prog 3 #[.slice a0 n0 cap0] w fun e w' => e = .returned (.bool true) ∧ Below w.heap.size w w' := by
  have hb := Bytes.of_wf hf0
  have HT := hide ht
  have HC := hide (crc_any _ _ _ _ _ h0 hb ht)
  have HD := hide (rcrc_any _ _ _ _ _ h0 hb)
  have HN := hide (fun w1 (t1 : Tab w1) => crc_any _ _ _ _ _ (row_mark .u8 w1 nine 5 (9, 10) (by decide)) nine_bytes (t1.below ((Below.refl _ w1).alloc (Nat.le_refl _) _)))
  rw [crc_nine] at HN
  have kc := fun (w : World) (C : Array Value) (n c : Nat) => Lib.run_convert_bytes_const (P := Tryd.prog) w 22 5 C n c Tryd.underlying22 Tryd.underlying5
  clear h0 hf0 hb ht
  generalize ((Sums.crc xs : Nat) : Int) = q at *
  go_enter Tryd.func3, Tryd.ntmps3
  go_wp2_with (first | (go_at_call 8; refine (names_any _).mono ?_; rintro e w' ⟨rfl, rfl⟩) | (go_at_call 10; refine HD.out.mono ?_; rintro e w' ⟨rfl, rfl⟩))
  refine HC.out.mono ?_
  rintro e w1 ⟨rfl, rfl⟩
  go_wp2_with (first | (go_at_call 10; refine HD.out.mono ?_; rintro e w' ⟨rfl, rfl⟩))
  refine (HN.out _ HT.out).mono ?_
  rintro e w2 ⟨rfl, rfl⟩
  clear kc
  go_wp2
  go_ret
  exact ⟨rfl, (Below.refl _ w).alloc (Nat.le_refl _) _⟩
/-- A row of bytes whose sum is s. -/
def CR (w : World) (ao : Option Addr) (n cap : Nat) (s : Int) : Prop := ∃ xs, Row .u8 w ao n cap xs ∧ Bytes xs ∧ Tab w ∧ ((Sums.crc xs : Nat) : Int) = s
theorem crc_cr {w : World} {ao : Option Addr} {n cap : Nat} {s : Int} (h : CR w ao n cap s) : Calls Tryd.prog 9 #[.slice ao n cap] w fun e w' => e = .returned (.int .u32 s) ∧ w = w' := by
  obtain ⟨xs, h1, h2, h3, rfl⟩ := h
  exact crc_any ao n cap xs w h1 h2 h3
def MR (w : World) (i : Int) (ao : Option Addr) (n cap : Nat) (s : Int) : Prop := ∃ (s0 : Nat) (xs : List Int), i = (s0 : Int) ∧ s0 < 4294967296 ∧ Row .u8 w ao n cap xs ∧ Bytes xs ∧ Tab w ∧ ((Sums.more s0 xs : Nat) : Int) = s
theorem more_mr {w : World} {i : Int} {ao : Option Addr} {n cap : Nat} {s : Int} (h : MR w i ao n cap s) : Calls Tryd.prog 16 #[.int .u32 i, .slice ao n cap] w fun e w' => e = .returned (.int .u32 s) ∧ w = w' := by
  obtain ⟨s0, xs, rfl, h0, h1, h2, h3, rfl⟩ := h
  exact more_any s0 ao n cap xs w h0 h1 h2 h3
set_option maxHeartbeats 2000000 in
theorem SumsParts_walk (w : World) (ht : Tab w) (a0 : Option Addr) (n0 cap0 : Nat) (xs : List Int) (h0 : Row .u8 w a0 n0 cap0 xs) (hf0 : ∀ x ∈ xs, (Lit.int .u8 x).wf = true) (hs0 : n0 * 1 ≤ 140737488351232)
    (at0 : Int) (hat : (Lit.int .i64 at0).wf = true) :
    Calls Tryd.prog 6 #[.slice a0 n0 cap0, .int .i64 at0] w fun e w' => e = .returned (.bool true) ∧ Below w.heap.size w w' := by
  have hb := Bytes.of_wf hf0
  have HT := hide ht
  have H0 := hide h0
  have HBY := hide hb
  have hle := h0.le
  have hab := bounds_i64 hat
  obtain ⟨k, hk, hkw⟩ := place_at at0 (n0 + 1) (by omega) (by omega)
  rw [show ((n0 + 1 : Nat) : Int) = (n0 : Int) + 1 from by omega] at hkw
  obtain ⟨i5, hi, _, _, _⟩ := info_parts info5
  have hs1 := fun w' => run_upto Tryd.underlying22 hi cells5 a0 n0 cap0 k (by omega) w'
  have hs2 := fun w' => run_from Tryd.underlying22 hi cells5 a0 n0 cap0 k (by omega) w'
  have HW := hide (works_any _ ht)
  have HE := hide (Sums.more_append (xs.take k) (xs.drop k))
  rw [List.take_append_drop] at HE
  have HE0 := hide (Sums.crc_more xs)
  have hc1 := Sums.crc_lt (hb.take k)
  clear h0 hf0 hb ht hat hi
  go_enter Tryd.func6, Tryd.ntmps6
  go_wp2_with fail
  refine HW.out.mono ?_
  rintro e w1 ⟨rfl, hb1⟩
  have HB1 := hide hb1
  have HT1 := hide (HT.out.below hb1)
  have H1 := hide (H0.out.below hb1)
  clear hb1
  have HC1 := hide (fun w' (hk : KO w1 w') => (⟨_, (H1.out.below hk).take (show k ≤ n0 by omega), HBY.out.take k, HT1.out.below hk, rfl⟩ : CR w' a0 k cap0 _))
  have HM1 := hide (fun w' (hk : KO w1 w') => (⟨_, _, rfl, hc1, (H1.out.below hk).drop (show k ≤ n0 by omega), HBY.out.drop k, HT1.out.below hk, congrArg Int.ofNat HE.out⟩ : MR w' ((Sums.crc (xs.take k) : Nat) : Int) _ _ _ ((Sums.crc xs : Nat) : Int)))
  have HC2 := hide (fun w' (hk : KO w1 w') => (⟨_, H1.out.below hk, HBY.out, HT1.out.below hk, rfl⟩ : CR w' a0 n0 cap0 _))
  have HM2 := hide (fun w' (hk : KO w1 w') => (⟨0, _, rfl, by omega, H1.out.below hk, HBY.out, HT1.out.below hk, congrArg Int.ofNat HE0.out.symm⟩ : MR w' 0 a0 n0 cap0 ((Sums.crc xs : Nat) : Int)))
  have hK : KO w1 w1 := Below.refl _ _
  clear hc1 HE HE0
  generalize ((Sums.crc (xs.take k) : Nat) : Int) = q1 at *
  generalize ((Sums.crc xs : Nat) : Int) = q2 at *
  generalize tl a0 cap0 k = a1 at *
  go_wp2
  refine wp_region_noPanic ?_
  go_region_held (fun w' => KO w1 w') (first | exact KO.drew hK | assumption)
    (first | (go_at_call 9; refine (crc_cr (by first | exact HC1.out _ (by assumption) | exact HC2.out _ (by assumption))).mono ?_; rintro e w' ⟨rfl, rfl⟩) | (go_at_call 16; refine (more_mr (by first | exact HM1.out _ (by assumption) | exact HM2.out _ (by assumption))).mono ?_; rintro e w' ⟨rfl, rfl⟩))
  all_goals
    refine NoPanic.normal ?_
    go_wp2
    go_ret
    exact ⟨rfl, HB1.out.trans (Below.mono (‹KO w1 _› : KO w1 _) HB1.out.size)⟩
end Go.Proofs.YthnhpbambkhphaaDoor
