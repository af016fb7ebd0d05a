/- The contract of works: the chapter's examples. -/
import Derived.Test.YthnhpbambkhphaaDoorOpen
import Derived.Test.YthnhpbambkhphaaDoorKeyc
import Derived.Test.YthnhpbambkhphaaDoorStr
import Derived.Lib.SlBytesConst
namespace Go.Proofs.YthnhpbambkhphaaDoor
open Go.RowKit
set_option linter.unusedVariables false
def nine : List Int := [49, 50, 51, 52, 53, 54, 55, 56, 57]
theorem crc_nine : Sums.crc nine = 3421780262 := by decide +kernel
theorem nine_bytes : Bytes nine := by unfold Bytes nine; decide
theorem sealed_nine : Sums.sealed nine = [49, 50, 51, 52, 53, 54, 55, 56, 57, 38, 57, 244, 203] := by decide +kernel
theorem str_nine : str [49, 50, 51, 52, 53, 54, 55, 56, 57, 38, 57, 244, 203] = ⟨#[49, 50, 51, 52, 53, 54, 55, 56, 57, 38, 57, 244, 203]⟩ := by rfl
theorem key_nil : Sums.key [] = 14695981039346656037 := rfl
set_option maxHeartbeats 2000000 in
theorem works_any (w : World) (ht : Tab w) : Calls Tryd.prog 15 #[] w fun e w' => e = .returned (.bool true) ∧ Below w.heap.size w w' := by
  have HT := hide ht
  have HC := hide (fun w1 (t1 : Tab w1) => crc_any _ _ _ _ _ (row_mark .u8 w1 nine 5 (9, 10) (by decide)) nine_bytes (t1.below ((Below.refl _ w1).alloc (Nat.le_refl _) _)))
  rw [crc_nine] at HC
  have HS := hide (fun w1 (t1 : Tab w1) => seal_any _ _ _ _ _ (row_mark .u8 w1 nine 5 (9, 10) (by decide)) nine_bytes (t1.below ((Below.refl _ w1).alloc (Nat.le_refl _) _)) (by decide))
  rw [sealed_nine] at HS
  have HK := hide (fun w1 => key_any none 0 0 [] w1 (row_nil .i32 w1) (by intro x hx; cases hx))
  rw [key_nil] at HK
  have hby2 : Hid (Bytes [49, 50, 51, 52, 53, 54, 55, 56, 57, 38, 57, 244, 203]) := by unfold Hid Bytes; decide
  have kc := fun (w : World) (C : Array Value) (n c : Nat) => Lib.run_convert_bytes_const (P := Tryd.prog) w 22 5 C n c Tryd.underlying22 Tryd.underlying5
  clear ht
  go_enter Tryd.func15, Tryd.ntmps15
  go_wp2_with fail
  refine (HC.out w HT.out).mono ?_
  rintro e w1 ⟨rfl, hw1⟩
  have HB1 : Hid (Below w.heap.size w w1) := by rw [← hw1]; exact (Below.refl _ w).alloc (Nat.le_refl _) _
  clear hw1
  go_wp2_with fail
  refine (HS.out _ (HT.out.below HB1.out)).mono ?_
  rintro e w2 ⟨v2, rfl, ho2, hb2⟩
  obtain ⟨a2, c2, rfl, hr2⟩ := row_of_owns ho2
  have hq := run_str _ _ _ _ _ hr2 hby2.out
  rw [str_nine] at hq
  have HB2 := hide ((HB1.out.alloc HB1.out.size (.cells (nine.map (Value.int .u8)).toArray 5 (9, 10))).trans (hb2.mono (by have := HB1.out.size; simp; omega)))
  clear ho2 hb2 hr2 HS HC
  clear kc
  go_wp2_with fail
  refine (HK.out _).mono ?_
  rintro e w3 ⟨rfl, rfl⟩
  go_wp2
  go_ret
  exact ⟨rfl, HB2.out⟩
end Go.Proofs.YthnhpbambkhphaaDoor
