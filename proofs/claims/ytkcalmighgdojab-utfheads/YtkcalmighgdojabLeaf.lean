/- Contracts of the leaves: Size (the code's and the document's), names, further, readFirst. -/
import Derived.Test.YtkcalmighgdojabRows
import Derived.Test.YtkcalmighgdojabMath
import Derived.WalkKit
import Derived.WalkSpells
import Derived.WalkLawsBesides
import Derived.Outline
namespace Go.Proofs.Ytkcalmighgdojab
open Go.RowKit
theorem hide {p : Prop} (h : p) : Hid p := h
theorem ret_int {k : IntKind} {a b : Int} (h : a = b) : Ending.returned (.int k a) = .returned (.int k b) := by rw [h]
theorem ret_ints {k l : IntKind} {a b c d : Int} (h : a = b) (h' : c = d) : Ending.returned (.tuple #[.int k a, .int l c]) = .returned (.tuple #[.int k b, .int l d]) := by rw [h, h']
set_option maxHeartbeats 400000 in
theorem size_any (v : Int) (w : World) :
    Calls Try.prog 10 #[.int .i32 v] w fun e w' => e = .returned (.int .i64 (Utf.size v)) ∧ w = w' := by
  go_enter Try.func10, Try.ntmps10
  go_wp2
  all_goals
    go_ret
    exact ⟨ret_int (Utf.size_eq _ _ (by omega)).symm, rfl⟩
theorem further_any (v : Int) (w : World) (h0 : 0 ≤ v) (h1 : v ≤ 2147483647) :
    Calls Try.prog 14 #[.int .i32 v] w fun e w' => e = .returned (.int .u8 (128 + v % 64)) ∧ w = w' := by
  go_enter Try.func14, Try.ntmps14
  go_wp2
  go_ret
  exact ⟨rfl, rfl⟩
theorem first_any (c : Int) (w : World) (h0 : 0 ≤ c) (h1 : c ≤ 255) :
    Calls Try.prog 15 #[.int .u8 c] w fun e w' => e = .returned (.tuple #[.int .i32 (Utf.first c).1, .int .i64 (Utf.first c).2]) ∧ w = w' := by
  go_enter Try.func15, Try.ntmps15
  go_wp2
  all_goals
    go_ret2
    exact ⟨ret_ints (by unfold Utf.first; repeat' split
                        all_goals omega) (by unfold Utf.first; repeat' split
                                             all_goals omega), rfl⟩
end Go.Proofs.Ytkcalmighgdojab
