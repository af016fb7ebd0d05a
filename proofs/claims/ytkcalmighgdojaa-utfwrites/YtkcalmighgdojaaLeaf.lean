/- Contracts of the leaves: Size (the code's and the document's), names, further, readFirst. -/
import Derived.Test.YtkcalmighgdojaaRows
import Derived.Test.YtkcalmighgdojaaMath
import Derived.WalkKit
import Derived.WalkSpells
import Derived.WalkLawsBesides
import Derived.Outline
namespace Go.Proofs.Ytkcalmighgdojaa
open Go.RowKit
theorem hide {p : Prop} (h : p) : Hid p := h
theorem ret_int {k : IntKind} {a b : Int} (h : a = b) : Ending.returned (.int k a) = .returned (.int k b) := by rw [h]
theorem ret_ints {k l : IntKind} {a b c d : Int} (h : a = b) (h' : c = d) : Ending.returned (.tuple #[.int k a, .int l c]) = .returned (.tuple #[.int k b, .int l d]) := by rw [h, h']
set_option maxHeartbeats 400000 in
theorem size_any (v : Int) (w : World) :
    Calls Try.prog 12 #[.int .i32 v] w fun e w' => e = .returned (.int .i64 (Utf.size v)) ∧ w = w' := by
  go_enter Try.func12, Try.ntmps12
  go_wp2
  all_goals
    go_ret
    exact ⟨ret_int (Utf.size_eq _ _ (by omega)).symm, rfl⟩
set_option maxHeartbeats 400000 in
theorem rsize_any (v : Int) (w : World) (h0 : -2147483648 ≤ v) (h1 : v ≤ 2147483647) :
    Calls Try.prog 13 #[.int .i32 v] w fun e w' => e = .returned (.int .i64 (Utf.size v)) ∧ w = w' := by
  go_enter Try.func13, Try.ntmps13
  go_wp2
  all_goals
    go_ret
    exact ⟨ret_int (Utf.size_eq _ _ (by omega)).symm, rfl⟩
theorem names_any (w : World) : Calls Try.prog 11 #[] w fun e w' => e = .returned (.bool true) ∧ w = w' := by
  go_enter Try.func11, Try.ntmps11
  go_wp2
  go_ret
  exact ⟨rfl, rfl⟩
theorem further_any (v : Int) (w : World) (h0 : 0 ≤ v) (h1 : v ≤ 2147483647) :
    Calls Try.prog 26 #[.int .i32 v] w fun e w' => e = .returned (.int .u8 (128 + v % 64)) ∧ w = w' := by
  go_enter Try.func26, Try.ntmps26
  go_wp2
  go_ret
  exact ⟨rfl, rfl⟩
theorem first_any (c : Int) (w : World) (h0 : 0 ≤ c) (h1 : c ≤ 255) :
    Calls Try.prog 27 #[.int .u8 c] w fun e w' => e = .returned (.tuple #[.int .i32 (Utf.first c).1, .int .i64 (Utf.first c).2]) ∧ w = w' := by
  go_enter Try.func27, Try.ntmps27
  go_wp2
  all_goals
    go_ret2
    exact ⟨ret_ints (by unfold Utf.first; repeat' split
                        all_goals omega) (by unfold Utf.first; repeat' split
                                             all_goals omega), rfl⟩
end Go.Proofs.Ytkcalmighgdojaa
