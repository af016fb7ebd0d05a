/- turn, starts, Starts: what a class is; like lists of ints. -/
import Derived.Test.YthohbiklnknofaaIso
import Derived.Test.YthohbiklnknofaaRows
import Derived.Test.YthohbiklnknofaaKeep
import Derived.WalkKit
import Derived.WalkSpells
import Derived.WalkLawsBesides
import Derived.OwnWalk
import Derived.Deep.QuietTactic
import Derived.BigQuiet
namespace Go.Proofs.Ythohbiklnknofaa
open Go.RowKit
set_option linter.unusedVariables false
set_option maxHeartbeats 1000000
set_option maxRecDepth 100000
theorem st_cases (x : Int) : (Iso.st x = true ∧ (x = 20 ∨ (¬ x = 20 ∧ x = 21) ∨ (¬ x = 20 ∧ ¬ x = 21 ∧ x = 22))) ∨ (Iso.st x = false ∧ ¬ x = 20 ∧ ¬ x = 21 ∧ ¬ x = 22) := by
  unfold Iso.st
  by_cases h1 : x = 20
  · left; simp [h1]
  · by_cases h2 : x = 21
    · left; simp [h2]
    · by_cases h3 : x = 22
      · left; simp [h3]
      · right; simp [h1, h2, h3]
theorem turn_any (x : Int) (w : World) : Calls Try.prog 35 #[.int .i64 x] w fun e w' => e = .returned (.int .i64 (Iso.turn x)) ∧ w = w' := by
  rcases st_cases x with ⟨hs, h | ⟨h1, h⟩ | ⟨h1, h2, h⟩⟩ | ⟨hs, h1, h2, h3⟩
  · have ht : Iso.turn x = 1 := by unfold Iso.turn; rw [if_pos hs]
    rw [ht]
    clear hs ht
    go_enter Try.func35, Try.ntmps35
    go_wp2
    go_ret
    exact ⟨rfl, rfl⟩
  · have ht : Iso.turn x = 1 := by unfold Iso.turn; rw [if_pos hs]
    rw [ht]
    clear hs ht
    go_enter Try.func35, Try.ntmps35
    go_wp2
    go_ret
    exact ⟨rfl, rfl⟩
  · have ht : Iso.turn x = 1 := by unfold Iso.turn; rw [if_pos hs]
    rw [ht]
    clear hs ht
    go_enter Try.func35, Try.ntmps35
    go_wp2
    go_ret
    exact ⟨rfl, rfl⟩
  · by_cases h4 : x = 23
    · have ht : Iso.turn x = -1 := by unfold Iso.turn; rw [if_neg (by simp [hs]), if_pos h4]
      rw [ht]
      clear hs ht
      go_enter Try.func35, Try.ntmps35
      go_wp2
      go_ret
      exact ⟨rfl, rfl⟩
    · have ht : Iso.turn x = 0 := by unfold Iso.turn; rw [if_neg (by simp [hs]), if_neg h4]
      rw [ht]
      clear hs ht
      go_enter Try.func35, Try.ntmps35
      go_wp2
      go_ret
      exact ⟨rfl, rfl⟩
theorem Starts_any (x : Int) (w : World) : Calls Try.prog 47 #[.int .i64 x] w fun e w' => e = .returned (.bool (Iso.st x)) ∧ w = w' := by
  rcases st_cases x with ⟨hs, h | ⟨h1, h⟩ | ⟨h1, h2, h⟩⟩ | ⟨hs, h1, h2, h3⟩
  all_goals
    rw [hs]
    clear hs
    go_enter Try.func47, Try.ntmps47
    go_wp2
    go_ret
    first
      | exact ⟨rfl, rfl⟩
      | exact ⟨ret_bool (by simp [*]), rfl⟩
theorem ints_yes (a0 a1 : Option Addr) (n c0 c1 : Nat) (l : List Int) (w : World) (h0 : Row .i64 w a0 n c0 l) (h1 : Row .i64 w a1 n c1 l) :
    Calls Try.prog 13 #[.slice a0 n c0, .slice a1 n c1] w fun e w' => e = .returned (.bool true) ∧ ∃ k, w' = w.drewN k := by
  have hx := h0.le
  have hm := h0.max
  unfold maxLen at hm
  have hl := h0.len
  have H0 := hide h0
  have H1 := hide h1
  have HL := hide hl
  clear h0 h1 hl
  go_enter Try.func13, Try.ntmps13
  go_wp2
  go_loopw [5] (fun i wr => ∃ k nq : Nat, k ≤ n ∧ i = .int .i64 k ∧ wr = w.drewN nq) (fun i _ => n - (intOf i).toNat)
  case atStart => exact ⟨0, 0, Nat.zero_le _, rfl, rfl⟩
  case round =>
    obtain ⟨k, nq, hk, rfl, rfl⟩ := hrel
    by_cases hlt : k < n
    · obtain ⟨b0, o0, rfl, _, hc0⟩ := H0.out.cells (by omega)
      obtain ⟨b1, o1, rfl, _, hc1⟩ := H1.out.cells (by omega)
      have g0 := hc0 k (by have := HL.out; omega)
      have g1 := hc1 k (by have := HL.out; omega)
      clear hc0 hc1
      generalize l.getD k 0 = x at *
      have hlt' : (k : Int) < (n : Int) := by omega
      go_wp2
      go_quiet (fail)
      go_wp2
      go_roundw
      case rel => exact ⟨k + 1, _, by omega, by go_num, by first | rfl | exact World.drewN_drewN _ _ _⟩
      case measure => simp [intOf]; omega
    · go_wp2
      go_ret
      exact ⟨rfl, _, rfl⟩
theorem below_drewN (w : World) (k : Nat) : Below w.heap.size w (w.drewN k) := by have h := Below.refl w.heap.size w; exact ⟨h.os, h.tape, h.output, h.size, h.block⟩
theorem below_of_drewN {w w' : World} (h : ∃ k, w' = w.drewN k) : Below w.heap.size w w' := by obtain ⟨k, rfl⟩ := h; exact below_drewN w k
end Go.Proofs.Ythohbiklnknofaa
