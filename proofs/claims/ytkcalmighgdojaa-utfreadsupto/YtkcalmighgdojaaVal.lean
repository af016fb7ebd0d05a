/- The contract of the document's value: the number that so many bytes would be. -/
import Derived.Test.YtkcalmighgdojaaDec
import Derived.Test.YtkcalmighgdojaaTrip
namespace Go.Proofs.Ytkcalmighgdojaa
open Go.RowKit
set_option linter.unusedVariables false
set_option maxHeartbeats 1000000 in
theorem value1 (b off len cap at0 : Nat) (x0 : Int) (w : World) (hm : cap ≤ maxLen) (hl : len ≤ cap) (hat : at0 + 1 ≤ len) (hbw : b < w.heap.size) (h0 : w.cell? ⟨b, off + at0, none⟩ = some (.int .u8 x0)) (l0 : 0 ≤ x0) (u0 : x0 ≤ 255) :
    Calls Try.prog 28 #[.slice (some ⟨b, off, none⟩) len cap, .int .i64 at0, .int .i64 1] w fun e w' => e = .returned (.int .i32 (x0)) ∧ Below w.heap.size w w' := by
  unfold maxLen at hm
  have q0 : (0 : Int) ≤ (at0 : Int) := by omega
  have q1 : (at0 : Int) < (len : Int) := by omega
  go_enter Try.func28, Try.ntmps28
  go_wp2
  go_quiet (fail)
  go_wp2
  refine wp_loop_rounds 1 ?_
  rw [rounds_succ]
  go_wp2
  go_ret
  exact ⟨rfl, below_drewN ((Below.refl _ w).alloc (Nat.le_refl _) _) _⟩
set_option maxHeartbeats 1000000 in
theorem value2 (b off len cap at0 : Nat) (x0 x1 : Int) (w : World) (hm : cap ≤ maxLen) (hl : len ≤ cap) (hat : at0 + 2 ≤ len) (hbw : b < w.heap.size) (h0 : w.cell? ⟨b, off + at0, none⟩ = some (.int .u8 x0)) (h1 : w.cell? ⟨b, off + (at0 + 1), none⟩ = some (.int .u8 x1)) (l0 : 0 ≤ x0) (u0 : x0 ≤ 255) (l1 : 0 ≤ x1) (u1 : x1 ≤ 255) :
    Calls Try.prog 28 #[.slice (some ⟨b, off, none⟩) len cap, .int .i64 at0, .int .i64 2] w fun e w' => e = .returned (.int .i32 ((x0 - 192) * 64 + x1 - 128)) ∧ Below w.heap.size w w' := by
  unfold maxLen at hm
  have q0 : (0 : Int) ≤ (at0 : Int) := by omega
  have q1 : (at0 : Int) < (len : Int) := by omega
  go_enter Try.func28, Try.ntmps28
  go_wp2
  go_quiet (fail)
  go_wp2
  refine wp_loop_rounds 2 ?_
  rw [rounds_succ]
  go_wp2
  rw [rounds_succ]
  go_wp2
  go_ret
  exact ⟨rfl, below_drewN ((Below.refl _ w).alloc (Nat.le_refl _) _) _⟩
set_option maxHeartbeats 1000000 in
theorem value3 (b off len cap at0 : Nat) (x0 x1 x2 : Int) (w : World) (hm : cap ≤ maxLen) (hl : len ≤ cap) (hat : at0 + 3 ≤ len) (hbw : b < w.heap.size) (h0 : w.cell? ⟨b, off + at0, none⟩ = some (.int .u8 x0)) (h1 : w.cell? ⟨b, off + (at0 + 1), none⟩ = some (.int .u8 x1)) (h2 : w.cell? ⟨b, off + (at0 + 2), none⟩ = some (.int .u8 x2)) (l0 : 0 ≤ x0) (u0 : x0 ≤ 255) (l1 : 0 ≤ x1) (u1 : x1 ≤ 255) (l2 : 0 ≤ x2) (u2 : x2 ≤ 255) :
    Calls Try.prog 28 #[.slice (some ⟨b, off, none⟩) len cap, .int .i64 at0, .int .i64 3] w fun e w' => e = .returned (.int .i32 (((x0 - 224) * 64 + x1 - 128) * 64 + x2 - 128)) ∧ Below w.heap.size w w' := by
  unfold maxLen at hm
  have q0 : (0 : Int) ≤ (at0 : Int) := by omega
  have q1 : (at0 : Int) < (len : Int) := by omega
  go_enter Try.func28, Try.ntmps28
  go_wp2
  go_quiet (fail)
  go_wp2
  refine wp_loop_rounds 3 ?_
  rw [rounds_succ]
  go_wp2
  rw [rounds_succ]
  go_wp2
  rw [rounds_succ]
  go_wp2
  go_ret
  exact ⟨rfl, below_drewN ((Below.refl _ w).alloc (Nat.le_refl _) _) _⟩
set_option maxHeartbeats 1000000 in
theorem value4 (b off len cap at0 : Nat) (x0 x1 x2 x3 : Int) (w : World) (hm : cap ≤ maxLen) (hl : len ≤ cap) (hat : at0 + 4 ≤ len) (hbw : b < w.heap.size) (h0 : w.cell? ⟨b, off + at0, none⟩ = some (.int .u8 x0)) (h1 : w.cell? ⟨b, off + (at0 + 1), none⟩ = some (.int .u8 x1)) (h2 : w.cell? ⟨b, off + (at0 + 2), none⟩ = some (.int .u8 x2)) (h3 : w.cell? ⟨b, off + (at0 + 3), none⟩ = some (.int .u8 x3)) (l0 : 0 ≤ x0) (u0 : x0 ≤ 255) (l1 : 0 ≤ x1) (u1 : x1 ≤ 255) (l2 : 0 ≤ x2) (u2 : x2 ≤ 255) (l3 : 0 ≤ x3) (u3 : x3 ≤ 255) :
    Calls Try.prog 28 #[.slice (some ⟨b, off, none⟩) len cap, .int .i64 at0, .int .i64 4] w fun e w' => e = .returned (.int .i32 ((((x0 - 240) * 64 + x1 - 128) * 64 + x2 - 128) * 64 + x3 - 128)) ∧ Below w.heap.size w w' := by
  unfold maxLen at hm
  have q0 : (0 : Int) ≤ (at0 : Int) := by omega
  have q1 : (at0 : Int) < (len : Int) := by omega
  go_enter Try.func28, Try.ntmps28
  go_wp2
  go_quiet (fail)
  go_wp2
  refine wp_loop_rounds 4 ?_
  rw [rounds_succ]
  go_wp2
  rw [rounds_succ]
  go_wp2
  rw [rounds_succ]
  go_wp2
  rw [rounds_succ]
  go_wp2
  go_ret
  exact ⟨rfl, below_drewN ((Below.refl _ w).alloc (Nat.le_refl _) _) _⟩
/-- The bytes from a place on. -/
theorem cells_at {w : World} {b off : Nat} {xs : List Int} (hc : Cells .u8 w b off xs) (hb : Bytes xs) {i : Nat} (hi : i < xs.length) : w.cell? ⟨b, off + i, none⟩ = some (.int .u8 (xs.getD i 0)) ∧ 0 ≤ xs.getD i 0 ∧ xs.getD i 0 ≤ 255 := by
  refine ⟨hc i hi, ?_⟩
  have e : xs.getD i 0 = xs[i] := by simp [List.getD, List.getElem?_eq_getElem hi]
  rw [e]; exact hb _ (List.getElem_mem _)
theorem drop_cons {xs : List Int} {i : Nat} (hi : i < xs.length) : xs.drop i = xs.getD i 0 :: xs.drop (i + 1) := by
  rw [List.drop_eq_getElem_cons hi]; simp [List.getD, List.getElem?_eq_getElem hi]
theorem value_any (b off len cap at0 k : Nat) (xs : List Int) (w : World) (hm : cap ≤ maxLen) (hl : len ≤ cap) (hlen : xs.length = len) (hat : at0 + k ≤ len) (h1 : 1 ≤ k) (h4 : k ≤ 4) (hbw : b < w.heap.size) (hc : Cells .u8 w b off xs) (hb : Bytes xs) :
    Calls Try.prog 28 #[.slice (some ⟨b, off, none⟩) len cap, .int .i64 at0, .int .i64 k] w fun e w' => e = .returned (.int .i32 (Utf.val k (xs.drop at0))) ∧ Below w.heap.size w w' := by
  subst hlen
  have c0 := cells_at hc hb (i := at0) (by omega)
  have : k = 1 ∨ k = 2 ∨ k = 3 ∨ k = 4 := by omega
  rcases this with rfl | rfl | rfl | rfl
  · rw [drop_cons (i := at0) (by omega)]
    exact value1 b off _ cap at0 _ w hm hl hat hbw c0.1 c0.2.1 c0.2.2
  · have c1 := cells_at hc hb (i := at0 + 1) (by omega)
    rw [drop_cons (i := at0) (by omega), drop_cons (i := at0 + 1) (by omega)]
    exact value2 b off _ cap at0 _ _ w hm hl hat hbw c0.1 c1.1 c0.2.1 c0.2.2 c1.2.1 c1.2.2
  · have c1 := cells_at hc hb (i := at0 + 1) (by omega)
    have c2 := cells_at hc hb (i := at0 + 2) (by omega)
    rw [drop_cons (i := at0) (by omega), drop_cons (i := at0 + 1) (by omega), drop_cons (i := at0 + 2) (by omega)]
    exact value3 b off _ cap at0 _ _ _ w hm hl hat hbw c0.1 c1.1 c2.1 c0.2.1 c0.2.2 c1.2.1 c1.2.2 c2.2.1 c2.2.2
  · have c1 := cells_at hc hb (i := at0 + 1) (by omega)
    have c2 := cells_at hc hb (i := at0 + 2) (by omega)
    have c3 := cells_at hc hb (i := at0 + 3) (by omega)
    rw [drop_cons (i := at0) (by omega), drop_cons (i := at0 + 1) (by omega), drop_cons (i := at0 + 2) (by omega), drop_cons (i := at0 + 3) (by omega)]
    exact value4 b off _ cap at0 _ _ _ _ w hm hl hat hbw c0.1 c1.1 c2.1 c3.1 c0.2.1 c0.2.2 c1.2.1 c1.2.2 c2.2.1 c2.2.2 c3.2.1 c3.2.2
end Go.Proofs.Ytkcalmighgdojaa
