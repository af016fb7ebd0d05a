/- The document's neighbour, first, run. -/
import Derived.Test.YthohbiklnknofaaSm
import Derived.Test.YthohbiklnknofaaLl
namespace Go.Proofs.Ythohbiklnknofaa
open Go.RowKit Go.Maps
set_option linter.unusedVariables false
set_option maxHeartbeats 1000000
set_option maxRecDepth 100000
section
variable {lv : List Int} {ao : Option Addr} {n cap : Nat} {w : World}
theorem nb_up_some (h : Row .i64 w ao n cap lv) (hn : n ≤ 2000) {i y : Nat} (hiy : i < y) (hy : y < n) (hk : 0 ≤ lv.getD y 0) (hz : ∀ z, i < z → z < y → lv.getD z 0 < 0) :
    Calls Try.prog 36 #[.slice ao n cap, .int .i64 (i : Int), .int .i64 1] w fun e w' => e = .returned (.int .i64 (y : Int)) ∧ w = w' := by
  obtain ⟨b, off, rfl, hbl, hc⟩ := h.cells (by omega)
  have hl := h.len
  have HC := hide hc
  have HL := hide hl
  clear h hc hl
  go_enter Try.func36, Try.ntmps36
  go_wp2
  go_loopw [7] (fun s7 wr => ∃ z : Nat, i < z ∧ z ≤ y ∧ s7 = .int .i64 (z : Int) ∧ w = wr) (fun s7 _ => y - (intOf s7).toNat)
  case atStart => exact ⟨i + 1, by omega, by omega, by go_num, rfl⟩
  case round =>
    obtain ⟨z, hz1, hz2, rfl, rfl⟩ := hrel
    have hzn : (z : Int) < (n : Int) := by omega
    have cz := HC.out z (by rw [HL.out]; omega)
    by_cases hzy : z < y
    · have hneg := hz z hz1 hzy
      generalize lv.getD z 0 = x at *
      have hneg2 : ¬ (0 : Int) ≤ x := by omega
      clear hz
      go_wp2
      exact ⟨⟨z + 1, by omega, by omega, by go_num, trivial⟩, by simp [intOf]; omega⟩
    · obtain rfl : z = y := by omega
      generalize lv.getD z 0 = x at *
      clear hz
      go_wp2
      go_ret
      exact ⟨rfl, rfl⟩
theorem nb_up_none (h : Row .i64 w ao n cap lv) (hn : n ≤ 2000) {i : Nat} (hi : i < n) (hz : ∀ z, i < z → z < n → lv.getD z 0 < 0) :
    Calls Try.prog 36 #[.slice ao n cap, .int .i64 (i : Int), .int .i64 1] w fun e w' => e = .returned (.int .i64 (-1)) ∧ w = w' := by
  obtain ⟨b, off, rfl, hbl, hc⟩ := h.cells (by omega)
  have hl := h.len
  have HC := hide hc
  have HL := hide hl
  clear h hc hl
  go_enter Try.func36, Try.ntmps36
  go_wp2
  go_loopw [7] (fun s7 wr => ∃ z : Nat, i < z ∧ z ≤ n ∧ s7 = .int .i64 (z : Int) ∧ w = wr) (fun s7 _ => n - (intOf s7).toNat)
  case atStart => exact ⟨i + 1, by omega, by omega, by go_num, rfl⟩
  case round =>
    obtain ⟨z, hz1, hz2, rfl, rfl⟩ := hrel
    by_cases hzy : z < n
    · have hzn : (z : Int) < (n : Int) := by omega
      have cz := HC.out z (by rw [HL.out]; omega)
      have hneg := hz z hz1 hzy
      generalize lv.getD z 0 = x at *
      have hneg2 : ¬ (0 : Int) ≤ x := by omega
      clear hz
      go_wp2
      exact ⟨⟨z + 1, by omega, by omega, by go_num, trivial⟩, by simp [intOf]; omega⟩
    · obtain rfl : z = n := by omega
      have hne : ¬ ((z : Int) < (z : Int)) := by omega
      clear hz
      go_wp2
      go_ret
      exact ⟨rfl, rfl⟩
theorem nb_dn_some (h : Row .i64 w ao n cap lv) (hn : n ≤ 2000) {i y : Nat} (hiy : y < i) (hi : i < n) (hk : 0 ≤ lv.getD y 0) (hz : ∀ z, y < z → z < i → lv.getD z 0 < 0) :
    Calls Try.prog 36 #[.slice ao n cap, .int .i64 (i : Int), .int .i64 (-1)] w fun e w' => e = .returned (.int .i64 (y : Int)) ∧ w = w' := by
  obtain ⟨b, off, rfl, hbl, hc⟩ := h.cells (by omega)
  have hl := h.len
  have HC := hide hc
  have HL := hide hl
  clear h hc hl
  obtain ⟨i', rfl⟩ : ∃ i', i = i' + 1 := ⟨i - 1, by omega⟩
  go_enter Try.func36, Try.ntmps36
  go_wp2
  go_loopw [7] (fun s7 wr => ∃ z : Nat, y ≤ z ∧ z ≤ i' ∧ s7 = .int .i64 (z : Int) ∧ w = wr) (fun s7 _ => (intOf s7).toNat)
  case atStart => exact ⟨i', by omega, by omega, by go_num, rfl⟩
  case round =>
    obtain ⟨z, hz1, hz2, rfl, rfl⟩ := hrel
    have hzn : (z : Int) < (n : Int) := by omega
    have hz0 : (0 : Int) ≤ (z : Int) := by omega
    have cz := HC.out z (by rw [HL.out]; omega)
    by_cases hzy : y < z
    · have hneg := hz z hzy (by omega)
      obtain ⟨z', rfl⟩ : ∃ z', z = z' + 1 := ⟨z - 1, by omega⟩
      generalize lv.getD (z' + 1) 0 = x at *
      have hneg2 : ¬ (0 : Int) ≤ x := by omega
      clear hz
      go_wp2
      refine ⟨⟨z', by omega, by omega, by omega⟩, ?_⟩
      show max ((z' : Int) + 1 + -1) 0 < (z' : Int) + 1
      omega
    · obtain rfl : z = y := by omega
      generalize lv.getD z 0 = x at *
      clear hz
      go_wp2
      go_ret
      exact ⟨rfl, rfl⟩
theorem nb_dn_none (h : Row .i64 w ao n cap lv) (hn : n ≤ 2000) {i : Nat} (hi : i < n) (hz : ∀ z, z < i → lv.getD z 0 < 0) :
    Calls Try.prog 36 #[.slice ao n cap, .int .i64 (i : Int), .int .i64 (-1)] w fun e w' => e = .returned (.int .i64 (-1)) ∧ w = w' := by
  obtain ⟨b, off, rfl, hbl, hc⟩ := h.cells (by omega)
  have hl := h.len
  have HC := hide hc
  have HL := hide hl
  clear h hc hl
  go_enter Try.func36, Try.ntmps36
  go_wp2
  go_loopw [7] (fun s7 wr => ∃ z : Nat, z ≤ i ∧ s7 = .int .i64 ((z : Int) - 1) ∧ w = wr) (fun s7 _ => (intOf s7 + 1).toNat)
  case atStart => exact ⟨i, Nat.le_refl _, by go_num, rfl⟩
  case round =>
    obtain ⟨z, hz2, rfl, rfl⟩ := hrel
    by_cases hzy : 0 < z
    · obtain ⟨z', rfl⟩ : ∃ z', z = z' + 1 := ⟨z - 1, by omega⟩
      have hzn : (z' : Int) < (n : Int) := by omega
      have e1 : ((z' + 1 : Nat) : Int) - 1 = (z' : Int) := by omega
      rw [e1]
      have cz := HC.out z' (by rw [HL.out]; omega)
      have hneg := hz z' (by omega)
      generalize lv.getD z' 0 = x at *
      have hneg2 : ¬ (0 : Int) ≤ x := by omega
      clear hz
      go_wp2
      exact ⟨⟨z', by omega, by go_num, trivial⟩, by simp [intOf]; omega⟩
    · obtain rfl : z = 0 := by omega
      clear hz
      go_wp2
      go_ret
      exact ⟨rfl, rfl⟩
end
end Go.Proofs.Ythohbiklnknofaa
