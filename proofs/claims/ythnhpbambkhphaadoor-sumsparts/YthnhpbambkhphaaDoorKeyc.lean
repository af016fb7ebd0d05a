/- The contract of Key. -/
import Derived.Test.YthnhpbambkhphaaDoorKey
namespace Go.Proofs.YthnhpbambkhphaaDoor
open Go.RowKit
set_option linter.unusedVariables false
theorem info5k : (Tryd.prog.info? 5).map (fun i => (i.zero, i.size, i.bytes)) = some (some (.int .u8 0), 1, 1) := by kernel_rfl
theorem cells5k : Tryd.prog.cellsOf 5 = 1 := by kernel_rfl
theorem plain5k : Tryd.prog.plainKey 5 = true := by kernel_rfl
theorem idx4 (v0 v1 v2 v3 : Value) (w : World) : (Instr.index 37 (.agg #[v0, v1, v2, v3]) (.int .i64 0)).run Tryd.prog w = .ok v0 w ∧ (Instr.index 37 (.agg #[v0, v1, v2, v3]) (.int .i64 1)).run Tryd.prog w = .ok v1 w ∧
    (Instr.index 37 (.agg #[v0, v1, v2, v3]) (.int .i64 2)).run Tryd.prog w = .ok v2 w ∧ (Instr.index 37 (.agg #[v0, v1, v2, v3]) (.int .i64 3)).run Tryd.prog w = .ok v3 w := by
  obtain ⟨i5, hi, _⟩ := info_parts info5k
  exact ⟨run_index_arr w .i64 _ 0 v0 Tryd.underlying37 hi cells5k plain5k (by omega) rfl, run_index_arr w .i64 _ 1 v1 Tryd.underlying37 hi cells5k plain5k (by omega) rfl,
    run_index_arr w .i64 _ 2 v2 Tryd.underlying37 hi cells5k plain5k (by omega) rfl, run_index_arr w .i64 _ 3 v3 Tryd.underlying37 hi cells5k plain5k (by omega) rfl⟩
theorem kin_int (k b : Nat) (c : Int) (hk : k < Sums.W64) (hb : b < 256) (hc : c = (b : Int)) : IntKind.u64.wrap (bits .xor .u64 (k : Int) c * 1099511628211) = ((Sums.kin k b : Nat) : Int) := by
  subst hc
  rw [u64_xor_nat _ _ hk (by omega), IntKind.wrap_u64]
  unfold Sums.kin Sums.F Sums.W64
  omega
set_option maxHeartbeats 2000000 in
theorem key_any (ao : Option Addr) (n cap : Nat) (l : List Int) (w : World) (h : Row .i32 w ao n cap l) (hf : ∀ x ∈ l, -2147483648 ≤ x ∧ x ≤ 2147483647) :
    Calls Tryd.prog 18 #[.slice ao n cap] w fun e w' => e = .returned (.int .u64 ((Sums.key l : Nat) : Int)) ∧ w = w' := by
  have hx := h.max
  have hle := h.le
  unfold maxLen at hx
  have HR := hide h
  have HL := hide h.len
  have HF := hide hf
  clear h hf
  go_enter Tryd.func18, Tryd.ntmps18
  go_wp2
  go_loop [3, 11] (fun t i => ∃ k : Nat, k ≤ n ∧ i = .int .i64 k ∧ t = .int .u64 ((Sums.krun Sums.kstart (l.take k) : Nat) : Int)) (fun _ i => n - (intOf i).toNat)
  case atStart => exact ⟨0, Nat.zero_le _, rfl, rfl⟩
  case round =>
    obtain ⟨k, hk, rfl, rfl⟩ := hrel
    have hlt' := Sums.krun_lt Sums.kstart_lt (l.take k)
    by_cases hlt : k < n
    · obtain ⟨b, off, rfl, _, hc⟩ := HR.out.cells (by omega)
      have hck := hc k (by have := HL.out; omega)
      have hbk : -2147483648 ≤ l.getD k 0 ∧ l.getD k 0 ≤ 2147483647 := by
        have hkl : k < l.length := by have := HL.out; omega
        have e : l.getD k 0 = l[k] := by simp [List.getD, List.getElem?_eq_getElem hkl]
        rw [e]; exact HF.out _ (List.getElem_mem _)
      have HX := hide (Sums.krun_snoc Sums.kstart l k (by have := HL.out; omega))
      clear hc
      generalize Sums.krun Sums.kstart (l.take k) = q at *
      generalize l.getD k 0 = c at *
      have ix0 := fun v0 v1 v2 v3 w' => (idx4 v0 v1 v2 v3 w').1
      have ix1 := fun v0 v1 v2 v3 w' => (idx4 v0 v1 v2 v3 w').2.1
      have ix2 := fun v0 v1 v2 v3 w' => (idx4 v0 v1 v2 v3 w').2.2.1
      have ix3 := fun v0 v1 v2 v3 w' => (idx4 v0 v1 v2 v3 w').2.2.2
      have k1 := kin_int q (Sums.u32 c / 16777216 % 256) (c % 4294967296 / 16777216) hlt' (by omega) (by unfold Sums.u32; omega)
      have k2 := kin_int _ (Sums.u32 c / 65536 % 256) (c % 4294967296 / 65536 % 256) (Sums.kin_lt q (Sums.u32 c / 16777216 % 256)) (by omega) (by unfold Sums.u32; omega)
      have k3 := kin_int _ (Sums.u32 c / 256 % 256) (c % 4294967296 / 256 % 256) (Sums.kin_lt (Sums.kin q (Sums.u32 c / 16777216 % 256)) (Sums.u32 c / 65536 % 256)) (by omega) (by unfold Sums.u32; omega)
      have k4 := kin_int _ (Sums.u32 c % 256) (c % 256) (Sums.kin_lt (Sums.kin (Sums.kin q (Sums.u32 c / 16777216 % 256)) (Sums.u32 c / 65536 % 256)) (Sums.u32 c / 256 % 256)) (by omega) (by unfold Sums.u32; omega)
      unfold Sums.knum at HX
      generalize Sums.kin q (Sums.u32 c / 16777216 % 256) = q1 at *
      generalize Sums.kin q1 (Sums.u32 c / 65536 % 256) = q2 at *
      generalize Sums.kin q2 (Sums.u32 c / 256 % 256) = q3 at *
      generalize Sums.kin q3 (Sums.u32 c % 256) = q4 at *
      go_wp2
      refine wp_loop_rounds 5 ?_
      rw [rounds_succ]
      go_wp2
      rw [rounds_succ]
      go_wp2
      rw [rounds_succ]
      go_wp2
      rw [rounds_succ]
      go_wp2
      rw [rounds_succ]
      go_wp2
      go_round
      case rel => exact ⟨k + 1, by omega, by go_num, by rw [HX.out]⟩
      case measure => simp [intOf]; omega
    · obtain rfl : k = n := by omega
      have HE : Hid (((Sums.krun Sums.kstart (l.take k) : Nat) : Int) = ((Sums.key l : Nat) : Int)) := by
        have ht : l.take k = l := List.take_of_length_le (by have := HL.out; omega)
        rw [ht]; rfl
      go_wp2
      go_ret
      exact ⟨ret_int HE.out, rfl⟩
end Go.Proofs.YthnhpbambkhphaaDoor
