/- The contract of the document's Key, and the walk of the law on keys. -/
import Derived.Test.YthnhpbambkhphaaKeyc
namespace Go.Proofs.Ythnhpbambkhphaa
open Go.RowKit
set_option linter.unusedVariables false
set_option maxHeartbeats 2000000 in
theorem rkey_any (ao : Option Addr) (n cap : Nat) (l : List Int) (w : World) (h : Row .i32 w ao n cap l) (hf : ∀ x ∈ l, -2147483648 ≤ x ∧ x ≤ 2147483647) :
    Calls Try.prog 5 #[.slice ao n cap] w fun e w' => e = .returned (.int .u64 ((Sums.key l : Nat) : Int)) ∧ Below w.heap.size w w' := by
  have hx := h.max
  have hle := h.le
  unfold maxLen at hx
  have HR := hide h
  have HL := hide h.len
  have HF := hide hf
  clear h hf
  go_enter Try.func5, Try.ntmps5
  go_wp2
  go_loopw [3, 4] (fun t i wr => ∃ k : Nat, k ≤ n ∧ i = .int .i64 k ∧ t = .int .u64 ((Sums.krun Sums.kstart (l.take k) : Nat) : Int) ∧ Hid (Below w.heap.size w wr)) (fun _ i _ => n - (intOf i).toNat)
  case atStart => exact ⟨0, Nat.zero_le _, rfl, rfl, Below.refl _ _⟩
  case round =>
    obtain ⟨k, hk, rfl, rfl, hbel⟩ := hrel
    have hlt' := Sums.krun_lt Sums.kstart_lt (l.take k)
    by_cases hlt : k < n
    · obtain ⟨b, off, rfl, hbl, hc⟩ := HR.out.cells (by omega)
      have hck := (hbel.out.cell (p := ⟨b, off + k, none⟩) hbl).trans (hc k (by have := HL.out; omega))
      have hbk : -2147483648 ≤ l.getD k 0 ∧ l.getD k 0 ≤ 2147483647 := by
        have hkl : k < l.length := by have := HL.out; omega
        have e : l.getD k 0 = l[k] := by simp [List.getD, List.getElem?_eq_getElem hkl]
        rw [e]; exact HF.out _ (List.getElem_mem _)
      have HX := hide (Sums.krun_snoc Sums.kstart l k (by have := HL.out; omega))
      have hs := hbel.out.size
      clear hc
      generalize Sums.krun Sums.kstart (l.take k) = q at *
      generalize l.getD k 0 = c at *
      have k1 := kin_int q (Sums.u32 c / 16777216 % 256) (c % 4294967296 / 16777216) hlt' (by omega) (by unfold Sums.u32; omega)
      have k2 := kin_int _ (Sums.u32 c / 65536 % 256) (c % 4294967296 / 65536 % 256) (Sums.kin_lt q (Sums.u32 c / 16777216 % 256)) (by omega) (by unfold Sums.u32; omega)
      have k3 := kin_int _ (Sums.u32 c / 256 % 256) (c % 4294967296 / 256 % 256) (Sums.kin_lt (Sums.kin q (Sums.u32 c / 16777216 % 256)) (Sums.u32 c / 65536 % 256)) (by omega) (by unfold Sums.u32; omega)
      have k4 := kin_int _ (Sums.u32 c % 256) (c % 256) (Sums.kin_lt (Sums.kin (Sums.kin q (Sums.u32 c / 16777216 % 256)) (Sums.u32 c / 65536 % 256)) (Sums.u32 c / 256 % 256)) (by omega) (by unfold Sums.u32; omega)
      unfold Sums.knum at HX
      generalize Sums.kin q (Sums.u32 c / 16777216 % 256) = q1 at *
      generalize Sums.kin q1 (Sums.u32 c / 65536 % 256) = q2 at *
      generalize Sums.kin q2 (Sums.u32 c / 256 % 256) = q3 at *
      generalize Sums.kin q3 (Sums.u32 c % 256) = q4 at *
      go_wp2
      refine wp_loop_rounds 5 ?_
      rw [rounds_succ]
      go_wp2
      rw [rounds_succ]
      go_wp2
      rw [rounds_succ]
      go_wp2
      rw [rounds_succ]
      go_wp2
      rw [rounds_succ]
      go_wp2
      go_roundw
      case rel => exact ⟨k + 1, by omega, by go_num, by rw [HX.out], hbel.out.alloc hs _⟩
      case measure => simp [intOf]; omega
    · obtain rfl : k = n := by omega
      have HE : Hid (((Sums.krun Sums.kstart (l.take k) : Nat) : Int) = ((Sums.key l : Nat) : Int)) := by
        have ht : l.take k = l := List.take_of_length_le (by have := HL.out; omega)
        rw [ht]; rfl
      go_wp2
      go_ret
      exact ⟨ret_int HE.out, hbel.out⟩
set_option maxHeartbeats 400000 in
theorem SumsKeys_walk (w : World) (a0 : Option Addr) (n0 cap0 : Nat) (l : List Int) (h0 : Row .i32 w a0 n0 cap0 l) (hf0 : ∀ x ∈ l, (Lit.int .i32 x).wf = true) (hs0 : n0 * 4 ≤ 140737488351232) :
    Calls Try.prog 3 #[.slice a0 n0 cap0] w fun e w' => e = .returned (.bool true) ∧ Below w.heap.size w w' := by
  have HF := Runes.of_wf hf0
  have HK := hide (key_any a0 n0 cap0 l w h0 HF)
  have HD := hide (rkey_any a0 n0 cap0 l w h0 HF)
  clear h0 hf0 HF
  generalize ((Sums.key l : Nat) : Int) = q at *
  go_enter Try.func3, Try.ntmps3
  go_wp2_with fail
  refine HK.out.mono ?_
  rintro e w1 ⟨rfl, rfl⟩
  go_wp2_with fail
  refine HD.out.mono ?_
  rintro e w2 ⟨rfl, hb⟩
  have HB := hide hb
  clear hb
  go_wp2
  go_ret
  exact ⟨rfl, HB.out⟩
end Go.Proofs.Ythnhpbambkhphaa
