/- The contracts of Encode. -/
import Derived.Test.YtkcalmighgdojabApp
namespace Go.Proofs.Ytkcalmighgdojab
open Go.RowKit
set_option linter.unusedVariables false
set_option maxHeartbeats 1000000 in
theorem encode_bad (ao : Option Addr) (n cap : Nat) (l : List Int) (w : World) (h : Row .i32 w ao n cap l) (hsz : n * 4 ≤ 140737488351232) (j : Nat) (hj : j < n) (hb : Utf.size (l.getD j 0) = 0) (hf : ∀ i, i < j → Utf.size (l.getD i 0) ≠ 0) :
    Calls Try.prog 6 #[.slice ao n cap] w fun e w' => e = .returned (.tuple #[.slice none 0 0, .int .i64 j, .int .i64 11]) ∧ w = w' := by
  obtain ⟨b, off, rfl, _, hc⟩ := h.cells (by omega)
  have hl := h.len
  have HC := hide hc
  have HF := hide hf
  have HB := hide hb
  have HL := hide hl
  clear hc hf hb h hl
  go_enter Try.func6, Try.ntmps6
  go_wp2
  go_loop [5, 14] (fun t i => ∃ (k : Nat) (s : Int), k ≤ j ∧ i = .int .i64 k ∧ t = .int .i64 s ∧ 0 ≤ s ∧ s ≤ 4 * k) (fun _ i => n - (intOf i).toNat)
  case atStart => exact ⟨0, 0, Nat.zero_le _, rfl, rfl, by omega, by omega⟩
  case round =>
    obtain ⟨k, s, hk, rfl, rfl, hs0, hs1⟩ := hrel
    have hck := HC.out k (by have := HL.out; omega)
    by_cases hlt : k < j
    · have hq := HF.out k hlt
      have hbd := Utf.size_bounds (l.getD k 0)
      generalize l.getD k 0 = x at *
      have hq' : (Utf.size x == 0) = false := by simp [hq]
      go_wp2_with (go_at_call 10; refine (size_any _ _).mono ?_; rintro e w' ⟨rfl, rfl⟩)
      go_round
      case rel => exact ⟨k + 1, _, by omega, by go_num, rfl, by omega, by omega⟩
      case measure => simp [intOf]; omega
    · obtain rfl : k = j := by omega
      have hq := HB.out
      generalize l.getD k 0 = x at *
      have hq' : (Utf.size x == 0) = true := by simp [hq]
      clear hq HB HF
      go_wp2_with (go_at_call 10; refine (size_any _ _).mono ?_; rintro e w' ⟨rfl, rfl⟩)
      go_ret3
      exact ⟨rfl, rfl⟩
set_option maxHeartbeats 2000000 in
theorem encode_ok (ao : Option Addr) (n cap : Nat) (l : List Int) (w : World) (h : Row .i32 w ao n cap l) (hsz : n * 4 ≤ 140737488351232) (hok : ∀ x ∈ l, Utf.size x ≠ 0) :
    Calls Try.prog 6 #[.slice ao n cap] w fun e w' => ∃ v, e = .returned (.tuple #[v, .int .i64 0, .int .i64 0]) ∧ w'.ownsRow w.heap.size 5 1 v (Utf.enc l).length ((Utf.enc l).map (Value.int .u8)) ∧ Below w.heap.size w w' := by
  have hl := h.len
  have HR := hide h
  have HL := hide hl
  have HO := hide hok
  clear h hl hok
  obtain ⟨i5, hi, hz0, hz1, hz2⟩ := info_parts Try.info5
  have HI : Hid (Try.prog.info? 5 = some i5) := hi
  have HZ0 := hide hz0
  have HZ1 := hide hz1
  have HZ2 := hide hz2
  clear hi hz0 hz1 hz2
  go_enter Try.func6, Try.ntmps6
  go_wp2
  go_loop [5, 14] (fun t i => ∃ (k : Nat) (s : Int), k ≤ n ∧ i = .int .i64 k ∧ t = .int .i64 s ∧ 0 ≤ s ∧ s ≤ 4 * k) (fun _ i => n - (intOf i).toNat)
  case atStart => exact ⟨0, 0, Nat.zero_le _, rfl, rfl, by omega, by omega⟩
  case round =>
    obtain ⟨k, s, hk, rfl, rfl, hs0, hs1⟩ := hrel
    by_cases hlt : k < n
    · obtain ⟨b, off, rfl, _, hc⟩ := HR.out.cells (by omega)
      have hck := hc k (by have := HL.out; omega)
      have hq := Utf.scalar_at HO.out (k := k) (by have := HL.out; omega)
      have hbd := Utf.size_bounds (l.getD k 0)
      clear hc
      generalize l.getD k 0 = x at *
      have hq' : (Utf.size x == 0) = false := by simp [hq]
      go_wp2_with (go_at_call 10; refine (size_any _ _).mono ?_; rintro e w' ⟨rfl, rfl⟩)
      go_round
      case rel => exact ⟨k + 1, _, by omega, by go_num, rfl, by omega, by omega⟩
      case measure => simp [intOf]; omega
    · obtain rfl : k = n := by omega
      obtain ⟨m, rfl⟩ := Int.eq_ofNat_of_zero_le hs0
      go_wp2_with (first | (at_make; refine wpList_make_own _ rfl _ _ 24 rfl w.heap.size 5 i5 (.int .u8 0) 1 Try.underlying24 HI.out HZ0.out HZ1.out _ _ _ m rfl rfl rfl ?b2 ?b3 ?b4 ?_))
      case b2 => rw [HZ2.out]; omega
      case b3 => unfold maxLen; omega
      intro w1 hown hgrow
      have hbel := hide ((Below.refl w.heap.size w).grown hgrow (Nat.le_refl _) (fun _ h => by cases h))
      have HW := hide hown
      clear hown hgrow
      go_wp2
      go_loopw [9, 32] (fun v i wr => ∃ q : Nat, q ≤ k ∧ i = .int .i64 q ∧ Hid (wr.ownsRow w.heap.size 5 1 v (Utf.enc (l.take q)).length ((Utf.enc (l.take q)).map (Value.int .u8))) ∧ Hid (Below w.heap.size w wr)) (fun _ i _ => k - (intOf i).toNat)
      case atStart => exact ⟨0, Nat.zero_le _, rfl, HW, hbel⟩
      case round =>
        obtain ⟨q, hq, rfl, hown, hbw⟩ := hrel
        by_cases hlt2 : q < k
        · obtain ⟨b, off, rfl, hbl, hc⟩ := HR.out.cells (by omega)
          have hck := (hbw.out.cell (by exact hbl)).trans (hc q (by have := HL.out; omega))
          have hsc := Utf.scalar_at HO.out (k := q) (by have := HL.out; omega)
          have hel := Utf.enc_le (l.take q)
          have hle : (l.take q).length ≤ q := List.length_take_le _ _
          have HA := hide (append_any w.heap.size _ _ _ (l.getD q 0) wr hown.out hbw.out.size (by omega) hsc)
          have HS := hide (Utf.enc_snoc l q (by have := HL.out; omega))
          clear hc hsc hel hle hown
          generalize l.getD q 0 = x at *
          go_wp2_with (go_at_call 11; refine HA.out.mono ?_; rintro e w2 ⟨v2, rfl, ho2, hb2⟩)
          have HB2 := hide (hbw.out.trans hb2)
          have HO2 := hide ho2
          clear ho2 hb2
          go_wp2
          go_roundw
          case rel => exact ⟨q + 1, by omega, by go_num, by rw [HS.out, List.length_append]; exact HO2, HB2⟩
          case measure => simp [intOf]; omega
        · obtain rfl : q = k := by omega
          have ht : l.take q = l := List.take_of_length_le (by have := HL.out; omega)
          rw [ht] at hown
          go_wp2
          go_ret3
          exact ⟨_, rfl, hown.out, hbw.out⟩
end Go.Proofs.Ytkcalmighgdojab
