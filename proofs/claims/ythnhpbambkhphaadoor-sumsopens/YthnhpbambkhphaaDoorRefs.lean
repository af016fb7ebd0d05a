/- The contracts of the document's Crc, Seal and Open. -/
import Derived.Test.YthnhpbambkhphaaDoorOpen
import Derived.Test.YthnhpbambkhphaaDoorStr
namespace Go.Proofs.YthnhpbambkhphaaDoor
open Go.RowKit
set_option linter.unusedVariables false
theorem bit_int (s : Nat) (h : s < 4294967296) : bits .xor .u32 ((s : Int) / 2) 3988292384 = ((s / 2 ^^^ Sums.P : Nat) : Int) := by
  rw [show (s : Int) / 2 = ((s / 2 : Nat) : Int) from by omega, show (3988292384 : Int) = ((Sums.P : Nat) : Int) from rfl, u32_xor_nat _ _ (by omega) (by decide)]
theorem bit_odd {s : Nat} (h : s % 2 = 1) : Sums.bit s = s / 2 ^^^ Sums.P := by unfold Sums.bit; rw [if_pos h]
theorem bit_evn {s : Nat} (h : s % 2 = 0) : Sums.bit s = s / 2 := by unfold Sums.bit; rw [if_neg (by omega)]
theorem steps_snoc (k s : Nat) : Sums.steps (k + 1) s = Sums.bit (Sums.steps k s) := by rw [Sums.steps_add]; rfl
set_option maxHeartbeats 2000000 in
theorem rcrc_any (ao : Option Addr) (n cap : Nat) (xs : List Int) (w : World) (h : Row .u8 w ao n cap xs) (hb : Bytes xs) :
    Calls Tryd.prog 10 #[.slice ao n cap] w fun e w' => e = .returned (.int .u32 ((Sums.crc xs : Nat) : Int)) ∧ w = w' := by
  have hx := h.max
  have hle := h.le
  unfold maxLen at hx
  have HR := hide h
  have HL := hide h.len
  have HB := hide hb
  clear h hb
  go_enter Tryd.func10, Tryd.ntmps10
  go_wp2
  go_loop [3, 4] (fun t i => ∃ k : Nat, k ≤ n ∧ i = .int .i64 k ∧ t = .int .u32 ((Sums.run Sums.M (xs.take k) : Nat) : Int)) (fun _ i => n - (intOf i).toNat)
  case atStart => exact ⟨0, Nat.zero_le _, rfl, rfl⟩
  case round =>
    obtain ⟨k, hk, rfl, rfl⟩ := hrel
    have hlt' := run_lt' HB.out Sums.M_lt k
    by_cases hlt : k < n
    · obtain ⟨b, off, rfl, _, hc⟩ := HR.out.cells (by omega)
      have hck := hc k (by have := HL.out; omega)
      have hbk := HB.out.getD k
      have hin := in_int _ _ hlt' hbk
      have HX := hide (Sums.run_snoc Sums.M xs k (by have := HL.out; omega))
      clear hc
      generalize Sums.run Sums.M (xs.take k) = q at *
      generalize xs.getD k 0 = c at *
      have hq : q ^^^ c.toNat < 4294967296 := Nat.xor_lt_two_pow (n := 32) hlt' (by omega)
      unfold Sums.take1 at HX
      generalize q ^^^ c.toNat = q2 at *
      go_wp2
      go_loop [3, 5] (fun t j => ∃ m : Nat, m ≤ 8 ∧ j = .int .i64 m ∧ t = .int .u32 ((Sums.steps m q2 : Nat) : Int)) (fun _ j => 8 - (intOf j).toNat)
      case atStart => exact ⟨0, Nat.zero_le _, rfl, rfl⟩
      case round =>
        obtain ⟨m, hm, rfl, rfl⟩ := hrel
        have hst := Sums.steps_lt m hq
        by_cases hm8 : m < 8
        · have HS := hide (steps_snoc m q2)
          generalize Sums.steps m q2 = s at *
          have hbi := bit_int s hst
          by_cases hod : s % 2 = 1
          · have HO := hide (bit_odd hod)
            have hz : (s : Int) % 2 = 1 := by omega
            generalize s / 2 ^^^ Sums.P = s2 at *
            clear hod
            go_wp2
            go_round
            case rel => exact ⟨m + 1, by omega, by go_num, by rw [HS.out, HO.out]⟩
            case measure => simp [intOf]; omega
          · have HO := hide (bit_evn (show s % 2 = 0 by omega))
            have hz : (s : Int) % 2 = 0 := by omega
            clear hod hbi
            go_wp2
            go_round
            case rel => exact ⟨m + 1, by omega, by go_num, by rw [HS.out, HO.out]; go_num⟩
            case measure => simp [intOf]; omega
        · obtain rfl : m = 8 := by omega
          go_wp2
          go_round
          case rel => exact ⟨k + 1, by omega, by go_num, by rw [HX.out]⟩
          case measure => simp [intOf]; omega
    · obtain rfl : k = n := by omega
      have HE : Hid ((4294967295 : Int) - ((Sums.run Sums.M (xs.take k) : Nat) : Int) = ((Sums.crc xs : Nat) : Int)) := by
        have ht : xs.take k = xs := List.take_of_length_le (by have := HL.out; omega)
        have e := Sums.not_eq hlt'
        rw [ht] at e hlt' ⊢
        unfold Sums.crc
        rw [e]
        show _ = _
        omega
      go_wp2
      go_ret
      exact ⟨ret_int HE.out, rfl⟩
theorem four_get (v q : Nat) (h : q < 4) : (Sums.four v).getD q 0 = ((v / 256 ^ q % 256 : Nat) : Int) := by
  have : q = 0 ∨ q = 1 ∨ q = 2 ∨ q = 3 := by omega
  rcases this with rfl | rfl | rfl | rfl
  · simp [Sums.four]
  · rfl
  · rfl
  · rfl
theorem div_step (v q : Nat) : v / 256 ^ q / 256 = v / 256 ^ (q + 1) := by rw [Nat.div_div_eq_div_mul, Nat.pow_succ]
theorem grow_close {base n q : Nat} {v' : Value} {xs zs : List Int} {x : Int} {L : List Value} {w2 : World} (hq : q < zs.length) (hx : x = zs.getD q 0)
    (h1 : w2.ownsRow base 5 1 v' (n + q + 1) L) (hL : L = List.map (Value.int .u8) (xs ++ zs.take q) ++ List.map (Value.int .u8) [x]) : w2.ownsRow base 5 1 v' (n + (q + 1)) ((xs ++ zs.take (q + 1)).map (Value.int .u8)) := by
  rw [take_snoc zs q hq, ← List.append_assoc, List.map_append, ← hx, ← hL]
  exact h1
set_option maxHeartbeats 2000000 in
theorem rseal_any (ao : Option Addr) (n cap : Nat) (xs : List Int) (w : World) (h : Row .u8 w ao n cap xs) (hb : Bytes xs) (hsz : n ≤ 140737488351240) :
    Calls Tryd.prog 14 #[.slice ao n cap] w fun e w' => ∃ v, e = .returned v ∧ w'.ownsRow w.heap.size 5 1 v (n + 4) ((Sums.sealed xs).map (Value.int .u8)) ∧ Below w.heap.size w w' := by
  obtain ⟨i5, hi, hz0, hz1, hz2⟩ := info_parts info5
  have HI : Hid (Tryd.prog.info? 5 = some i5) := hi
  have HZ0 := hide hz0
  have HZ1 := hide hz1
  have HZ2 := hide hz2
  have HC := hide (rcrc_any ao n cap xs w h hb)
  have HR := hide (h.below ((Below.refl w.heap.size w).alloc (Nat.le_refl _) (.cells #[] 5)))
  have hv := Sums.crc_lt hb
  have HS : Hid (Sums.sealed xs = xs ++ Sums.four (Sums.crc xs)) := rfl
  clear hi hz0 hz1 hz2 h hb
  generalize Sums.crc xs = v at *
  go_enter Tryd.func14, Tryd.ntmps14
  go_wp2_with fail
  refine HC.out.mono ?_
  rintro e w1 ⟨rfl, rfl⟩
  go_wp2_with (at_builtin; refine wpList_append_row _ (by rfl) (.tmp 8) (.tmp 9) 22 rfl w.heap.size 5 i5 (.int .u8 0) 1 Tryd.underlying22 HI.out HZ0.out HZ1.out HZ2.out rfl _ 0 [] rfl (owns_empty w 5 _ rfl) .u8 ao n cap xs rfl HR.out ?c1 (by omega) ?c2 ?_)
  case c1 => omega
  case c2 => simp
  intro v2 w2 ho2 hb2
  have HO2 : Hid (w2.ownsRow w.heap.size 5 1 v2 (n + 0) ((xs ++ (Sums.four v).take 0).map (Value.int .u8))) := by simpa [Hid] using ho2
  have HB2 := hide (((Below.refl w.heap.size w).alloc (Nat.le_refl _) (.cells #[] 5)).trans hb2)
  clear ho2 hb2 HR
  go_wp2
  go_loopw [3, 4, 5] (fun s o i wr => ∃ q : Nat, q ≤ 4 ∧ i = .int .i64 q ∧ s = .int .u32 ((v / 256 ^ q : Nat) : Int) ∧ Hid (wr.ownsRow w.heap.size 5 1 o (n + q) ((xs ++ (Sums.four v).take q).map (Value.int .u8))) ∧ Hid (Below w.heap.size w wr)) (fun _ _ i _ => 4 - (intOf i).toNat)
  case atStart => exact ⟨0, by omega, rfl, by simp, HO2, HB2⟩
  case round =>
    obtain ⟨q, hq, rfl, rfl, hown, hbel⟩ := hrel
    by_cases hq4 : q < 4
    · have hdl : v / 256 ^ q ≤ v := Nat.div_le_self _ _
      have HG := hide (four_get v q hq4)
      have HD := hide (div_step v q)
      have hsz2 := hbel.out.size
      generalize v / 256 ^ q = s at *
      have HL := hide (row_lit .u8 wr [((s % 256 : Nat) : Int)] 5 (by unfold maxLen; simp))
      go_wp2_with (at_builtin; refine wpList_append_row _ (by rfl) (.tmp 15) (.tmp 19) 22 rfl w.heap.size 5 i5 (.int .u8 0) 1 Tryd.underlying22 HI.out HZ0.out HZ1.out HZ2.out rfl _ (n + q) _ rfl (hown.out.alloc _) .u8 _ 1 1 [((s % 256 : Nat) : Int)] rfl HL.out ?d1 (by omega) ?d2 ?_)
      case d1 => omega
      case d2 => simp; omega
      intro v3 w3 ho3 hb3
      have HO3 := hide (grow_close (n := n) (xs := xs) (zs := Sums.four v) (q := q) (by rw [Sums.four_len]; exact hq4) HG.out.symm ho3 (by simp))
      have HB3 := hide ((hbel.out.alloc hsz2 _).trans hb3)
      clear ho3 hb3 hown hbel
      go_wp2
      go_roundw
      case rel => exact ⟨q + 1, by omega, by go_num, by rw [← HD.out]; go_num, HO3, HB3⟩
      case measure => simp [intOf]; omega
    · obtain rfl : q = 4 := by omega
      have e4 : (Sums.four v).take 4 = Sums.four v := List.take_of_length_le (by rw [Sums.four_len]; omega)
      rw [e4, ← HS.out] at hown
      clear e4
      go_wp2
      go_ret
      exact ⟨_, rfl, hown.out, hbel.out⟩
end Go.Proofs.YthnhpbambkhphaaDoor
