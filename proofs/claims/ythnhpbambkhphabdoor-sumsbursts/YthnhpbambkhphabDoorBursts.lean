/- The walk of the law on bits that are turned within 32 running. -/
import Derived.Test.YthnhpbambkhphabDoorWorks
namespace Go.Proofs.YthnhpbambkhphabDoor
open Go.RowKit
set_option linter.unusedVariables false
namespace Sums
/-- What the loop has turned by now. -/
def Turned (xs ys : List Int) (k v i : Nat) : Prop := ys.length = xs.length + 4 ∧ Bytes ys ∧ le ys = le (sealed xs) ^^^ (2 ^ k * (v % 2 ^ i))
theorem Turned.start {xs : List Int} (hb : Bytes xs) (k v : Nat) : Turned xs (sealed xs) k v 0 := by
  refine ⟨sealed_len xs, sealed_bytes hb, ?_⟩
  simp [Nat.mod_one]
theorem Turned.skip {xs ys : List Int} {k v i : Nat} (h : Turned xs ys k v i) (h0 : v / 2 ^ i % 2 = 0) : Turned xs ys k v (i + 1) ∧ (v % 2 ^ (i + 1)) = v % 2 ^ i := by
  have e : v % 2 ^ (i + 1) = v % 2 ^ i := by rw [Nat.mod_pow_succ, h0, Nat.mul_zero, Nat.add_zero]
  exact ⟨⟨h.1, h.2.1, by rw [e]; exact h.2.2⟩, e⟩
theorem mul_xor (k a b : Nat) : 2 ^ k * (a ^^^ b) = (2 ^ k * a) ^^^ (2 ^ k * b) := by
  have := @Nat.shiftLeft_xor_distrib k a b
  simp only [Nat.shiftLeft_eq] at this
  rw [Nat.mul_comm, this, Nat.mul_comm a, Nat.mul_comm b]
theorem Turned.flip {xs ys : List Int} {k v i : Nat} (h : Turned xs ys k v i) (h1 : v / 2 ^ i % 2 = 1) (hk : k + i < 8 * (xs.length + 4)) :
    Turned xs (ys.set ((k + i) / 8) (((ys.getD ((k + i) / 8) 0).toNat ^^^ 2 ^ ((k + i) % 8) : Nat) : Int)) k v (i + 1) ∧ v % 2 ^ (i + 1) ≠ 0 := by
  obtain ⟨a, b, c⟩ := h
  have hf := le_flip b (k + i) (by rw [a]; exact hk)
  have hp : 0 < 2 ^ i := Nat.pow_pos (by omega)
  have e : v % 2 ^ (i + 1) = 2 ^ i * 1 + v % 2 ^ i := by rw [Nat.mod_pow_succ, h1]; omega
  refine ⟨⟨by rw [List.length_set]; exact a, hf.2, ?_⟩, by omega⟩
  rw [hf.1, c, e, add_xor i 1 (v % 2 ^ i) (Nat.mod_lt _ hp), mul_xor, Nat.mul_one, ← Nat.pow_add, Nat.xor_assoc, Nat.xor_comm (2 ^ (k + i))]
theorem Turned.none {xs ys : List Int} {k v i : Nat} (hb : Bytes xs) (h : Turned xs ys k v i) (h0 : v % 2 ^ i = 0) : ys = sealed xs := by
  obtain ⟨a, b, c⟩ := h
  rw [h0, Nat.mul_zero, Nat.xor_zero] at c
  exact le_inj b (sealed_bytes hb) (by rw [a, sealed_len]) c
end Sums
theorem Turned.bad {xs ys : List Int} {k v i : Nat} (hb : Bytes xs) (h : Sums.Turned xs ys k v i) (hi : i ≤ 32) (hk : k ≤ 8 * (xs.length + 4)) (h0 : v % 2 ^ i ≠ 0) : ¬ good ys := by
  intro hg
  obtain ⟨a, b, c⟩ := h
  have hs := good_split hg
  rw [← hs] at c
  have hp : 2 ^ i ≤ 2 ^ 32 := Nat.pow_le_pow_right (by omega) hi
  have hv : v % 2 ^ i < 4294967296 := Nat.lt_of_lt_of_le (Nat.mod_lt _ (Nat.pow_pos (by omega))) hp
  exact h0 (Sums.no_burst hb (b.take _) (by rw [List.length_take, a]; omega) hv hk c)
theorem test_int (v i : Nat) (hv : v < 4294967296) : bits .and .u32 ((v : Int) / 2 ^ i) 1 = ((v / 2 ^ i % 2 : Nat) : Int) := by
  have e : ((v : Int) / 2 ^ i) = ((v / 2 ^ i : Nat) : Int) := by simp
  have hd : v / 2 ^ i ≤ v := Nat.div_le_self _ _
  rw [e, show (1 : Int) = ((1 : Nat) : Int) from rfl, u32_and_nat _ _ (by omega) (by omega), nat_mask1]
theorem flip_int (x : Int) (r : Nat) (hx : 0 ≤ x ∧ x ≤ 255) (hr : r < 8) : bits .xor .u8 x (2 ^ r % 256) = ((x.toNat ^^^ 2 ^ r : Nat) : Int) := by
  obtain ⟨c, rfl⟩ := Int.eq_ofNat_of_zero_le hx.1
  have hp : 2 ^ r ≤ 2 ^ 7 := Nat.pow_le_pow_right (by omega) (by omega)
  have e : (2 : Int) ^ r % 256 = ((2 ^ r : Nat) : Int) := by
    have hp0 : 0 < 2 ^ r := Nat.pow_pos (by omega)
    rw [show (2 : Int) ^ r = ((2 ^ r : Nat) : Int) from by simp]
    generalize 2 ^ r = z at *
    omega
  rw [e, u8_xor_nat _ _ (by omega) (by omega), Int.toNat_natCast]
set_option maxHeartbeats 4000000 in
theorem SumsBursts_walk (w : World) (ht : Tab w) (a0 : Option Addr) (n0 cap0 : Nat) (xs : List Int) (h0 : Row .u8 w a0 n0 cap0 xs) (hf0 : ∀ x ∈ xs, (Lit.int .u8 x).wf = true) (hs0 : n0 * 1 ≤ 140737488351232)
    (at0 : Int) (hat : (Lit.int .i64 at0).wf = true) (bits0 : Int) (hbt : (Lit.int .u32 bits0).wf = true) :
    Calls Tryd.prog 3 #[.slice a0 n0 cap0, .int .i64 at0, .int .u32 bits0] w fun e w' => e = .returned (.bool true) ∧ Below w.heap.size w w' := by
  have H0 := hide h0
  have L0 := hide h0.len
  have HBY := hide (Bytes.of_wf hf0)
  have HT := hide ht
  have hab := bounds_i64 hat
  have hbb := bounds_u32 hbt
  obtain ⟨v, rfl⟩ := Int.eq_ofNat_of_zero_le hbb.1
  have hv : v < 4294967296 := by omega
  have HW := hide (works_any _ HT.out)
  obtain ⟨k, hk, hkw⟩ := place_at at0 (8 * (n0 + 4)) (by omega) (by omega)
  rw [show ((8 * (n0 + 4) : Nat) : Int) = 8 * ((n0 : Int) + 4) from by omega] at hkw
  clear h0 hf0 ht hat hbt hbb
  go_enter Tryd.func3, Tryd.ntmps3
  go_wp2_with fail
  refine HW.out.mono ?_
  rintro e w1 ⟨rfl, hb1⟩
  have HB1 := hide hb1
  clear hb1
  go_wp2_with fail
  refine (seal_any _ _ _ _ _ (H0.out.below HB1.out) HBY.out (HT.out.below HB1.out) (by omega)).mono ?_
  rintro e w2 ⟨v2, rfl, ho2, hb2⟩
  obtain ⟨g, c2, rfl, hg1, hg2⟩ := ho2.form (by omega)
  have HO2 := hide ho2
  have HB2 := hide (HB1.out.trans (hb2.mono HB1.out.size))
  clear ho2 hb2
  go_wp2
  rw [hkw]
  go_loopw [9, 10] (fun t i wr => ∃ (q : Nat) (ys : List Int) (tb : Bool), q ≤ 32 ∧ k + q ≤ 8 * (n0 + 4) ∧ i = .int .i64 q ∧ t = .bool tb ∧ Hid (tb = true ↔ v % 2 ^ q ≠ 0) ∧ Hid (Sums.Turned xs ys k v q) ∧ Hid (wr.ownsRow w1.heap.size 5 1 (.slice (some ⟨g, 0, none⟩) (n0 + 4) c2) (n0 + 4) (ys.map (Value.int .u8))) ∧ Hid (Below w.heap.size w wr)) (fun _ i _ => 32 - (intOf i).toNat)
  case atStart => exact ⟨0, _, false, by omega, by omega, rfl, rfl, by simp [Hid, Nat.mod_one], Sums.Turned.start HBY.out k v, HO2, HB2⟩
  case round =>
    obtain ⟨q, ys, tb, hq, hkq, rfl, rfl, htb, htu, hown, hbel⟩ := hrel
    by_cases hgo : q < 32 ∧ k + q < 8 * (n0 + 4)
    · obtain ⟨hq1, hkq1⟩ := hgo
      have htest := test_int v q hv
      have hkl : (k : Int) + (q : Int) < 8 * ((n0 : Int) + 4) := by omega
      by_cases hbit : v / 2 ^ q % 2 = 1
      · rw [hbit] at htest
        have HX := hide (htu.out.flip hbit (by have := L0.out; omega))
        have hcb := htu.out.2.1.getD ((k + q) / 8)
        have hpl : (k + q) / 8 < n0 + 4 := by omega
        have hcell := owns_cell hown.out ((k + q) / 8) hpl
        have hfro := hown.out.frozenAt ((k + q) / 8)
        have hd8 : ((k : Int) + (q : Int)) / 8 = (((k + q) / 8 : Nat) : Int) := by omega
        have hm8 : ((k : Int) + (q : Int)) % 8 = (((k + q) % 8 : Nat) : Int) := by omega
        have hr8 : (k + q) % 8 < 8 := by omega
        have hsh := flip_int (ys.getD ((k + q) / 8) 0) ((k + q) % 8) hcb hr8
        have HO3 := hide (owns_set hown.out ((k + q) / 8) (((ys.getD ((k + q) / 8) 0).toNat ^^^ 2 ^ ((k + q) % 8) : Nat) : Int))
        have HB3 := hide (hbel.out.setCell (p := ⟨g, (k + q) / 8, none⟩) (Nat.le_trans HB1.out.size hg1) (.int .u8 (((ys.getD ((k + q) / 8) 0).toNat ^^^ 2 ^ ((k + q) % 8) : Nat) : Int)))
        clear htu hown hbel hbit
        generalize (((ys.getD ((k + q) / 8) 0).toNat ^^^ 2 ^ ((k + q) % 8) : Nat) : Int) = y at *
        generalize ys.getD ((k + q) / 8) 0 = x at *
        generalize (k + q) / 8 = m at *
        generalize (k + q) % 8 = r at *
        have hr8' : (r : Int) < 8 := by omega
        have hpl' : (m : Int) < (n0 : Int) + 4 := by omega
        go_wp2
        go_roundw
        case rel => exact ⟨q + 1, _, true, by omega, by omega, by go_num, rfl, by simp [Hid, HX.out.2], HX.out.1, HO3, HB3⟩
        case measure => simp [intOf]; omega
      · have hb0 : v / 2 ^ q % 2 = 0 := by omega
        have HX := hide (htu.out.skip hb0)
        rw [hb0] at htest
        clear hbit hb0 htu
        go_wp2
        go_roundw
        case rel => exact ⟨q + 1, ys, tb, by omega, by omega, by go_num, rfl, by rw [HX.out.2]; exact htb, HX.out.1, hown, hbel⟩
        case measure => simp [intOf]; omega
    · have htab : Hid (Tab wr) := HT.out.below hbel.out
      obtain ⟨a3, c3, e3, hr3⟩ := row_of_owns hown.out
      simp only [Value.slice.injEq, true_and] at e3
      obtain ⟨rfl, rfl⟩ := e3
      have HR3 := hide hr3
      have hbt := hide htu.out.2.1
      clear hr3
      cases tb with
      | false =>
        have hz : v % 2 ^ q = 0 := by
          have := htb.out
          simp at this
          exact this
        have e := htu.out.none HBY.out hz
        subst e
        have hgs := good_sealed xs
        have HOP := hide (open_good _ _ _ _ _ HR3.out hbt.out htab.out (by omega) (by omega) hgs.1)
        rw [show n0 + 4 - 4 = (Sums.sealed xs).length - 4 from by rw [Sums.sealed_len, L0.out], hgs.2] at HOP
        rw [show (Sums.sealed xs).length - 4 = n0 from by rw [Sums.sealed_len, L0.out]; omega] at HOP
        have HRS := hide (fun w' (h : Below wr.heap.size wr w') => run_str w' _ _ _ _ (H0.out.below (hbel.out.trans (h.mono hbel.out.size))) HBY.out)
        have hcase : (q < 32 ∧ ¬ (k : Int) + (q : Int) < 8 * ((n0 : Int) + 4)) ∨ ¬ (q : Int) < 32 := by omega
        clear hz hgs htu htb hgo
        rcases hcase with ⟨hq32, hkl⟩ | hq32
        all_goals
          go_wp2_with fail
          refine HOP.out.mono ?_
          rintro e w4 ⟨v4, rfl, ho4, hb4⟩
          obtain ⟨a4, c4, rfl, hr4⟩ := row_of_owns ho4
          have hs1 := run_str _ _ _ _ _ hr4 HBY.out
          have hs2 := HRS.out w4 hb4
          have HB4 := hide (hbel.out.trans (hb4.mono hbel.out.size))
          clear ho4 hb4 hr4
          go_wp2
          go_ret
          exact ⟨rfl, HB4.out⟩
      | true =>
        have hz : v % 2 ^ q ≠ 0 := htb.out.1 rfl
        have HOP := hide (open_bad _ _ _ _ _ HR3.out hbt.out htab.out (by omega) (Turned.bad HBY.out htu.out hq (by have := L0.out; omega) hz))
        have hcase : (q < 32 ∧ ¬ (k : Int) + (q : Int) < 8 * ((n0 : Int) + 4)) ∨ ¬ (q : Int) < 32 := by omega
        clear hz htu htb hgo
        rcases hcase with ⟨hq32, hkl⟩ | hq32
        all_goals
          go_wp2_with fail
          refine HOP.out.mono ?_
          rintro e w4 ⟨rfl, hb4⟩
          have HB4 := hide (hbel.out.trans (hb4.mono hbel.out.size))
          clear hb4
          go_wp2
          go_ret
          exact ⟨rfl, HB4.out⟩
end Go.Proofs.YthnhpbambkhphabDoor
