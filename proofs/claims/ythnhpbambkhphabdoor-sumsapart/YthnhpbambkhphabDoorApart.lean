/- The walk of the law that lists which differ in one byte have unlike keys. -/
import Derived.Test.YthnhpbambkhphabDoorWorks
namespace Go.Proofs.YthnhpbambkhphabDoor
open Go.RowKit
set_option linter.unusedVariables false
theorem Try.info21 : (Tryd.prog.info? 21).map (fun i => (i.zero, i.size, i.bytes)) = some (some (.int .i32 0), 1, 4) := by kernel_rfl
theorem and3 (n : Int) : bits .and .i64 n 3 = n % 4 := by
  have h3 : (BitVec.ofInt 64 3).toNat = 2 ^ 2 - 1 := by decide
  have key : (BitVec.ofInt 64 n &&& BitVec.ofInt 64 3).toNat = (n % ((2 ^ 64 : Nat) : Int)).toNat % 2 ^ 2 := by
    rw [BitVec.toNat_and, BitVec.toNat_ofInt, h3, Nat.and_two_pow_sub_one_eq_mod]
  show IntKind.i64.wrap ((BitVec.ofInt 64 n &&& BitVec.ofInt 64 3).toNat : Nat) = n % 4
  rw [key, IntKind.wrap_i64]
  omega
theorem u32_wrap (z : Nat) (h : z < 4294967296) : ((((z : Int) + 2147483648) % 4294967296 - 2147483648) % 4294967296) = (z : Int) := by omega
/-- What is stored: the number with one byte turned. -/
theorem turn_int (x b p : Int) (s : Nat) (hb : 0 ≤ b ∧ b ≤ 255) (hp : p = b * (2 ^ s : Nat)) (hs : s ≤ 24) : ∃ y : Int, -2147483648 ≤ y ∧ y ≤ 2147483647 ∧ wrap32 (bits .xor .u32 (x % 4294967296) p) = y ∧ Sums.u32 y = Sums.u32 x ^^^ (2 ^ s * b.toNat) := by
  obtain ⟨m, rfl⟩ := Int.eq_ofNat_of_zero_le hb.1
  have hpw : 2 ^ s ≤ 2 ^ 24 := Nat.pow_le_pow_right (by omega) hs
  have hq : 2 ^ s * m < 4294967296 := by
    have : 2 ^ s * m ≤ 2 ^ 24 * 255 := Nat.mul_le_mul hpw (by omega)
    omega
  have e1 : x % 4294967296 = ((Sums.u32 x : Nat) : Int) := by unfold Sums.u32; omega
  have e2 : p = ((2 ^ s * m : Nat) : Int) := by rw [hp, Nat.mul_comm, Int.natCast_mul]
  rw [e1, e2, u32_xor_nat _ _ (Sums.u32_lt x) hq, Int.toNat_natCast]
  have hz : Sums.u32 x ^^^ (2 ^ s * m) < 4294967296 := Nat.xor_lt_two_pow (n := 32) (Sums.u32_lt x) hq
  generalize Sums.u32 x ^^^ (2 ^ s * m) = z at *
  refine ⟨_, ?_, ?_, rfl, ?_⟩ <;> unfold wrap32
  · omega
  · omega
  · unfold Sums.u32
    rw [u32_wrap z hz, Int.toNat_natCast]
theorem foldl_set {A : Type} (f : A → Int → A) (s : A) (l : List Int) (i : Nat) (y : Int) (hi : i < l.length) (h : ∀ a, f a y = f a (l.getD i 0)) : (l.set i y).foldl f s = l.foldl f s := by
  have e1 : l = l.take i ++ l.getD i 0 :: l.drop (i + 1) := by
    conv => lhs; rw [← List.take_append_drop i l]
    rw [List.drop_eq_getElem_cons hi]
    simp [List.getD, List.getElem?_eq_getElem hi]
  have e2 : l.set i y = l.take i ++ y :: l.drop (i + 1) := List.set_eq_take_append_cons_drop.trans (if_pos hi)
  rw [e2]
  conv => rhs; rw [e1]
  rw [List.foldl_append, List.foldl_append, List.foldl_cons, List.foldl_cons, h]
theorem key_same {l : List Int} {i : Nat} {y : Int} (hi : i < l.length) (hy : Sums.u32 y = Sums.u32 (l.getD i 0)) : Sums.key (l.set i y) = Sums.key l :=
  foldl_set (fun k x => Sums.knum k (Sums.u32 x)) Sums.kstart l i y hi (fun a => congrArg (Sums.knum a) hy)
/-- Whether the keys are alike. -/
theorem key_test {l : List Int} {i j : Nat} {y b : Int} (hi : i < l.length) (hj : j < 4) (hb : 0 ≤ b ∧ b ≤ 255) (hy : Sums.u32 y = Sums.u32 (l.getD i 0) ^^^ (2 ^ (8 * j) * b.toNat)) :
    ((((Sums.key l : Nat) : Int) == ((Sums.key (l.set i y) : Nat) : Int)) == (b == 0)) = true := by
  by_cases h0 : b = 0
  · subst h0
    simp only [Int.toNat_zero, Nat.mul_zero, Nat.xor_zero] at hy
    rw [key_same hi hy]
    simp
  · have hk := Sums.key_turn hi hj (show b.toNat < 256 by omega) hy (by omega)
    have e1 : (((Sums.key l : Nat) : Int) == ((Sums.key (l.set i y) : Nat) : Int)) = false := by
      rw [beq_eq_false_iff_ne]; omega
    have e2 : (b == 0) = false := by rw [beq_eq_false_iff_ne]; exact h0
    rw [e1, e2]; rfl
set_option maxHeartbeats 2000000 in
theorem SumsApart_walk (w : World) (ht : Tab w) (a0 : Option Addr) (n0 cap0 : Nat) (l : List Int) (h0 : Row .i32 w a0 n0 cap0 l) (hf0 : ∀ x ∈ l, (Lit.int .i32 x).wf = true) (hs0 : n0 * 4 ≤ 140737488351232)
    (at0 : Int) (hat : (Lit.int .i64 at0).wf = true) (by0 : Int) (hby : (Lit.int .u8 by0).wf = true) :
    Calls Tryd.prog 4 #[.slice a0 n0 cap0, .int .i64 at0, .int .u8 by0] w fun e w' => e = .returned (.bool true) ∧ Below w.heap.size w w' := by
  have H0 := hide h0
  have L0 := hide h0.len
  have HF := hide (Runes.of_wf hf0)
  have HT := hide ht
  have hab := bounds_i64 hat
  have hbb := bounds_u8 hby
  have h3 := and3 at0
  obtain ⟨i21, hi, hz0, hz1, hz2⟩ := info_parts Try.info21
  have HI : Hid (Tryd.prog.info? 21 = some i21) := hi
  have HZ0 := hide hz0
  have HZ1 := hide hz1
  have HZ2 := hide hz2
  have HW := hide (works_any _ HT.out)
  clear h0 hf0 hi hz0 hz1 hz2 ht hat hby
  by_cases hn : n0 = 0
  · subst hn
    go_enter Tryd.func4, Tryd.ntmps4
    go_wp2_with fail
    refine HW.out.mono ?_
    rintro e w1 ⟨rfl, hb1⟩
    have HB1 := hide hb1
    clear hb1
    go_wp2
    go_ret
    exact ⟨rfl, HB1.out⟩
  obtain ⟨k, hk, hkw⟩ := place_at at0 n0 (by omega) (by omega)
  have hne : ((n0 : Int) == 0) = false := by simp [hn]
  obtain ⟨j, hj, hjm⟩ : ∃ j : Nat, j < 4 ∧ at0 % 4 = (j : Int) := ⟨(at0 % 4).toNat, by omega, by omega⟩
  obtain ⟨p, hp0, hp1, hpe⟩ : ∃ p : Int, 0 ≤ p ∧ p < 4294967296 ∧ p = by0 * (2 ^ (8 * j) : Nat) := by
    have hpw : 2 ^ (8 * j) ≤ 2 ^ 24 := Nat.pow_le_pow_right (by omega) (by omega)
    refine ⟨_, ?_, ?_, rfl⟩
    · exact Int.mul_nonneg hbb.1 (Int.natCast_nonneg _)
    · obtain ⟨m, rfl⟩ := Int.eq_ofNat_of_zero_le hbb.1
      have : m * 2 ^ (8 * j) ≤ 255 * 2 ^ 24 := Nat.mul_le_mul (by omega) hpw
      rw [← Int.natCast_mul]
      omega
  obtain ⟨y, hy0, hy1, hyw, hyu⟩ := turn_int (l.getD k 0) by0 p (8 * j) hbb hpe (by omega)
  have HKT := hide (key_test (l := l) (i := k) (by have := L0.out; omega) hj hbb hyu)
  clear hyu
  have hkn : (k : Int) < (n0 : Int) := by omega
  have HJ := hide (show j = 0 ∨ j = 1 ∨ j = 2 ∨ j = 3 by omega)
  have hps : by0 * (2 : Int) ^ (j * 8) % 4294967296 = p := by
    have e : by0 * (2 : Int) ^ (j * 8) = p := by rw [hpe, Nat.mul_comm 8 j, Int.natCast_pow]; rfl
    rw [e]
    exact Int.emod_eq_of_lt hp0 hp1
  have hx : -2147483648 ≤ l.getD k 0 ∧ l.getD k 0 ≤ 2147483647 := by
    have hkl : k < l.length := by have := L0.out; omega
    have e : l.getD k 0 = l[k] := by simp [List.getD, List.getElem?_eq_getElem hkl]
    rw [e]; exact HF.out _ (List.getElem_mem _)
  clear hn hpe hj
  go_enter Tryd.func4, Tryd.ntmps4
  go_wp2_with fail
  refine HW.out.mono ?_
  rintro e w1 ⟨rfl, hb1⟩
  have HB1 := hide hb1
  have HR1 := hide ((H0.out.below hb1).below ((Below.refl w1.heap.size w1).alloc (Nat.le_refl _) (.cells #[] 21)))
  clear hb1
  go_wp2_with (at_builtin; refine wpList_append_row _ (by rfl) (.tmp 26) (.tmp 27) 32 rfl w1.heap.size 21 i21 (.int .i32 0) 4 Tryd.underlying32 HI.out HZ0.out HZ1.out HZ2.out rfl _ 0 [] rfl (owns_empty w1 21 _ rfl) .i32 a0 n0 cap0 l rfl HR1.out ?c1 (by omega) ?c2 ?_)
  case c1 => omega
  case c2 => simp
  intro v2 w2 ho2 hb2
  have ho2' : w2.ownsRow w1.heap.size 21 1 v2 n0 (l.map (Value.int .i32)) := by simpa using ho2
  obtain ⟨g, c2, rfl, hg1, hg2⟩ := ho2'.form (by omega)
  have hcell := owns_cell ho2' k hk
  have hfro := ho2'.frozenAt k
  have HO2 := hide ho2'
  have HB2 := hide (((Below.refl w1.heap.size w1).alloc (Nat.le_refl _) (.cells #[] 21)).trans hb2)
  clear ho2 ho2' hb2 HR1
  generalize l.getD k 0 = x at *
  have HO3 := hide (owns_set HO2.out k y)
  have HB3 := hide (HB2.out.setCell (p := ⟨g, k, none⟩) hg1 (.int .i32 y))
  obtain ⟨a3, c3, e3, hr3⟩ := row_of_owns HO3.out
  simp only [Value.slice.injEq, true_and] at e3
  obtain ⟨rfl, rfl⟩ := e3
  have HF3 : Hid (∀ z ∈ l.set k y, -2147483648 ≤ z ∧ z ≤ 2147483647) := by
    intro z hz
    rcases List.mem_or_eq_of_mem_set hz with hz | rfl
    · exact HF.out z hz
    · exact ⟨hy0, hy1⟩
  have HK1 := hide (key_any a0 n0 cap0 l _ ((H0.out.below HB1.out).below HB3.out) HF.out)
  have HK2 := hide (key_any _ n0 _ _ _ hr3 HF3.out)
  have HB4 := hide (HB1.out.trans (HB3.out.mono HB1.out.size))
  clear hr3 HF3 HO3 HO2 HB3 HB2 HB1
  go_wp2_with fail
  refine HK1.out.mono ?_
  rintro e w4 ⟨rfl, rfl⟩
  go_wp2_with fail
  refine HK2.out.mono ?_
  rintro e w5 ⟨rfl, rfl⟩
  have hkt := HKT.out
  generalize ((Sums.key l : Nat) : Int) = q1 at *
  generalize ((Sums.key (l.set k y) : Nat) : Int) = q2 at *
  go_wp2
  go_ret
  exact ⟨rfl, HB4.out⟩
end Go.Proofs.YthnhpbambkhphabDoor
