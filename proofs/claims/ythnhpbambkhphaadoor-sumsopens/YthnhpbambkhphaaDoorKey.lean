/- Keys of texts: the mathematics, and the contract of Key. -/
import Derived.Test.YthnhpbambkhphaaDoorRows
import Derived.Test.YthnhpbambkhphaaDoorSm
import Derived.Test.YthnhpbambkhphaaDoorArgs
import Derived.WalkKit
import Derived.WalkSpells
import Derived.WalkLawsBesides
import Derived.Outline
namespace Go.Proofs.YthnhpbambkhphaaDoor
open Go.RowKit
set_option linter.unusedVariables false
namespace Sums
def F : Nat := 1099511628211
def G : Nat := 14886173955864302971
def W64 : Nat := 18446744073709551616
/-- One byte taken into a key. -/
def kin (k c : Nat) : Nat := (k ^^^ c) * F % W64
/-- One number, as four bytes, the highest first. -/
def knum (k u : Nat) : Nat := kin (kin (kin (kin k (u / 16777216 % 256)) (u / 65536 % 256)) (u / 256 % 256)) (u % 256)
def u32 (x : Int) : Nat := (x % 4294967296).toNat
def kstart : Nat := 14695981039346656037
def krun (k : Nat) (l : List Int) : Nat := l.foldl (fun k x => knum k (u32 x)) k
def key (l : List Int) : Nat := krun kstart l
theorem kin_lt (k c : Nat) : kin k c < W64 := Nat.mod_lt _ (by decide)
theorem knum_lt (k u : Nat) : knum k u < W64 := kin_lt _ _
theorem krun_lt {k : Nat} (h : k < W64) (l : List Int) : krun k l < W64 := by
  induction l generalizing k with
  | nil => exact h
  | cons x l ih => simp only [krun, List.foldl_cons] at ih ⊢; exact ih (knum_lt _ _)
theorem krun_append (k : Nat) (a b : List Int) : krun k (a ++ b) = krun (krun k a) b := List.foldl_append
theorem foldl_snoc {A : Type} (f : A → Int → A) (s : A) (xs : List Int) (k : Nat) (h : k < xs.length) : (xs.take (k + 1)).foldl f s = f ((xs.take k).foldl f s) (xs.getD k 0) := by
  rw [take_snoc xs k h, List.foldl_append]; rfl
theorem krun_snoc (s : Nat) (xs : List Int) (k : Nat) (h : k < xs.length) : krun s (xs.take (k + 1)) = knum (krun s (xs.take k)) (u32 (xs.getD k 0)) :=
  foldl_snoc (fun k x => knum k (u32 x)) s xs k h
theorem u32_lt (x : Int) : u32 x < 4294967296 := by unfold u32; omega
theorem W64_pos : 0 < W64 := by decide
/-- Multiplication by an odd number loses nothing. -/
theorem mul_back {a : Nat} (ha : a < W64) : a * F % W64 * G % W64 = a := by
  rw [Nat.mod_mul_mod, Nat.mul_assoc, Nat.mul_mod, show F * G % W64 = 1 from by decide, Nat.mul_one, Nat.mod_mod, Nat.mod_eq_of_lt ha]
theorem kin_inj {k k' c c' : Nat} (hk : k < W64) (hk' : k' < W64) (hc : c < 256) (hc' : c' < 256) (h : kin k c = kin k' c') : k ^^^ c = k' ^^^ c' := by
  have h1 : k ^^^ c < W64 := Nat.xor_lt_two_pow (n := 64) hk (by unfold W64 at *; omega)
  have h2 : k' ^^^ c' < W64 := Nat.xor_lt_two_pow (n := 64) hk' (by unfold W64 at *; omega)
  have := congrArg (fun z => z * G % W64) h
  simp only [kin] at this
  rw [mul_back h1, mul_back h2] at this
  exact this
theorem kin_key {k k' c : Nat} (hk : k < W64) (hk' : k' < W64) (hc : c < 256) (h : kin k c = kin k' c) : k = k' := by
  have := kin_inj hk hk' hc hc h
  rw [Nat.xor_comm k, Nat.xor_comm k'] at this
  exact xor_inj this
theorem kin_byte {k c c' : Nat} (hk : k < W64) (hc : c < 256) (hc' : c' < 256) (h : kin k c = kin k c') : c = c' := xor_inj (kin_inj hk hk hc hc' h)
theorem knum_key {k k' u : Nat} (hk : k < W64) (hk' : k' < W64) (h : knum k u = knum k' u) : k = k' := by
  unfold knum at h
  have h1 := kin_key (kin_lt _ _) (kin_lt _ _) (by omega) h
  have h2 := kin_key (kin_lt _ _) (kin_lt _ _) (by omega) h1
  have h3 := kin_key (kin_lt _ _) (kin_lt _ _) (by omega) h2
  exact kin_key hk hk' (by omega) h3
theorem krun_key {l : List Int} : ∀ {k k' : Nat}, k < W64 → k' < W64 → krun k l = krun k' l → k = k' := by
  induction l with
  | nil => intro k k' _ _ h; exact h
  | cons x l ih =>
    intro k k' hk hk' h
    simp only [krun, List.foldl_cons] at h ih
    exact knum_key hk hk' (ih (knum_lt _ _) (knum_lt _ _) h)
/-- Numbers that differ in one byte alone. -/
theorem xor_byte (u by' s t : Nat) (hb : by' < 256) (hst : s = t ∨ s + 8 ≤ t ∨ t + 8 ≤ s) : (u ^^^ (2 ^ s * by')) / 2 ^ t % 256 = (u / 2 ^ t % 256) ^^^ (if s = t then by' else 0) := by
  rw [Nat.xor_div_two_pow, show 256 = 2 ^ 8 from rfl, Nat.xor_mod_two_pow]
  congr 1
  rcases hst with rfl | h | h
  · rw [if_pos rfl, Nat.mul_div_cancel_left _ (Nat.pow_pos (by omega)), Nat.mod_eq_of_lt (by omega)]
  · rw [if_neg (by omega)]
    have : 2 ^ s * by' < 2 ^ t := by
      calc 2 ^ s * by' < 2 ^ s * 2 ^ 8 := Nat.mul_lt_mul_of_pos_left (by omega) (Nat.pow_pos (by omega))
        _ = 2 ^ (s + 8) := by rw [Nat.pow_add]
        _ ≤ 2 ^ t := Nat.pow_le_pow_right (by omega) h
    rw [Nat.div_eq_of_lt this]
  · rw [if_neg (by omega)]
    obtain ⟨d, rfl⟩ := Nat.exists_eq_add_of_le h
    rw [show t + 8 + d = t + (8 + d) from by omega, Nat.pow_add 2 t, Nat.mul_assoc, Nat.mul_div_cancel_left _ (Nat.pow_pos (by omega)), Nat.pow_add, Nat.mul_assoc, Nat.mul_mod_right]
theorem knum_turn {k u by' : Nat} (hk : k < W64) (hb : by' < 256) (h0 : by' ≠ 0) (j : Nat) (hj : j < 4) : knum k u ≠ knum k (u ^^^ (2 ^ (8 * j) * by')) := by
  intro h
  have e0 := xor_byte u by' (8 * j) 0 hb (by omega)
  have e1 := xor_byte u by' (8 * j) 8 hb (by omega)
  have e2 := xor_byte u by' (8 * j) 16 hb (by omega)
  have e3 := xor_byte u by' (8 * j) 24 hb (by omega)
  simp only [Nat.pow_zero, Nat.div_one, Nat.reducePow] at e0 e1 e2 e3
  unfold knum at h
  rw [e0, e1, e2, e3] at h
  have key : ∀ x : Nat, x = x ^^^ by' → False := fun x hx => h0 (by
    have : x ^^^ 0 = x ^^^ by' := by rw [Nat.xor_zero]; exact hx
    exact (xor_inj this).symm)
  have hx : ∀ x : Nat, x % 256 ^^^ by' < 256 := fun x => Nat.xor_lt_two_pow (n := 8) (by omega) hb
  have hj' : j = 0 ∨ j = 1 ∨ j = 2 ∨ j = 3 := by omega
  rcases hj' with rfl | rfl | rfl | rfl
  · simp only [Nat.mul_zero, if_true, Nat.reduceEqDiff, if_false, Nat.xor_zero] at h
    exact key _ (kin_byte (kin_lt _ _) (by omega) (hx _) h)
  · simp only [Nat.mul_one, if_true, Nat.reduceEqDiff, if_false, Nat.xor_zero] at h
    have h1 := kin_key (kin_lt _ _) (kin_lt _ _) (by omega) h
    exact key _ (kin_byte (kin_lt _ _) (by omega) (hx _) h1)
  · simp only [Nat.reduceMul, if_true, Nat.reduceEqDiff, if_false, Nat.xor_zero] at h
    have h1 := kin_key (kin_lt _ _) (kin_lt _ _) (by omega) h
    have h2 := kin_key (kin_lt _ _) (kin_lt _ _) (by omega) h1
    exact key _ (kin_byte (kin_lt _ _) (by omega) (hx _) h2)
  · simp only [Nat.reduceMul, if_true, Nat.reduceEqDiff, if_false, Nat.xor_zero] at h
    have h1 := kin_key (kin_lt _ _) (kin_lt _ _) (by omega) h
    have h2 := kin_key (kin_lt _ _) (kin_lt _ _) (by omega) h1
    have h3 := kin_key (kin_lt _ _) (kin_lt _ _) (by omega) h2
    exact key _ (kin_byte hk (by omega) (hx _) h3)
theorem kstart_lt : kstart < W64 := by decide
/-- One byte of one number turned: another key. -/
theorem key_turn {l : List Int} {i by' j : Nat} {y : Int} (hi : i < l.length) (hj : j < 4) (hb : by' < 256) (hy : u32 y = u32 (l.getD i 0) ^^^ (2 ^ (8 * j) * by')) (h0 : by' ≠ 0) : key l ≠ key (l.set i y) := by
  intro h
  have e1 : l = l.take i ++ l.getD i 0 :: l.drop (i + 1) := by
    conv => lhs; rw [← List.take_append_drop i l]
    rw [List.drop_eq_getElem_cons hi]
    simp [List.getD, List.getElem?_eq_getElem hi]
  have e2 : l.set i y = l.take i ++ y :: l.drop (i + 1) := List.set_eq_take_append_cons_drop.trans (if_pos hi)
  unfold key at h
  rw [e2] at h
  conv at h => lhs; rw [e1]
  rw [krun_append, krun_append] at h
  have hs := krun_lt kstart_lt (l.take i)
  simp only [krun, List.foldl_cons] at h
  have h1 := krun_key (l := l.drop (i + 1)) (knum_lt _ _) (knum_lt _ _) h
  rw [hy] at h1
  exact knum_turn hs hb h0 j hj h1
end Sums
end Go.Proofs.YthnhpbambkhphaaDoor
