/- Separators of a list, and places behind them. No Go in sight. -/
import Derived.Test.YteiljaecaahonaaLists
import Derived.Test.YteiljaecaahonaaUc
namespace Go.Proofs.Yteiljaecaahonaa
/-- 1 where a number is a separator. -/
def sep (x : Int) : Nat := if Ucd.cls x = 11 then 1 else 0
def seps (l : List Int) : Nat := (l.map sep).sum
theorem sep_le (x : Int) : sep x ≤ 1 := by unfold sep; split <;> omega
@[simp] theorem seps_nil : seps [] = 0 := rfl
@[simp] theorem seps_cons (x : Int) (l : List Int) : seps (x :: l) = sep x + seps l := by simp [seps]
@[simp] theorem seps_append (a b : List Int) : seps (a ++ b) = seps a + seps b := by simp [seps]
theorem seps_le (l : List Int) : seps l ≤ l.length := by
  induction l with
  | nil => simp
  | cons x l ih => have := sep_le x; simp; omega
/-- The place behind separator k, counted from 1 on: 0 for none, the end where there are fewer. -/
def bh : List Int → Nat → Nat
  | _, 0 => 0
  | [], _ + 1 => 0
  | x :: l, k + 1 => bh l (k + 1 - sep x) + 1
@[simp] theorem bh_zero (l : List Int) : bh l 0 = 0 := by cases l <;> rfl
@[simp] theorem bh_nil (k : Nat) : bh [] k = 0 := by cases k <;> rfl
theorem bh_cons (x : Int) (l : List Int) (k : Nat) (h : 0 < k) : bh (x :: l) k = bh l (k - sep x) + 1 := by
  cases k with
  | zero => omega
  | succ k => rfl
theorem bh_left (a b : List Int) (k : Nat) (h : k ≤ seps a) : bh (a ++ b) k = bh a k := by
  induction a generalizing k with
  | nil => simp at h; subst h; simp
  | cons x a ih =>
    rcases Nat.eq_zero_or_pos k with h0 | h0
    · subst h0; simp
    · rw [List.cons_append, bh_cons _ _ _ h0, bh_cons _ _ _ h0, ih]
      rw [seps_cons] at h; omega
theorem bh_right (a b : List Int) (k : Nat) (h : seps a < k) : bh (a ++ b) k = a.length + bh b (k - seps a) := by
  induction a generalizing k with
  | nil => simp
  | cons x a ih =>
    rw [seps_cons] at h
    rw [List.cons_append, bh_cons _ _ _ (by omega), ih _ (by omega), List.length_cons, seps_cons, Nat.sub_sub]
    omega
theorem bh_node (a : List Int) (x : Int) (b : List Int) (k : Nat) (h : seps a < k) : bh (a ++ x :: b) k = a.length + 1 + bh b (k - (seps a + sep x)) := by
  rw [bh_right _ _ _ h, bh_cons _ _ _ (by omega), Nat.sub_sub]; omega
theorem bh_le (l : List Int) (k : Nat) : bh l k ≤ l.length := by
  induction l generalizing k with
  | nil => simp
  | cons x l ih =>
    rcases Nat.eq_zero_or_pos k with h0 | h0
    · subst h0; simp
    · rw [bh_cons _ _ _ h0]; have := ih (k - sep x); simp; omega
theorem seps_take_bh (l : List Int) (k : Nat) (h : k ≤ seps l) : seps (l.take (bh l k)) = k := by
  induction l generalizing k with
  | nil => simp at h; subst h; simp
  | cons x l ih =>
    rcases Nat.eq_zero_or_pos k with h0 | h0
    · subst h0; simp
    · rw [bh_cons _ _ _ h0, List.take_succ_cons, seps_cons, ih]
      · have := sep_le x; omega
      · rw [seps_cons] at h; omega
theorem bh_end (l : List Int) (k : Nat) (h : seps l < k) : bh l k = l.length := by
  induction l generalizing k with
  | nil => simp
  | cons x l ih =>
    rw [seps_cons] at h
    rw [bh_cons _ _ _ (by omega), ih _ (by omega), List.length_cons]
theorem seps_take_lt (l : List Int) (i k : Nat) (h : i < bh l (k + 1)) : seps (l.take i) ≤ k := by
  induction l generalizing i k with
  | nil => simp at h
  | cons x l ih =>
    cases i with
    | zero => simp
    | succ i =>
      rw [bh_cons _ _ _ (by omega)] at h
      rw [List.take_succ_cons, seps_cons]
      rcases (by have := sep_le x; omega : sep x = 0 ∨ sep x = 1) with h1 | h1
      · rw [h1] at h ⊢
        have := ih i k (by simpa using h)
        omega
      · rw [h1] at h ⊢
        cases k with
        | zero => simp at h
        | succ k =>
          have := ih i k (by simpa using h)
          omega
theorem seps_take_mono (l : List Int) {i j : Nat} (h : i ≤ j) : seps (l.take i) ≤ seps (l.take j) := by
  obtain ⟨d, rfl⟩ := Nat.le.dest h
  rw [List.take_add, seps_append]; omega
theorem seps_take_le (l : List Int) (i : Nat) : seps (l.take i) ≤ seps l := by
  have := seps_append (l.take i) (l.drop i)
  rw [List.take_append_drop] at this
  omega
/-- Within a paragraph so many separators stand ahead. -/
theorem seps_within (l : List Int) (i k : Nat) (hk : k ≤ seps l) (h1 : bh l k ≤ i) (h2 : i < bh l (k + 1)) : seps (l.take i) = k := by
  have a := seps_take_lt l i k h2
  have b := seps_take_mono l h1
  rw [seps_take_bh l k hk] at b
  omega
theorem bh_lt (l : List Int) (k : Nat) (hk : k < seps l) : bh l k < bh l (k + 1) := by
  rcases Nat.lt_or_ge (bh l k) (bh l (k + 1)) with h | h
  · exact h
  · have a := seps_take_mono l h
    rw [seps_take_bh l k (by omega), seps_take_bh l (k + 1) (by omega)] at a
    omega
theorem bh_mono (l : List Int) (k : Nat) (hk : k ≤ seps l) : bh l k ≤ bh l (k + 1) := by
  rcases Nat.lt_or_ge k (seps l) with h | h
  · exact Nat.le_of_lt (bh_lt l k h)
  · rw [bh_end l (k + 1) (by omega)]; exact bh_le l k
/-- How many separators a paragraph has. -/
theorem seps_para (l : List Int) (k : Nat) (hk : k ≤ seps l) : seps ((l.drop (bh l k)).take (bh l (k + 1) - bh l k)) = if k < seps l then 1 else 0 := by
  have hm := bh_mono l k hk
  have e : l.take (bh l (k + 1)) = l.take (bh l k) ++ (l.drop (bh l k)).take (bh l (k + 1) - bh l k) := by
    conv => lhs; rw [show bh l (k + 1) = bh l k + (bh l (k + 1) - bh l k) from by omega]
    rw [List.take_add]
  have e2 := congrArg seps e
  rw [seps_append, seps_take_bh l k hk] at e2
  split
  · rename_i h
    rw [seps_take_bh l (k + 1) (by omega)] at e2; omega
  · rename_i h
    rw [bh_end l (k + 1) (by omega), List.take_length] at e2
    have : k = seps l := by omega
    rw [bh_end l (k + 1) (by omega)]
    omega
end Go.Proofs.Yteiljaecaahonaa
