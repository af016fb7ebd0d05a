/- Columns that are counted run by run: plain mathematics. -/
import Derived.Test.YtmcbldllbnjipaaPm16
namespace Go.Proofs.Ytmcbldllbnjipaa
set_option linter.unusedVariables false
namespace Pk
/-- How many of the first i runs have column j. -/
def cn (P : List (Nat × Nat)) : Nat → Nat → Nat
  | 0, _ => 0
  | i + 1, j => cn P i j + if (P.getD i (0, 0)).1 ≤ j ∧ j < (P.getD i (0, 0)).2 then 1 else 0
theorem cn_none {P : List (Nat × Nat)} {j : Nat} : ∀ i, (∀ k, k < i → ¬ ((P.getD k (0, 0)).1 ≤ j ∧ j < (P.getD k (0, 0)).2)) → cn P i j = 0
  | 0, _ => rfl
  | i + 1, h => by
    rw [cn, cn_none i (fun k hk => h k (by omega)), if_neg (h i (by omega))]
section
variable {q : Nat → Bool} {m : Nat}
theorem RU_apart {i k : Nat} (hik : i < k) (hk : k < (RU q m).length) : ((RU q m).getD i (0, 0)).2 < ((RU q m).getD k (0, 0)).1 := by
  have := List.pairwise_iff_getElem.1 (RU_rise q m) i k (by omega) hk hik
  simpa [List.getD, hk, show i < (RU q m).length by omega] using this
/-- In a run, none of those ahead has the column. -/
theorem cn_ahead {i j : Nat} (hi : i < (RU q m).length) (h : ((RU q m).getD i (0, 0)).1 ≤ j) : cn (RU q m) i j = 0 := by
  refine cn_none i fun k hk h2 => ?_
  have := RU_apart hk hi
  omega
theorem cn_le {j : Nat} : ∀ i, i ≤ (RU q m).length → cn (RU q m) i j ≤ 1
  | 0, _ => Nat.zero_le _
  | i + 1, h => by
    rw [cn]
    by_cases h1 : ((RU q m).getD i (0, 0)).1 ≤ j ∧ j < ((RU q m).getD i (0, 0)).2
    · rw [if_pos h1, cn_ahead (by omega) h1.1]; omega
    · rw [if_neg h1]; exact cn_le i (by omega)
theorem cn_has {j : Nat} : ∀ i, i ≤ (RU q m).length → (cn (RU q m) i j = 1 ↔ ∃ k, k < i ∧ ((RU q m).getD k (0, 0)).1 ≤ j ∧ j < ((RU q m).getD k (0, 0)).2)
  | 0, _ => by
    constructor
    · intro h; cases h
    · rintro ⟨k, hk, _⟩; omega
  | i + 1, h => by
    rw [cn]
    by_cases h1 : ((RU q m).getD i (0, 0)).1 ≤ j ∧ j < ((RU q m).getD i (0, 0)).2
    · rw [if_pos h1, cn_ahead (by omega) h1.1]
      exact ⟨fun _ => ⟨i, by omega, h1⟩, fun _ => rfl⟩
    · rw [if_neg h1, Nat.add_zero, cn_has i (by omega)]
      constructor
      · rintro ⟨k, hk, g⟩; exact ⟨k, by omega, g⟩
      · rintro ⟨k, hk, g⟩
        refine ⟨k, ?_, g⟩
        by_cases e : k = i
        · subst e; exact absurd g h1
        · omega
theorem cn_all (j : Nat) : cn (RU q m) (RU q m).length j = if j < m ∧ q j = true then 1 else 0 := by
  have h1 := cn_le (q := q) (m := m) (j := j) _ (Nat.le_refl _)
  have h2 := cn_has (q := q) (m := m) (j := j) _ (Nat.le_refl _)
  by_cases h : j < m ∧ q j = true
  · rw [if_pos h]
    obtain ⟨p, g1, g2, g3⟩ := (RU_in h.1).1 h.2
    obtain ⟨k, hk, rfl⟩ := List.mem_iff_getElem.1 g1
    exact h2.2 ⟨k, hk, by simp only [List.getD, List.getElem?_eq_getElem hk, Option.getD_some]; exact g2, by simp only [List.getD, List.getElem?_eq_getElem hk, Option.getD_some]; exact g3⟩
  · rw [if_neg h]
    have h3 : ¬ cn (RU q m) (RU q m).length j = 1 := fun g => by
      obtain ⟨k, hk, g1, g2⟩ := h2.1 g
      have hr := RU_run (RU_at hk)
      exact h ⟨by omega, hr.2.2.1 j g1 g2⟩
    omega
end
/-- A row of n numbers. -/
def ML (n : Nat) (g : Nat → Int) : List Int := (List.range n).map g
theorem ML_len (n : Nat) (g : Nat → Int) : (ML n g).length = n := by simp [ML]
theorem ML_at {n : Nat} {g : Nat → Int} {j : Nat} (h : j < n) : (ML n g).getD j 0 = g j := by simp [ML, List.getD, h]
theorem ML_same {n : Nat} {g h : Nat → Int} (e : ∀ j, j < n → g j = h j) : ML n g = ML n h := List.map_congr_left fun j hj => e j (List.mem_range.1 hj)
/-- What is counted behind i runs, and the columns up to k of the next one; each counts d. -/
def mg (g : Nat → Int) (d : Int) (P : List (Nat × Nat)) (i k j : Nat) : Int := g j + d * (cn P i j : Int) + if (P.getD i (0, 0)).1 ≤ j ∧ j < k then d else 0
/-- What is counted behind i runs. -/
def mr (g : Nat → Int) (d : Int) (P : List (Nat × Nat)) (i j : Nat) : Int := g j + d * (cn P i j : Int)
section
variable {g : Nat → Int} {d : Int} {P : List (Nat × Nat)} {n i k : Nat}
theorem mr_zero : ML n (mr g d P 0) = ML n g := ML_same fun j _ => by unfold mr; rw [cn]; omega
theorem mg_begin : ML n (mg g d P i (P.getD i (0, 0)).1) = ML n (mr g d P i) := ML_same fun j _ => by
  unfold mg mr
  rw [if_neg (by omega)]
  omega
theorem mg_at (hk : k < n) : (ML n (mg g d P i k)).getD k 0 = mr g d P i k := by
  rw [ML_at hk]
  unfold mg mr
  rw [if_neg (by omega)]
  omega
theorem mg_set (hk : k < n) (h1 : (P.getD i (0, 0)).1 ≤ k) : (ML n (mg g d P i k)).set k (mr g d P i k + d) = ML n (mg g d P i (k + 1)) := by
  refine List.ext_getElem (by simp [ML]) fun j h2 h3 => ?_
  have hj : j < n := by simpa [ML] using h3
  rw [List.getElem_set]
  simp only [ML, List.getElem_map, List.getElem_range]
  unfold mg mr
  by_cases e : k = j
  · subst e
    rw [if_pos rfl, if_pos ⟨h1, by omega⟩]
  · rw [if_neg e]
    by_cases h : (P.getD i (0, 0)).1 ≤ j ∧ j < k
    · rw [if_pos h, if_pos ⟨h.1, by omega⟩]
    · rw [if_neg h, if_neg (by omega)]
theorem mg_end : ML n (mg g d P i (P.getD i (0, 0)).2) = ML n (mr g d P (i + 1)) := ML_same fun j _ => by
  unfold mg mr
  rw [cn]
  by_cases h : (P.getD i (0, 0)).1 ≤ j ∧ j < (P.getD i (0, 0)).2
  · rw [if_pos h, if_pos h]
    push_cast
    rw [Int.mul_add]
    omega
  · rw [if_neg h, if_neg h, Nat.add_zero]
    omega
end
/-- What is counted, behind none, one, both of two lists of runs. -/
def gs (X Y : List (Nat × Nat)) : Nat → Nat → Int
  | 0, _ => 0
  | 1, j => mr (fun _ => 0) 1 X X.length j
  | _ + 2, j => mr (mr (fun _ => 0) 1 X X.length) 1 Y Y.length j
theorem gs_two (X Y : List (Nat × Nat)) : gs X Y 2 = fun j => mr (mr (fun _ => 0) 1 X X.length) 1 Y Y.length j := rfl
theorem split_ok {L : List Int} {a b c : Int} (h1 : a ≤ b) (h2 : b ≤ c) {m : Nat} (j : Nat) :
    mr (gs (RU (qc L a b) m) (RU (qc L b c) m) 2) 10 (RU (qc L a c) m) (RU (qc L a c) m).length j = 0 ∨ mr (gs (RU (qc L a b) m) (RU (qc L b c) m) 2) 10 (RU (qc L a c) m) (RU (qc L a c) m).length j = 11 := by
  rw [gs_two]
  unfold mr
  simp only [cn_all, qc_iff]
  by_cases hj : j < m
  · by_cases g1 : a ≤ L.getD j 0 ∧ L.getD j 0 < b
    · rw [if_pos ⟨hj, g1⟩, if_neg (by omega), if_pos ⟨hj, by omega⟩]; exact .inr (by decide)
    · by_cases g2 : b ≤ L.getD j 0 ∧ L.getD j 0 < c
      · rw [if_neg (by omega), if_pos ⟨hj, g2⟩, if_pos ⟨hj, by omega⟩]; exact .inr (by decide)
      · rw [if_neg (by omega), if_neg (by omega), if_neg (by omega)]; exact .inl (by decide)
  · rw [if_neg (by omega), if_neg (by omega), if_neg (by omega)]; exact .inl (by decide)
end Pk
end Go.Proofs.Ytmcbldllbnjipaa
