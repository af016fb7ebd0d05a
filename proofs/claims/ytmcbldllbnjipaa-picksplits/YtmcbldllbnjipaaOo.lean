/- Where places stand in an order; an order cut where the level changes: plain mathematics. -/
import Derived.Test.YtmcbldllbnjipaaOc
namespace Go.Proofs.Ytmcbldllbnjipaa
set_option linter.unusedVariables false
namespace Od
/-- The first k of an order may be. -/
structure Orderly (o : List Int) (n : Int) (k : Nat) : Prop where
  range : ∀ i, i < k → 0 ≤ o.getD i 0 ∧ o.getD i 0 < n
  once : ∀ i j, i < j → j < k → ¬ o.getD i 0 = o.getD j 0
section
variable {o : List Int} {n : Int}
theorem Orderly.zero : Orderly o n 0 := ⟨fun i h => absurd h (by omega), fun i j _ h => absurd h (by omega)⟩
theorem Orderly.succ {k : Nat} (h : Orderly o n k) (h1 : 0 ≤ o.getD k 0 ∧ o.getD k 0 < n) (h2 : ∀ i, i < k → ¬ o.getD i 0 = o.getD k 0) : Orderly o n (k + 1) := by
  refine ⟨fun i hi => ?_, fun i j hij hj => ?_⟩
  · by_cases e : i = k
    · subst e; exact h1
    · exact h.range i (by omega)
  · by_cases e : j = k
    · subst e; exact h2 i hij
    · exact h.once i j hij (by omega)
theorem Orderly.less {k m : Nat} (h : Orderly o n k) (hm : m ≤ k) : Orderly o n m := ⟨fun i hi => h.range i (by omega), fun i j hij hj => h.once i j hij (by omega)⟩
end
/-- Where x stands in the first k of an order; -1, if it does not. -/
def ps (o : List Int) (x : Int) : Nat → Int
  | 0 => -1
  | k + 1 => if o.getD k 0 = x then (k : Int) else ps o x k
theorem ps_is (o : List Int) (x : Int) : ∀ k, (ps o x k = -1 ∧ ∀ j, j < k → ¬ o.getD j 0 = x) ∨ ∃ j, j < k ∧ ps o x k = (j : Int) ∧ o.getD j 0 = x
  | 0 => .inl ⟨rfl, fun j h => absurd h (by omega)⟩
  | k + 1 => by
    rw [ps]
    split
    · rename_i h
      exact .inr ⟨k, by omega, rfl, h⟩
    · rename_i h
      rcases ps_is o x k with ⟨h1, h2⟩ | ⟨j, h1, h2, h3⟩
      · refine .inl ⟨h1, fun j hj => ?_⟩
        by_cases e : j = k
        · subst e; exact h
        · exact h2 j (by omega)
      · exact .inr ⟨j, by omega, h2, h3⟩
theorem ps_none {o : List Int} {x : Int} {k : Nat} (h : ∀ j, j < k → ¬ o.getD j 0 = x) : ps o x k = -1 := by
  rcases ps_is o x k with ⟨h1, _⟩ | ⟨j, h1, h2, h3⟩
  · exact h1
  · exact absurd h3 (h j h1)
theorem ps_at {o : List Int} {n : Int} {k j : Nat} (h : Orderly o n k) (hj : j < k) : ps o (o.getD j 0) k = (j : Int) := by
  rcases ps_is o (o.getD j 0) k with ⟨_, h2⟩ | ⟨i, h1, h2, h3⟩
  · exact absurd rfl (h2 j hj)
  · rw [h2]
    by_cases e : i = j
    · rw [e]
    · rcases Nat.lt_or_gt_of_ne e with e | e
      · exact absurd h3 (h.once i j e hj)
      · exact absurd h3.symm (h.once j i e h1)
theorem ps_neg {o : List Int} {x : Int} {k : Nat} : ps o x k < 0 ↔ ∀ j, j < k → ¬ o.getD j 0 = x := by
  rcases ps_is o x k with ⟨h1, h2⟩ | ⟨j, h1, h2, h3⟩
  · exact ⟨fun _ => h2, fun _ => by omega⟩
  · exact ⟨fun _ => by omega, fun h => absurd h3 (h j h1)⟩
/-- Of each of n places where it stands in the first k. -/
def CO (o : List Int) (n k : Nat) : List Int := (List.range n).map fun (i : Nat) => ps o (i : Int) k
theorem CO_len (o : List Int) (n k : Nat) : (CO o n k).length = n := by simp [CO]
theorem CO_at {o : List Int} {n k i : Nat} (h : i < n) : (CO o n k).getD i 0 = ps o (i : Int) k := by simp [CO, List.getD, h]
theorem CO_zero (o : List Int) (n : Nat) : CO o n 0 = List.replicate n (-1) := by
  refine List.ext_getElem (by simp [CO]) fun i h1 h2 => ?_
  simp [CO, ps]
theorem CO_put {o : List Int} {n k : Nat} (h : 0 ≤ o.getD k 0 ∧ o.getD k 0 < (n : Int)) : (CO o n k).set (o.getD k 0).toNat (k : Int) = CO o n (k + 1) := by
  refine List.ext_getElem (by simp [CO]) fun i h1 h2 => ?_
  rw [List.getElem_set]
  simp only [CO, List.getElem_map, List.getElem_range, ps]
  by_cases e : o.getD k 0 = (i : Int)
  · rw [if_pos e, if_pos (by omega)]
  · rw [if_neg e, if_neg (by omega)]
/-- An order of levels, as numbers. -/
def ON (lv : List Int) : List Int := (OD lv).map fun (x : Nat) => (x : Int)
theorem ON_len (lv : List Int) : (ON lv).length = (OD lv).length := by simp [ON]
theorem ON_at {lv : List Int} {k : Nat} (h : k < (OD lv).length) : (ON lv).getD k 0 = ((OD lv).getD k 0 : Int) := by simp [ON, List.getD, h]
theorem OD_in {lv : List Int} {k : Nat} (h : k < (OD lv).length) : (OD lv).getD k 0 ∈ OD lv := by
  have : (OD lv).getD k 0 = (OD lv)[k] := by simp [List.getD, h]
  rw [this]
  exact List.getElem_mem h
theorem OD_once {lv : List Int} (h : Fo lv) {i j : Nat} (hi : i < (OD lv).length) (hj : j < (OD lv).length) (e : (OD lv).getD i 0 = (OD lv).getD j 0) : i = j := by
  have e1 : (OD lv).getD i 0 = (OD lv)[i] := by simp [List.getD, hi]
  have e2 : (OD lv).getD j 0 = (OD lv)[j] := by simp [List.getD, hj]
  exact (List.getElem_inj (OD_nodup h)).1 (by rw [← e1, ← e2, e])
theorem ON_orderly {lv : List Int} (h : Fo lv) : Orderly (ON lv) (lv.length : Int) (ON lv).length := by
  refine ⟨fun i hi => ?_, fun i j hij hj => ?_⟩
  · rw [ON_len] at hi
    rw [ON_at hi]
    have := OD_lt h (OD_in hi)
    omega
  · rw [ON_len] at hj
    rw [ON_at (by omega), ON_at hj]
    intro e
    have := OD_once h (i := i) (j := j) (by omega) hj (by omega)
    omega
theorem seen_col {lv : List Int} (h : Fo lv) {i : Nat} (hi : sn lv i = true) : ∃ k, k < (OD lv).length ∧ (OD lv).getD k 0 = i ∧ ps (ON lv) (i : Int) (ON lv).length = (k : Int) := by
  obtain ⟨h1, h2⟩ := cnt_lt h hi
  refine ⟨cnt lv i lv.length, h1, h2, ?_⟩
  have := ps_at (ON_orderly h) (j := cnt lv i lv.length) (by rw [ON_len]; exact h1)
  rw [ON_at h1, h2] at this
  exact this
theorem unseen_col {lv : List Int} (h : Fo lv) {i : Nat} (hi : sn lv i = false) : ps (ON lv) (i : Int) (ON lv).length = -1 := by
  refine ps_none fun j hj e => ?_
  rw [ON_len] at hj
  rw [ON_at hj] at e
  have hm := ((OD_vis h).mem _).1 (OD_in hj)
  rw [show (OD lv).getD j 0 = i by omega, hi] at hm
  cases hm
/-- How many are seen of the first k. -/
def sc (lv : List Int) : Nat → Nat
  | 0 => 0
  | k + 1 => if 0 ≤ lv.getD k 0 then sc lv k + 1 else sc lv k
theorem sc_filter (lv : List Int) : ∀ k, k ≤ lv.length → sc lv k = ((List.range k).filter (sn lv)).length
  | 0, _ => rfl
  | k + 1, h => by
    rw [sc, List.range_succ, List.filter_append, List.length_append, ← sc_filter lv k (by omega)]
    by_cases h1 : 0 ≤ lv.getD k 0
    · rw [if_pos h1]; simp [sn_of h1 (by omega)]
    · rw [if_neg h1]
      have : sn lv k = false := by unfold sn; exact decide_eq_false fun q => h1 q.2
      simp [this]
theorem sc_OD (lv : List Int) : sc lv lv.length = (OD lv).length := by
  rw [sc_filter lv _ (Nat.le_refl _), OD_len]
  rfl
theorem sc_le (lv : List Int) : ∀ k, sc lv k ≤ k
  | 0 => Nat.le_refl _
  | k + 1 => by have := sc_le lv k; rw [sc]; split <;> omega
/-- Runs: the pieces that lie behind k rounds, and where the next one begins. -/
def rn (lv : List Int) (l : List Nat) : Nat → List (Nat × Nat) × Nat
  | 0 => ([], 0)
  | k + 1 => if k + 1 = l.length ∨ ¬ lv.getD (l.getD (k + 1) 0) 0 = lv.getD (l.getD k 0) 0 then ((rn lv l k).1 ++ [((rn lv l k).2, k + 1)], k + 1) else rn lv l k
section
variable {lv : List Int} {l : List Nat}
theorem rn_cut {k : Nat} (h : k + 1 = l.length ∨ ¬ lv.getD (l.getD (k + 1) 0) 0 = lv.getD (l.getD k 0) 0) : rn lv l (k + 1) = ((rn lv l k).1 ++ [((rn lv l k).2, k + 1)], k + 1) := by rw [rn, if_pos h]
theorem rn_on {k : Nat} (h : ¬ (k + 1 = l.length ∨ ¬ lv.getD (l.getD (k + 1) 0) 0 = lv.getD (l.getD k 0) 0)) : rn lv l (k + 1) = rn lv l k := by rw [rn, if_neg h]
theorem rn_le : ∀ k, (rn lv l k).2 ≤ k
  | 0 => Nat.le_refl _
  | k + 1 => by
    rw [rn]
    split
    · exact Nat.le_refl _
    · have : (rn lv l k).2 ≤ k := rn_le k; omega
theorem rn_end (h : 0 < l.length) : (rn lv l l.length).2 = l.length := by
  obtain ⟨k, hk⟩ : ∃ k, l.length = k + 1 := ⟨l.length - 1, by omega⟩
  rw [hk, rn_cut (.inl hk.symm)]
theorem rn_in : ∀ k p, p ∈ (rn lv l k).1 → p.1 < p.2 ∧ p.2 ≤ (rn lv l k).2
  | 0, p, h => by simp [rn] at h
  | k + 1, p, h => by
    by_cases hc : k + 1 = l.length ∨ ¬ lv.getD (l.getD (k + 1) 0) 0 = lv.getD (l.getD k 0) 0
    · rw [rn_cut hc] at h ⊢
      rcases List.mem_append.1 h with h | h
      · have := rn_in k p h
        have h3 : (rn lv l k).2 ≤ k := rn_le k
        exact ⟨this.1, by simp only; omega⟩
      · rw [List.mem_singleton] at h
        subst h
        have h3 : (rn lv l k).2 ≤ k := rn_le k
        exact ⟨by simp only; omega, Nat.le_refl _⟩
    · rw [rn_on hc] at h ⊢
      exact rn_in k p h
/-- One piece. -/
def pc (l : List Nat) (p : Nat × Nat) : List Nat := (l.take p.2).drop p.1
theorem pc_len {p : Nat × Nat} (h : p.1 < p.2) (h2 : p.2 ≤ l.length) : (pc l p).length = p.2 - p.1 := by unfold pc; rw [List.length_drop, List.length_take]; omega
theorem rn_flat : ∀ k, k ≤ l.length → ((rn lv l k).1.map (pc l)).flatten = l.take (rn lv l k).2
  | 0, _ => by simp [rn]
  | k + 1, h => by
    by_cases hc : k + 1 = l.length ∨ ¬ lv.getD (l.getD (k + 1) 0) 0 = lv.getD (l.getD k 0) 0
    · rw [rn_cut hc, List.map_append, List.flatten_append, rn_flat k (by omega)]
      have h3 : (rn lv l k).2 ≤ k := rn_le k
      simp only [List.map_cons, List.map_nil, List.flatten_cons, List.flatten_nil, List.append_nil]
      unfold pc
      simp only
      rw [show l.take (rn lv l k).2 = (l.take (k + 1)).take (rn lv l k).2 by rw [List.take_take, Nat.min_eq_left (by omega)], List.take_append_drop]
    · rw [rn_on hc]
      exact rn_flat k (by omega)
theorem rn_all : ((rn lv l l.length).1.map (pc l)).flatten = l := by
  rw [rn_flat _ (Nat.le_refl _)]
  rcases Nat.eq_zero_or_pos l.length with h | h
  · rw [List.length_eq_zero_iff] at h
    subst h
    rfl
  · rw [rn_end h, List.take_length]
end
end Od
end Go.Proofs.Ytmcbldllbnjipaa
