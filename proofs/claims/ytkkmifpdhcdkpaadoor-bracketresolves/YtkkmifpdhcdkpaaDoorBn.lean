/- Plain mathematics of the types that brackets get. No Go in sight. -/
import Derived.Test.YtkkmifpdhcdkpaaDoorBm
namespace Go.Proofs.YtkkmifpdhcdkpaaDoor
set_option linter.unusedVariables false
namespace Br
/-- The places from a up to b get d. -/
def setR (T : List Int) (d : Int) (a b : Nat) : List Int := T.mapIdx fun j x => if a ≤ j ∧ j < b then d else x
theorem setR_len (T : List Int) (d : Int) (a b : Nat) : (setR T d a b).length = T.length := by simp [setR]
theorem setR_at (T : List Int) (d : Int) (a b j : Nat) : (setR T d a b).getD j 0 = if a ≤ j ∧ j < b ∧ j < T.length then d else T.getD j 0 := by
  unfold setR
  simp only [List.getD_eq_getElem?_getD, List.getElem?_mapIdx]
  by_cases h : j < T.length
  · rw [List.getElem?_eq_getElem h]
    by_cases h2 : a ≤ j ∧ j < b
    · simp [h2, h]
    · have : ¬ (a ≤ j ∧ j < b ∧ j < T.length) := fun h3 => h2 ⟨h3.1, h3.2.1⟩
      simp [h2, this]
  · rw [List.getElem?_eq_none (by omega)]
    have : ¬ (a ≤ j ∧ j < b ∧ j < T.length) := by omega
    simp [this]
theorem ext_getD {A B : List Int} (hl : A.length = B.length) (h : ∀ j, A.getD j 0 = B.getD j 0) : A = B := by
  refine List.ext_getElem hl fun j h1 h2 => ?_
  have := h j
  simp only [List.getD_eq_getElem?_getD, List.getElem?_eq_getElem h1, List.getElem?_eq_getElem h2, Option.getD_some] at this
  exact this
theorem set_at (T : List Int) (p j : Nat) (d : Int) : (T.set p d).getD j 0 = if p = j ∧ j < T.length then d else T.getD j 0 := by
  by_cases h : p = j
  · subst h
    by_cases h2 : p < T.length
    · simp [List.getD, h2]
    · simp [List.getD, h2, List.set_eq_of_length_le (show T.length ≤ p by omega)]
  · have : ¬ (p = j ∧ j < T.length) := fun h3 => h h3.1
    rw [if_neg this]; simp [List.getD, List.getElem?_set_ne h]
theorem setR_one (T : List Int) (d : Int) (p : Nat) : T.set p d = setR T d p (p + 1) := by
  refine ext_getD (by simp [setR_len]) fun j => ?_
  rw [set_at, setR_at]
  by_cases h : p = j ∧ j < T.length
  · rw [if_pos h, if_pos (by omega)]
  · rw [if_neg h, if_neg (by omega)]
theorem setR_snoc (T : List Int) (d : Int) (a b : Nat) (h : a ≤ b) : (setR T d a b).set b d = setR T d a (b + 1) := by
  refine ext_getD (by simp [setR_len]) fun j => ?_
  rw [set_at, setR_at, setR_at, setR_len]
  by_cases h1 : b = j ∧ j < T.length
  · rw [if_pos h1, if_pos (by omega)]
  · rw [if_neg h1]
    by_cases h2 : a ≤ j ∧ j < b ∧ j < T.length
    · rw [if_pos h2, if_pos (by omega)]
    · rw [if_neg h2, if_neg (by omega)]
/-- Up to where marks stand from i on. -/
def nx (was : List Int) (i : Nat) : Nat := i + ((was.drop i).takeWhile (· == 9)).length
theorem nx_stop {was : List Int} {i : Nat} (h : ¬ (i < was.length ∧ was.getD i 0 = 9)) : nx was i = i := by
  unfold nx
  by_cases hi : i < was.length
  · have h9 : ¬ was.getD i 0 = 9 := fun e => h ⟨hi, e⟩
    simp only [List.getD_eq_getElem?_getD, List.getElem?_eq_getElem hi, Option.getD_some] at h9
    have e : was.drop i = was[i] :: was.drop (i + 1) := List.drop_eq_getElem_cons hi
    rw [e, List.takeWhile_cons, if_neg (by simpa using h9)]; rfl
  · rw [List.drop_eq_nil_of_le (by omega)]; rfl
theorem nx_more {was : List Int} {i : Nat} (hi : i < was.length) (h9 : was.getD i 0 = 9) : nx was i = nx was (i + 1) := by
  unfold nx
  rw [List.drop_eq_getElem_cons hi]
  simp only [List.getD_eq_getElem?_getD, List.getElem?_eq_getElem hi, Option.getD_some] at h9
  simp [h9]; omega
theorem nx_le {was : List Int} {i : Nat} (h : i ≤ was.length) : i ≤ nx was i ∧ nx was i ≤ was.length := by
  unfold nx
  have := (List.takeWhile_sublist (fun x : Int => x == 9) (l := was.drop i)).length_le
  rw [List.length_drop] at this
  omega
theorem nx_in {was : List Int} {i j : Nat} (h1 : i ≤ j) (h2 : j < nx was i) : was.getD j 0 = 9 := by
  unfold nx at h2
  have hl := (List.takeWhile_sublist (fun x : Int => x == 9) (l := was.drop i)).length_le
  have hp := List.takeWhile_prefix (fun x : Int => x == 9) (l := was.drop i)
  have hj : j - i < ((was.drop i).takeWhile (· == 9)).length := by omega
  have hm := List.getElem_mem hj
  have hq := List.all_takeWhile (p := fun x : Int => x == 9) (l := was.drop i)
  have h9 := List.all_eq_true.1 hq _ hm
  have e := hp.getElem hj
  rw [e] at h9
  rw [List.length_drop] at hl
  have hlt : j < was.length := by omega
  simp only [List.getD_eq_getElem?_getD, List.getElem?_eq_getElem hlt, Option.getD_some]
  have e2 : (was.drop i)[j - i]'(by rw [List.length_drop]; omega) = was[j] := by
    rw [List.getElem_drop]; congr 1; omega
  rw [e2] at h9
  simpa using h9
/-- A bracket gets a type, and all marks on it. -/
def give (was T : List Int) (d : Int) (p : Nat) : List Int := setR T d p (nx was (p + 1))
theorem give_len (was T : List Int) (d : Int) (p : Nat) : (give was T d p).length = T.length := setR_len _ _ _ _
def two (was T : List Int) (d : Int) (p : Nat × Nat) : List Int := give was (give was T d p.1) d p.2
theorem two_len (was T : List Int) (d : Int) (p : Nat × Nat) : (two was T d p).length = T.length := by unfold two; rw [give_len, give_len]
/-- A type's side. -/
def sd (x : Int) : Int := if x = 1 then 1 else if x = 2 ∨ x = 4 ∨ x = 7 then 2 else 0
theorem sd_cases (x : Int) : sd x = 0 ∨ sd x = 1 ∨ sd x = 2 := by
  unfold sd
  by_cases h : x = 1
  · simp [h]
  · by_cases h2 : x = 2 ∨ x = 4 ∨ x = 7
    · simp [h, h2]
    · simp [h, h2]
def has (L : List Int) (s : Int) : Bool := L.any fun x => decide (sd x = s)
theorem has_snoc (L : List Int) (x s : Int) : has (L ++ [x]) s = (has L s || decide (sd x = s)) := by simp [has, List.any_append]
def ins (T : List Int) (p : Nat × Nat) : List Int := (T.drop (p.1 + 1)).take (p.2 - (p.1 + 1))
/-- The side of the last one of the first k that has one. -/
def ah (T : List Int) (s : Int) : Nat → Int
  | 0 => s
  | k + 1 => if sd (T.getD k 0) = 0 then ah T s k else sd (T.getD k 0)
/-- What a pair gets; 0: nothing. -/
def dr (T : List Int) (p : Nat × Nat) (e s : Int) : Int :=
  if has (ins T p) e = true then e else if has (ins T p) (3 - e) = true then (if ah T s p.1 = 3 - e then 3 - e else e) else 0
theorem dr_cases {T : List Int} {p : Nat × Nat} {e s : Int} (he : e = 1 ∨ e = 2) : dr T p e s = 0 ∨ dr T p e s = 1 ∨ dr T p e s = 2 := by
  unfold dr
  split
  · omega
  · split
    · split <;> omega
    · omega
def one (was : List Int) (e s : Int) (T : List Int) (p : Nat × Nat) : List Int := if dr T p e s = 0 then T else two was T (dr T p e s) p
theorem one_len (was : List Int) (e s : Int) (T : List Int) (p : Nat × Nat) : (one was e s T p).length = T.length := by
  unfold one; split
  · rfl
  · exact two_len _ _ _ _
/-- Behind some pairs. -/
def rs (was : List Int) (e s : Int) (T : List Int) (ps : List (Nat × Nat)) : List Int := ps.foldl (one was e s) T
theorem rs_len (was : List Int) (e s : Int) : ∀ (ps : List (Nat × Nat)) (T : List Int), (rs was e s T ps).length = T.length
  | [], T => rfl
  | p :: r, T => by
    rw [rs, List.foldl_cons]
    have := rs_len was e s r (one was e s T p)
    rw [rs] at this
    rw [this, one_len]
theorem rs_snoc (was : List Int) (e s : Int) (T : List Int) (ps : List (Nat × Nat)) (p : Nat × Nat) : rs was e s T (ps ++ [p]) = one was e s (rs was e s T ps) p := by simp [rs]
/-- The types that may be. -/
def may (x : Int) : Bool := x == 1 || x == 2 || x == 4 || x == 7 || x == 11 || x == 12 || x == 13 || x == 14 || x == 20 || x == 21 || x == 22 || x == 23
def es (lv : Int) : Int := if lv % 2 = 1 then 2 else 1
theorem es_cases (lv : Int) : es lv = 1 ∨ es lv = 2 := by unfold es; split <;> omega
/-- Which places may change: those that pairs give. -/
def fr (was : List Int) (n : Nat) (ps : List (Nat × Nat)) : List Int := ps.foldl (fun F p => two was F 1 p) (List.replicate n 0)
theorem fr_snoc (was : List Int) (n : Nat) (ps : List (Nat × Nat)) (p : Nat × Nat) : fr was n (ps ++ [p]) = two was (fr was n ps) 1 p := by simp [fr]
theorem fr_len (was : List Int) (n : Nat) (ps : List (Nat × Nat)) : (fr was n ps).length = n := by
  unfold fr
  suffices ∀ (ps : List (Nat × Nat)) (F : List Int), (ps.foldl (fun F p => two was F 1 p) F).length = F.length by rw [this]; simp
  intro ps
  induction ps with
  | nil => intro F; rfl
  | cons p r ih => intro F; rw [List.foldl_cons, ih, two_len]
theorem two_at (was T : List Int) (d : Int) (p : Nat × Nat) (j : Nat) : (two was T d p).getD j 0 = if (p.2 ≤ j ∧ j < nx was (p.2 + 1) ∨ p.1 ≤ j ∧ j < nx was (p.1 + 1)) ∧ j < T.length then d else T.getD j 0 := by
  unfold two give
  rw [setR_at, setR_len, setR_at]
  by_cases h1 : p.2 ≤ j ∧ j < nx was (p.2 + 1) ∧ j < T.length
  · rw [if_pos h1, if_pos ⟨.inl ⟨h1.1, h1.2.1⟩, h1.2.2⟩]
  · rw [if_neg h1]
    by_cases h2 : p.1 ≤ j ∧ j < nx was (p.1 + 1) ∧ j < T.length
    · rw [if_pos h2, if_pos ⟨.inr ⟨h2.1, h2.2.1⟩, h2.2.2⟩]
    · rw [if_neg h2, if_neg (by omega)]
/-- What is not free keeps its type. -/
theorem keeps (was : List Int) (e s : Int) (t : List Int) (ps : List (Nat × Nat)) (j : Nat) : (fr was t.length ps).getD j 0 = 0 → (rs was e s t ps).getD j 0 = t.getD j 0 := by
  suffices ∀ r : List (Nat × Nat), (fr was t.length r.reverse).getD j 0 = 0 → (rs was e s t r.reverse).getD j 0 = t.getD j 0 by
    have := this ps.reverse; rwa [List.reverse_reverse] at this
  intro r
  induction r with
  | nil => intro _; rfl
  | cons p r ih =>
    rw [List.reverse_cons, fr_snoc, rs_snoc]
    intro h
    rw [two_at, fr_len] at h
    by_cases hc : (p.2 ≤ j ∧ j < nx was (p.2 + 1) ∨ p.1 ≤ j ∧ j < nx was (p.1 + 1)) ∧ j < t.length
    · rw [if_pos hc] at h; cases h
    · rw [if_neg hc] at h
      have hi := ih h
      unfold one
      split
      · exact hi
      · rw [two_at, rs_len, if_neg hc]; exact hi
/-- Values stay among those that may be. -/
theorem among (was : List Int) (e s : Int) (he : e = 1 ∨ e = 2) (j : Nat) : ∀ (ps : List (Nat × Nat)) (t : List Int), (t.getD j 0 = 14 ∨ t.getD j 0 = 1 ∨ t.getD j 0 = 2) → ((rs was e s t ps).getD j 0 = 14 ∨ (rs was e s t ps).getD j 0 = 1 ∨ (rs was e s t ps).getD j 0 = 2)
  | [], t, h => h
  | p :: r, t, h => by
    rw [rs, List.foldl_cons, ← rs]
    refine among was e s he j r _ ?_
    unfold one
    by_cases h0 : dr t p e s = 0
    · rw [if_pos h0]; exact h
    · rw [if_neg h0, two_at]
      split
      · exact .inr ((dr_cases he).resolve_left h0)
      · exact h
/-- A place that was no mark is given by its own pair alone. -/
theorem not_given {was : List Int} {q : Nat × Nat} {j : Nat} (hj : ¬ was.getD j 0 = 9) (h1 : ¬ q.1 = j) (h2 : ¬ q.2 = j) : ¬ (q.2 ≤ j ∧ j < nx was (q.2 + 1) ∨ q.1 ≤ j ∧ j < nx was (q.1 + 1)) := by
  rintro (⟨h3, h4⟩ | ⟨h3, h4⟩)
  · exact hj (nx_in (i := q.2 + 1) (by omega) h4)
  · exact hj (nx_in (i := q.1 + 1) (by omega) h4)
theorem rs_other (was : List Int) (e s : Int) {j : Nat} (hj : ¬ was.getD j 0 = 9) : ∀ (ps : List (Nat × Nat)) (t : List Int), (∀ q ∈ ps, ¬ q.1 = j ∧ ¬ q.2 = j) → (rs was e s t ps).getD j 0 = t.getD j 0
  | [], t, _ => rfl
  | p :: r, t, h => by
    rw [rs, List.foldl_cons, ← rs, rs_other was e s hj r _ (fun q hq => h q (List.mem_cons_of_mem _ hq))]
    have hp := h p List.mem_cons_self
    unfold one
    split
    · rfl
    · rw [two_at, if_neg (fun h3 => not_given hj hp.1 hp.2 h3.1)]
/-- Both brackets of a pair have one type, if none was a mark. -/
theorem alike (was : List Int) (e s : Int) {p : Nat × Nat} (h1 : ¬ was.getD p.1 0 = 9) (h2 : ¬ was.getD p.2 0 = 9) : ∀ (ps : List (Nat × Nat)) (t : List Int), (ps.Pairwise fun a b => ¬ a.1 = b.1 ∧ ¬ a.1 = b.2 ∧ ¬ a.2 = b.1 ∧ ¬ a.2 = b.2) → p ∈ ps → p.1 < t.length → p.2 < t.length → p.2 < was.length → p.1 < was.length → t.getD p.1 0 = t.getD p.2 0 →
    (rs was e s t ps).getD p.1 0 = (rs was e s t ps).getD p.2 0
  | [], t, _, hm, _, _, _, _, _ => by cases hm
  | q :: r, t, hp, hm, hl1, hl2, hw2, hw1, ht => by
    rw [rs, List.foldl_cons, ← rs]
    obtain ⟨ha, hr⟩ := List.pairwise_cons.1 hp
    by_cases hq : p = q
    · subst hq
      rw [rs_other was e s h1 r _ (fun q hq => by have := ha q hq; omega), rs_other was e s h2 r _ (fun q hq => by have := ha q hq; omega)]
      unfold one
      split
      · exact ht
      · have n1 := (nx_le (was := was) (i := p.1 + 1) (by omega)).1
        have n2 := (nx_le (was := was) (i := p.2 + 1) (by omega)).1
        rw [two_at, two_at, if_pos ⟨.inr ⟨Nat.le_refl _, by omega⟩, hl1⟩, if_pos ⟨.inl ⟨Nat.le_refl _, by omega⟩, hl2⟩]
    · simp only [List.mem_cons] at hm
      have hm := hm.resolve_left hq
      have hx := ha p hm
      refine alike was e s h1 h2 r _ hr hm (by rw [one_len]; exact hl1) (by rw [one_len]; exact hl2) hw2 hw1 ?_
      unfold one
      split
      · exact ht
      · rw [two_at, two_at, if_neg (fun h3 => not_given h1 (by omega) (by omega) h3.1), if_neg (fun h3 => not_given h2 (by omega) (by omega) h3.1)]
        exact ht
theorem F_places {kd : Nat → Int} {mt : Nat → Nat → Bool} {n : Nat} : (PS kd mt n).Pairwise fun a b => ¬ a.1 = b.1 ∧ ¬ a.1 = b.2 ∧ ¬ a.2 = b.1 ∧ ¬ a.2 = b.2 := by
  have h := PS_rise (kd := kd) (mt := mt) (n := n)
  have hm := fun p (hp : p ∈ PS kd mt n) => mem_PS.1 hp
  refine h.imp_of_mem ?_
  intro a b ha hb hab
  have h1 := F_p a (hm a ha)
  have h2 := F_p b (hm b hb)
  rcases F_two (hm a ha) (hm b hb) with h3 | h3 | h3
  · rw [h3] at hab; omega
  · refine ⟨by omega, ?_, ?_, by omega⟩
    · intro e; have e1 := h1.2.2.1; have e2 := h2.2.2.2.1; rw [e] at e1; omega
    · intro e; have e1 := h1.2.2.2.1; have e2 := h2.2.2.1; rw [e] at e1; omega
  · refine ⟨by omega, ?_, ?_, by omega⟩
    · intro e; have e1 := h1.2.2.1; have e2 := h2.2.2.2.1; rw [e] at e1; omega
    · intro e; have e1 := h1.2.2.2.1; have e2 := h2.2.2.1; rw [e] at e1; omega
end Br
end Go.Proofs.YtkkmifpdhcdkpaaDoor
