/- Weak types: plain mathematics. No Go in sight. -/
import Derived.Test.YtkajiagflcflpaaLists
namespace Go.Proofs.Ytkajiagflcflpaa.We
set_option linter.unusedVariables false
/-- What a mark becomes behind a type. -/
def mk (a : Int) : Int := if a = 20 ∨ a = 21 ∨ a = 22 ∨ a = 23 then 14 else a
/-- The strong type ahead of a place. -/
def strong (t : List Int) (s : Int) : Nat → Int
  | 0 => s
  | i + 1 => if t.getD i 0 = 1 ∨ t.getD i 0 = 2 ∨ t.getD i 0 = 3 then t.getD i 0 else strong t s i
/-- The type ahead of the stretch of ET that ends ahead of a place. -/
def lf (t : List Int) : Nat → Int
  | 0 => 0
  | i + 1 => if t.getD i 0 = 6 then lf t i else t.getD i 0
/-- The first type that is not ET. -/
def rt : List Int → Int
  | [] => 0
  | x :: l => if x = 6 then rt l else x
/-- The type of a place behind a rule; p: the one ahead, behind the rule. -/
def one (r : Nat) (s : Int) (t : List Int) (i : Nat) (p : Int) : Int :=
  match r with
  | 1 => if t.getD i 0 = 9 then mk p else t.getD i 0
  | 2 => if t.getD i 0 = 4 ∧ strong t s i = 3 then 7 else t.getD i 0
  | 3 => if t.getD i 0 = 3 then 2 else t.getD i 0
  | 4 => if p = t.getD (i + 1) 0 ∧ ((t.getD i 0 = 5 ∧ t.getD (i + 1) 0 = 4) ∨ (t.getD i 0 = 8 ∧ (t.getD (i + 1) 0 = 4 ∨ t.getD (i + 1) 0 = 7))) then t.getD (i + 1) 0 else t.getD i 0
  | 5 => if t.getD i 0 = 6 ∧ (lf t i = 4 ∨ rt (t.drop i) = 4) then 4 else t.getD i 0
  | 6 => if t.getD i 0 = 5 ∨ t.getD i 0 = 6 ∨ t.getD i 0 = 8 then 14 else t.getD i 0
  | 7 => if t.getD i 0 = 4 ∧ strong t s i = 1 then 1 else t.getD i 0
  | _ => t.getD i 0
/-- The type just ahead of a place, behind a rule. -/
def pv (r : Nat) (s : Int) (t : List Int) : Nat → Int
  | 0 => s
  | i + 1 => one r s t i (pv r s t i)
theorem pv_succ (r : Nat) (s : Int) (t : List Int) (i : Nat) : pv r s t (i + 1) = one r s t i (pv r s t i) := rfl
def R (r : Nat) (s : Int) (t : List Int) : List Int := (List.range t.length).map fun i => pv r s t (i + 1)
/-- The types on the way. -/
def P (r : Nat) (s : Int) (t : List Int) (k : Nat) : List Int := (List.range t.length).map fun i => if i < k then pv r s t (i + 1) else t.getD i 0
theorem getD_map (n : Nat) (f : Nat → Int) (i : Nat) (h : i < n) : ((List.range n).map f).getD i 0 = f i := by
  simp [List.getD, h]
theorem getD_out {l : List Int} {i : Nat} (h : l.length ≤ i) : l.getD i 0 = 0 := by
  simp [List.getD, List.getElem?_eq_none h]
theorem ext_getD {a b : List Int} (hl : a.length = b.length) (h : ∀ i, i < a.length → a.getD i 0 = b.getD i 0) : a = b := by
  apply List.ext_getElem hl
  intro i h1 h2
  have := h i h1
  simpa [List.getD, List.getElem?_eq_getElem h1, List.getElem?_eq_getElem h2] using this
theorem R_len (r : Nat) (s : Int) (t : List Int) : (R r s t).length = t.length := by simp [R]
theorem P_len (r : Nat) (s : Int) (t : List Int) (k : Nat) : (P r s t k).length = t.length := by simp [P]
theorem R_at {r : Nat} {s : Int} {t : List Int} {i : Nat} (h : i < t.length) : (R r s t).getD i 0 = pv r s t (i + 1) := getD_map _ _ _ h
theorem P_at {r : Nat} {s : Int} {t : List Int} {k i : Nat} (h : i < t.length) : (P r s t k).getD i 0 = if i < k then pv r s t (i + 1) else t.getD i 0 := getD_map _ _ _ h
theorem P_zero (r : Nat) (s : Int) (t : List Int) : P r s t 0 = t := by
  refine ext_getD (P_len _ _ _ _) fun i hi => ?_
  rw [P_len] at hi
  rw [P_at hi, if_neg (Nat.not_lt_zero _)]
theorem P_end {r : Nat} {s : Int} {t : List Int} {k : Nat} (h : t.length ≤ k) : P r s t k = R r s t := by
  refine ext_getD (by rw [P_len, R_len]) fun i hi => ?_
  rw [P_len] at hi
  rw [P_at hi, if_pos (by omega), R_at hi]
theorem getD_set (l : List Int) (i j : Nat) (y : Int) (hi : i < l.length) : (l.set i y).getD j 0 = if i = j then y else l.getD j 0 := by
  by_cases h : i = j
  · subst h; simp [List.getD, hi]
  · rw [if_neg h]; simp [List.getD, List.getElem?_set_ne h]
theorem P_set {r : Nat} {s : Int} {t : List Int} {k : Nat} (h : k < t.length) : P r s t (k + 1) = (P r s t k).set k (pv r s t (k + 1)) := by
  refine ext_getD (by rw [List.length_set, P_len, P_len]) fun i hi => ?_
  rw [P_len] at hi
  rw [P_at hi, getD_set _ _ _ _ (by rw [P_len]; exact h), P_at hi]
  by_cases h1 : k = i
  · rw [if_pos h1, if_pos (by omega), h1]
  · rw [if_neg h1]
    by_cases h2 : i < k
    · rw [if_pos h2, if_pos (by omega)]
    · rw [if_neg h2, if_neg (by omega)]
/-- Places that a rule leaves as they are. -/
theorem P_skip {r : Nat} {s : Int} {t : List Int} {k m : Nat} (hkm : k ≤ m) (h : ∀ i, i < t.length → k ≤ i → i < m → pv r s t (i + 1) = t.getD i 0) : P r s t m = P r s t k := by
  refine ext_getD (by rw [P_len, P_len]) fun i hi => ?_
  rw [P_len] at hi
  rw [P_at hi, P_at hi]
  by_cases h1 : i < k
  · rw [if_pos h1, if_pos (by omega)]
  · rw [if_neg h1]
    by_cases h2 : i < m
    · rw [if_pos h2, h i hi (by omega) h2]
    · rw [if_neg h2]
theorem P_same {r : Nat} {s : Int} {t : List Int} {k : Nat} (h : pv r s t (k + 1) = t.getD k 0) : P r s t (k + 1) = P r s t k :=
  P_skip (by omega) fun i _ h1 h2 => by rw [show i = k by omega]; exact h
theorem P_here {r : Nat} {s : Int} {t : List Int} {k i : Nat} (h : i < t.length) (hk : k ≤ i) : (P r s t k).getD i 0 = t.getD i 0 := by rw [P_at h, if_neg (by omega)]
theorem P_last {r : Nat} {s : Int} {t : List Int} {k : Nat} (h : k < t.length) : (P r s t (k + 1)).getD k 0 = pv r s t (k + 1) := by rw [P_at h, if_pos (by omega)]
/-- Types that may be. -/
def May (x : Int) : Prop := 1 ≤ x ∧ x ≤ 23 ∧ ¬ x = 10 ∧ ¬ x = 15 ∧ ¬ x = 16 ∧ ¬ x = 17 ∧ ¬ x = 18 ∧ ¬ x = 19
instance (x : Int) : Decidable (May x) := by unfold May; exact inferInstance
def Ok (t : List Int) : Prop := ∀ i, i < t.length → May (t.getD i 0)
def Side (s : Int) : Prop := s = 1 ∨ s = 2
theorem may_mk {a : Int} (h : May a) : May (mk a) := by
  unfold mk
  split
  · unfold May; decide
  · exact h
theorem may_one {r : Nat} {s : Int} {t : List Int} {i : Nat} {p : Int} (hp : May p) (hx : May (t.getD i 0)) : May (one r s t i p) := by
  have h1 : May 1 := by unfold May; decide
  have h2 : May 2 := by unfold May; decide
  have h4 : May 4 := by unfold May; decide
  have h7 : May 7 := by unfold May; decide
  have h14 : May 14 := by unfold May; decide
  unfold one
  split
  · split
    · exact may_mk hp
    · exact hx
  · split
    · exact h7
    · exact hx
  · split
    · exact h2
    · exact hx
  · split
    · rename_i h
      rcases h.2 with h | ⟨_, h | h⟩
      · rw [h.2]; exact h4
      · rw [h]; exact h4
      · rw [h]; exact h7
    · exact hx
  · split
    · exact h4
    · exact hx
  · split
    · exact h14
    · exact hx
  · split
    · exact h1
    · exact hx
  · exact hx
theorem may_pv {r : Nat} {s : Int} {t : List Int} (hs : Side s) (ht : Ok t) : ∀ i, i ≤ t.length → May (pv r s t i) := by
  intro i
  induction i with
  | zero =>
    intro _
    rcases hs with rfl | rfl
    · show May 1; unfold May; decide
    · show May 2; unfold May; decide
  | succ i ih => intro h; rw [pv_succ]; exact may_one (ih (by omega)) (ht i (by omega))
theorem Ok.R {r : Nat} {s : Int} {t : List Int} (hs : Side s) (ht : Ok t) : Ok (R r s t) := by
  intro i hi
  rw [R_len] at hi
  rw [R_at hi]
  exact may_pv hs ht _ (by omega)
/-- Behind the first k rules. -/
def RR (s : Int) (t : List Int) : Nat → List Int
  | 0 => t
  | k + 1 => R (k + 1) s (RR s t k)
theorem RR_succ (s : Int) (t : List Int) (k : Nat) : RR s t (k + 1) = R (k + 1) s (RR s t k) := rfl
theorem RR_len (s : Int) (t : List Int) (k : Nat) : (RR s t k).length = t.length := by
  induction k with
  | zero => rfl
  | succ k ih => rw [RR_succ, R_len, ih]
theorem Ok.RR {s : Int} {t : List Int} (hs : Side s) (ht : Ok t) (k : Nat) : Ok (RR s t k) := by
  induction k with
  | zero => exact ht
  | succ k ih => rw [RR_succ]; exact ih.R hs
/-- Rule 4 leaves the first place and the last one as they are. -/
theorem four_first {s : Int} {t : List Int} (hs : Side s) : pv 4 s t 1 = t.getD 0 0 := by
  show one 4 s t 0 s = _
  unfold one
  simp only
  rw [if_neg]
  intro h
  unfold Side at hs
  omega
theorem four_last {s : Int} {t : List Int} {i : Nat} (hi : t.length ≤ i + 1) : pv 4 s t (i + 1) = t.getD i 0 := by
  rw [pv_succ]
  unfold one
  simp only
  rw [if_neg]
  intro h
  rw [getD_out hi] at h
  omega
/-- Rule 5, by stretches. -/
structure Str (t : List Int) (f e : Nat) : Prop where
  lt : f < e
  le : e ≤ t.length
  all : ∀ i, f ≤ i → i < e → t.getD i 0 = t.getD f 0
  out : e < t.length → ¬ t.getD e 0 = t.getD f 0
theorem lf_str {t : List Int} {f : Nat} : ∀ i, f ≤ i → (∀ j, f ≤ j → j < i → t.getD j 0 = 6) → lf t i = lf t f := by
  intro i
  induction i with
  | zero => intro h _; rw [show f = 0 by omega]
  | succ i ih =>
    intro h hj
    by_cases he : f = i + 1
    · rw [he]
    · rw [lf, if_pos (hj i (by omega) (by omega)), ih (by omega) (fun j h1 h2 => hj j h1 (by omega))]
theorem drop_cons {t : List Int} {i : Nat} (h : i < t.length) : t.drop i = t.getD i 0 :: t.drop (i + 1) := by
  rw [List.drop_eq_getElem_cons h]
  simp [List.getD, List.getElem?_eq_getElem h]
theorem rt_str {t : List Int} {e : Nat} (he : e ≤ t.length) : ∀ k i, i + k = e → (∀ j, i ≤ j → j < e → t.getD j 0 = 6) → rt (t.drop i) = rt (t.drop e) := by
  intro k
  induction k with
  | zero => intro i h _; rw [show i = e by omega]
  | succ k ih =>
    intro i h hj
    rw [drop_cons (show i < t.length by omega), rt, if_pos (hj i (Nat.le_refl _) (by omega))]
    exact ih (i + 1) (by omega) (fun j h1 h2 => hj j (by omega) h2)
theorem rt_here {t : List Int} {e : Nat} (h : ¬ t.getD e 0 = 6) : rt (t.drop e) = t.getD e 0 := by
  by_cases he : e < t.length
  · rw [drop_cons he, rt, if_neg h]
  · rw [List.drop_of_length_le (by omega), getD_out (by omega)]; rfl
theorem lf_here {t : List Int} {f : Nat} (h : ¬ t.getD f 0 = 6) : lf t (f + 1) = t.getD f 0 := by rw [lf, if_neg h]
/-- What stands about a stretch of ET. -/
def Hit (t : List Int) (f e : Nat) : Prop := t.getD f 0 = 6 ∧ ((0 < f ∧ t.getD (f - 1) 0 = 4) ∨ t.getD e 0 = 4)
/-- Ahead of this place a stretch ends. -/
def Edge (t : List Int) (f : Nat) : Prop := ∀ j, j + 1 = f → f < t.length → ¬ t.getD j 0 = t.getD f 0
theorem five_out {s : Int} {t : List Int} {i : Nat} (h : ¬ t.getD i 0 = 6) : pv 5 s t (i + 1) = t.getD i 0 := by
  rw [pv_succ]; unfold one; simp only; rw [if_neg (fun h1 => h h1.1)]
theorem five_at {s : Int} {t : List Int} {f e i : Nat} (hS : Str t f e) (hE : Edge t f) (hf : t.getD f 0 = 6) (h1 : f ≤ i) (h2 : i < e) : (lf t i = 4 ∨ rt (t.drop i) = 4) ↔ ((0 < f ∧ t.getD (f - 1) 0 = 4) ∨ t.getD e 0 = 4) := by
  have hl : lf t i = lf t f := lf_str i h1 (fun j a b => by rw [hS.all j a (by omega), hf])
  have hr : rt (t.drop i) = rt (t.drop e) := rt_str hS.le (e - i) i (by omega) (fun j a b => by rw [hS.all j (by omega) b, hf])
  have he : ¬ t.getD e 0 = 6 := by
    by_cases hlt : e < t.length
    · have := hS.out hlt; rw [hf] at this; exact this
    · rw [getD_out (by omega)]; omega
  rw [hl, hr, rt_here he]
  cases f with
  | zero =>
    constructor
    · rintro (h | h)
      · exact absurd h (by unfold lf; decide)
      · exact .inr h
    · rintro (⟨h, _⟩ | h)
      · omega
      · exact .inr h
  | succ f =>
    have := hE f rfl (by have := hS.lt; have := hS.le; omega)
    rw [hf] at this
    rw [lf_here this, Nat.add_sub_cancel]
    constructor
    · rintro (h | h)
      · exact .inl ⟨by omega, h⟩
      · exact .inr h
    · rintro (⟨_, h⟩ | h)
      · exact .inl h
      · exact .inr h
theorem five_hit {s : Int} {t : List Int} {f e i : Nat} (hS : Str t f e) (hE : Edge t f) (hH : Hit t f e) (h1 : f ≤ i) (h2 : i < e) : pv 5 s t (i + 1) = 4 := by
  rw [pv_succ]; unfold one; simp only
  rw [if_pos ⟨by rw [hS.all i h1 h2]; exact hH.1, (five_at (s := s) hS hE hH.1 h1 h2).2 hH.2⟩]
theorem five_miss {s : Int} {t : List Int} {f e i : Nat} (hS : Str t f e) (hE : Edge t f) (hH : ¬ Hit t f e) (h1 : f ≤ i) (h2 : i < e) : pv 5 s t (i + 1) = t.getD i 0 := by
  rw [pv_succ]; unfold one; simp only
  rw [if_neg]
  rintro ⟨h3, h4⟩
  have hf : t.getD f 0 = 6 := by rw [← hS.all i h1 h2]; exact h3
  exact hH ⟨hf, (five_at (s := s) hS hE hf h1 h2).1 h4⟩
theorem edge_next {t : List Int} {f e : Nat} (hS : Str t f e) : Edge t e := by
  intro j hj hl h
  exact hS.out hl (by rw [← h]; exact hS.all j (by have := hS.lt; omega) (by omega))
theorem edge_zero (t : List Int) : Edge t 0 := by intro j hj; omega
/-- A stretch of places, all filled with one type. -/
def Fl (l : List Int) (f k : Nat) (y : Int) : List Int := (List.range l.length).map fun i => if f ≤ i ∧ i < f + k then y else l.getD i 0
theorem Fl_len (l : List Int) (f k : Nat) (y : Int) : (Fl l f k y).length = l.length := by simp [Fl]
theorem Fl_at {l : List Int} {f k i : Nat} {y : Int} (h : i < l.length) : (Fl l f k y).getD i 0 = if f ≤ i ∧ i < f + k then y else l.getD i 0 := getD_map _ _ _ h
theorem Fl_zero (l : List Int) (f : Nat) (y : Int) : Fl l f 0 y = l := by
  refine ext_getD (Fl_len _ _ _ _) fun i hi => ?_
  rw [Fl_len] at hi
  rw [Fl_at hi, if_neg (by omega)]
theorem Fl_succ {l : List Int} {f k : Nat} {y : Int} (h : f + k < l.length) : Fl l f (k + 1) y = (Fl l f k y).set (f + k) y := by
  refine ext_getD (by rw [List.length_set, Fl_len, Fl_len]) fun i hi => ?_
  rw [Fl_len] at hi
  rw [Fl_at hi, getD_set _ _ _ _ (by rw [Fl_len]; exact h), Fl_at hi]
  by_cases h1 : f + k = i
  · rw [if_pos h1, if_pos (by omega)]
  · rw [if_neg h1]
    by_cases h2 : f ≤ i ∧ i < f + k
    · rw [if_pos h2, if_pos (by omega)]
    · rw [if_neg h2, if_neg (by omega)]
theorem P_fill {s : Int} {t : List Int} {f e : Nat} (hS : Str t f e) (hE : Edge t f) (hH : Hit t f e) : P 5 s t e = Fl (P 5 s t f) f (e - f) 4 := by
  refine ext_getD (by rw [Fl_len, P_len, P_len]) fun i hi => ?_
  rw [P_len] at hi
  have hlt := hS.lt
  rw [P_at hi, Fl_at (by rw [P_len]; exact hi), P_at hi]
  by_cases h1 : i < f
  · rw [if_pos (by omega), if_neg (by omega), if_pos h1]
  · by_cases h2 : i < e
    · rw [if_pos h2, if_pos (by omega), five_hit hS hE hH (by omega) h2]
    · rw [if_neg h2, if_neg (by omega), if_neg h1]
theorem P_miss {s : Int} {t : List Int} {f e : Nat} (hS : Str t f e) (hE : Edge t f) (hH : ¬ Hit t f e) : P 5 s t e = P 5 s t f :=
  P_skip (by have := hS.lt; omega) fun i _ h1 h2 => five_miss hS hE hH h1 h2
/-- Just ahead of a stretch of ET the type is as it was. -/
theorem five_prev {s : Int} {t : List Int} {f : Nat} (hE : Edge t (f + 1)) (hl : f + 1 < t.length) (hf : t.getD (f + 1) 0 = 6) : pv 5 s t (f + 1) = t.getD f 0 :=
  five_out (by have := hE f rfl hl; rw [hf] at this; exact this)
end Go.Proofs.Ytkajiagflcflpaa.We
