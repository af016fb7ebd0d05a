import Derived.Test.YtmdmehopefgndaaGreatDoorZ01
/- Weak types: plain mathematics. No Go in sight. -/
namespace Go.Proofs.YtmdmehopefgndaaGreatDoor.We
set_option linter.unusedVariables false
/-- What a mark becomes behind a type. -/
def mk (a : Int) : Int := if a = 20 ∨ a = 21 ∨ a = 22 ∨ a = 23 then 14 else a
/-- The strong type ahead of a place. -/
def strong (t : List Int) (s : Int) : Nat → Int
  | 0 => s
  | i + 1 => if t.getD i 0 = 1 ∨ t.getD i 0 = 2 ∨ t.getD i 0 = 3 then t.getD i 0 else strong t s i
/-- The type ahead of the stretch of ET that ends ahead of a place. -/
def lf (t : List Int) : Nat → Int
  | 0 => 0
  | i + 1 => if t.getD i 0 = 6 then lf t i else t.getD i 0
/-- The first type that is not ET. -/
def rt : List Int → Int
  | [] => 0
  | x :: l => if x = 6 then rt l else x
/-- The type of a place behind a rule; p: the one ahead, behind the rule. -/
def one (r : Nat) (s : Int) (t : List Int) (i : Nat) (p : Int) : Int :=
  match r with
  | 1 => if t.getD i 0 = 9 then mk p else t.getD i 0
  | 2 => if t.getD i 0 = 4 ∧ strong t s i = 3 then 7 else t.getD i 0
  | 3 => if t.getD i 0 = 3 then 2 else t.getD i 0
  | 4 => if p = t.getD (i + 1) 0 ∧ ((t.getD i 0 = 5 ∧ t.getD (i + 1) 0 = 4) ∨ (t.getD i 0 = 8 ∧ (t.getD (i + 1) 0 = 4 ∨ t.getD (i + 1) 0 = 7))) then t.getD (i + 1) 0 else t.getD i 0
  | 5 => if t.getD i 0 = 6 ∧ (lf t i = 4 ∨ rt (t.drop i) = 4) then 4 else t.getD i 0
  | 6 => if t.getD i 0 = 5 ∨ t.getD i 0 = 6 ∨ t.getD i 0 = 8 then 14 else t.getD i 0
  | 7 => if t.getD i 0 = 4 ∧ strong t s i = 1 then 1 else t.getD i 0
  | _ => t.getD i 0
/-- The type just ahead of a place, behind a rule. -/
def pv (r : Nat) (s : Int) (t : List Int) : Nat → Int
  | 0 => s
  | i + 1 => one r s t i (pv r s t i)
theorem pv_succ (r : Nat) (s : Int) (t : List Int) (i : Nat) : pv r s t (i + 1) = one r s t i (pv r s t i) := rfl
def R (r : Nat) (s : Int) (t : List Int) : List Int := (List.range t.length).map fun i => pv r s t (i + 1)
/-- The types on the way. -/
def P (r : Nat) (s : Int) (t : List Int) (k : Nat) : List Int := (List.range t.length).map fun i => if i < k then pv r s t (i + 1) else t.getD i 0
theorem getD_map (n : Nat) (f : Nat → Int) (i : Nat) (h : i < n) : ((List.range n).map f).getD i 0 = f i := by
  simp [List.getD, h]
theorem getD_out {l : List Int} {i : Nat} (h : l.length ≤ i) : l.getD i 0 = 0 := by
  simp [List.getD, List.getElem?_eq_none h]
theorem ext_getD {a b : List Int} (hl : a.length = b.length) (h : ∀ i, i < a.length → a.getD i 0 = b.getD i 0) : a = b := by
  apply List.ext_getElem hl
  intro i h1 h2
  have := h i h1
  simpa [List.getD, List.getElem?_eq_getElem h1, List.getElem?_eq_getElem h2] using this
theorem R_len (r : Nat) (s : Int) (t : List Int) : (R r s t).length = t.length := by simp [R]
theorem P_len (r : Nat) (s : Int) (t : List Int) (k : Nat) : (P r s t k).length = t.length := by simp [P]
theorem R_at {r : Nat} {s : Int} {t : List Int} {i : Nat} (h : i < t.length) : (R r s t).getD i 0 = pv r s t (i + 1) := getD_map _ _ _ h
theorem P_at {r : Nat} {s : Int} {t : List Int} {k i : Nat} (h : i < t.length) : (P r s t k).getD i 0 = if i < k then pv r s t (i + 1) else t.getD i 0 := getD_map _ _ _ h
theorem P_zero (r : Nat) (s : Int) (t : List Int) : P r s t 0 = t := by
  refine ext_getD (P_len _ _ _ _) fun i hi => ?_
  rw [P_len] at hi
  rw [P_at hi, if_neg (Nat.not_lt_zero _)]
theorem P_end {r : Nat} {s : Int} {t : List Int} {k : Nat} (h : t.length ≤ k) : P r s t k = R r s t := by
  refine ext_getD (by rw [P_len, R_len]) fun i hi => ?_
  rw [P_len] at hi
  rw [P_at hi, if_pos (by omega), R_at hi]
theorem getD_set (l : List Int) (i j : Nat) (y : Int) (hi : i < l.length) : (l.set i y).getD j 0 = if i = j then y else l.getD j 0 := by
  by_cases h : i = j
  · subst h; simp [List.getD, hi]
  · rw [if_neg h]; simp [List.getD, List.getElem?_set_ne h]
theorem P_set {r : Nat} {s : Int} {t : List Int} {k : Nat} (h : k < t.length) : P r s t (k + 1) = (P r s t k).set k (pv r s t (k + 1)) := by
  refine ext_getD (by rw [List.length_set, P_len, P_len]) fun i hi => ?_
  rw [P_len] at hi
  rw [P_at hi, getD_set _ _ _ _ (by rw [P_len]; exact h), P_at hi]
  by_cases h1 : k = i
  · rw [if_pos h1, if_pos (by omega), h1]
  · rw [if_neg h1]
    by_cases h2 : i < k
    · rw [if_pos h2, if_pos (by omega)]
    · rw [if_neg h2, if_neg (by omega)]
/-- Places that a rule leaves as they are. -/
theorem P_skip {r : Nat} {s : Int} {t : List Int} {k m : Nat} (hkm : k ≤ m) (h : ∀ i, i < t.length → k ≤ i → i < m → pv r s t (i + 1) = t.getD i 0) : P r s t m = P r s t k := by
  refine ext_getD (by rw [P_len, P_len]) fun i hi => ?_
  rw [P_len] at hi
  rw [P_at hi, P_at hi]
  by_cases h1 : i < k
  · rw [if_pos h1, if_pos (by omega)]
  · rw [if_neg h1]
    by_cases h2 : i < m
    · rw [if_pos h2, h i hi (by omega) h2]
    · rw [if_neg h2]
theorem P_same {r : Nat} {s : Int} {t : List Int} {k : Nat} (h : pv r s t (k + 1) = t.getD k 0) : P r s t (k + 1) = P r s t k :=
  P_skip (by omega) fun i _ h1 h2 => by rw [show i = k by omega]; exact h
theorem P_here {r : Nat} {s : Int} {t : List Int} {k i : Nat} (h : i < t.length) (hk : k ≤ i) : (P r s t k).getD i 0 = t.getD i 0 := by rw [P_at h, if_neg (by omega)]
theorem P_last {r : Nat} {s : Int} {t : List Int} {k : Nat} (h : k < t.length) : (P r s t (k + 1)).getD k 0 = pv r s t (k + 1) := by rw [P_at h, if_pos (by omega)]
/-- Types that may be. -/
def May (x : Int) : Prop := 1 ≤ x ∧ x ≤ 23 ∧ ¬ x = 10 ∧ ¬ x = 15 ∧ ¬ x = 16 ∧ ¬ x = 17 ∧ ¬ x = 18 ∧ ¬ x = 19
instance (x : Int) : Decidable (May x) := by unfold May; exact inferInstance
def Ok (t : List Int) : Prop := ∀ i, i < t.length → May (t.getD i 0)
def Side (s : Int) : Prop := s = 1 ∨ s = 2
theorem may_mk {a : Int} (h : May a) : May (mk a) := by
  unfold mk
  split
  · unfold May; decide
  · exact h
theorem may_one {r : Nat} {s : Int} {t : List Int} {i : Nat} {p : Int} (hp : May p) (hx : May (t.getD i 0)) : May (one r s t i p) := by
  have h1 : May 1 := by unfold May; decide
  have h2 : May 2 := by unfold May; decide
  have h4 : May 4 := by unfold May; decide
  have h7 : May 7 := by unfold May; decide
  have h14 : May 14 := by unfold May; decide
  unfold one
  split
  · split
    · exact may_mk hp
    · exact hx
  · split
    · exact h7
    · exact hx
  · split
    · exact h2
    · exact hx
  · split
    · rename_i h
      rcases h.2 with h | ⟨_, h | h⟩
      · rw [h.2]; exact h4
      · rw [h]; exact h4
      · rw [h]; exact h7
    · exact hx
  · split
    · exact h4
    · exact hx
  · split
    · exact h14
    · exact hx
  · split
    · exact h1
    · exact hx
  · exact hx
theorem may_pv {r : Nat} {s : Int} {t : List Int} (hs : Side s) (ht : Ok t) : ∀ i, i ≤ t.length → May (pv r s t i) := by
  intro i
  induction i with
  | zero =>
    intro _
    rcases hs with rfl | rfl
    · show May 1; unfold May; decide
    · show May 2; unfold May; decide
  | succ i ih => intro h; rw [pv_succ]; exact may_one (ih (by omega)) (ht i (by omega))
theorem Ok.R {r : Nat} {s : Int} {t : List Int} (hs : Side s) (ht : Ok t) : Ok (R r s t) := by
  intro i hi
  rw [R_len] at hi
  rw [R_at hi]
  exact may_pv hs ht _ (by omega)
/-- Behind the first k rules. -/
def RR (s : Int) (t : List Int) : Nat → List Int
  | 0 => t
  | k + 1 => R (k + 1) s (RR s t k)
theorem RR_succ (s : Int) (t : List Int) (k : Nat) : RR s t (k + 1) = R (k + 1) s (RR s t k) := rfl
theorem RR_len (s : Int) (t : List Int) (k : Nat) : (RR s t k).length = t.length := by
  induction k with
  | zero => rfl
  | succ k ih => rw [RR_succ, R_len, ih]
theorem Ok.RR {s : Int} {t : List Int} (hs : Side s) (ht : Ok t) (k : Nat) : Ok (RR s t k) := by
  induction k with
  | zero => exact ht
  | succ k ih => rw [RR_succ]; exact ih.R hs
/-- Rule 4 leaves the first place and the last one as they are. -/
theorem four_first {s : Int} {t : List Int} (hs : Side s) : pv 4 s t 1 = t.getD 0 0 := by
  show one 4 s t 0 s = _
  unfold one
  simp only
  rw [if_neg]
  intro h
  unfold Side at hs
  omega
theorem four_last {s : Int} {t : List Int} {i : Nat} (hi : t.length ≤ i + 1) : pv 4 s t (i + 1) = t.getD i 0 := by
  rw [pv_succ]
  unfold one
  simp only
  rw [if_neg]
  intro h
  rw [getD_out hi] at h
  omega
/-- Rule 5, by stretches. -/
structure Str (t : List Int) (f e : Nat) : Prop where
  lt : f < e
  le : e ≤ t.length
  all : ∀ i, f ≤ i → i < e → t.getD i 0 = t.getD f 0
  out : e < t.length → ¬ t.getD e 0 = t.getD f 0
theorem lf_str {t : List Int} {f : Nat} : ∀ i, f ≤ i → (∀ j, f ≤ j → j < i → t.getD j 0 = 6) → lf t i = lf t f := by
  intro i
  induction i with
  | zero => intro h _; rw [show f = 0 by omega]
  | succ i ih =>
    intro h hj
    by_cases he : f = i + 1
    · rw [he]
    · rw [lf, if_pos (hj i (by omega) (by omega)), ih (by omega) (fun j h1 h2 => hj j h1 (by omega))]
theorem drop_cons {t : List Int} {i : Nat} (h : i < t.length) : t.drop i = t.getD i 0 :: t.drop (i + 1) := by
  rw [List.drop_eq_getElem_cons h]
  simp [List.getD, List.getElem?_eq_getElem h]
theorem rt_str {t : List Int} {e : Nat} (he : e ≤ t.length) : ∀ k i, i + k = e → (∀ j, i ≤ j → j < e → t.getD j 0 = 6) → rt (t.drop i) = rt (t.drop e) := by
  intro k
  induction k with
  | zero => intro i h _; rw [show i = e by omega]
  | succ k ih =>
    intro i h hj
    rw [drop_cons (show i < t.length by omega), rt, if_pos (hj i (Nat.le_refl _) (by omega))]
    exact ih (i + 1) (by omega) (fun j h1 h2 => hj j (by omega) h2)
theorem rt_here {t : List Int} {e : Nat} (h : ¬ t.getD e 0 = 6) : rt (t.drop e) = t.getD e 0 := by
  by_cases he : e < t.length
  · rw [drop_cons he, rt, if_neg h]
  · rw [List.drop_of_length_le (by omega), getD_out (by omega)]; rfl
theorem lf_here {t : List Int} {f : Nat} (h : ¬ t.getD f 0 = 6) : lf t (f + 1) = t.getD f 0 := by rw [lf, if_neg h]
/-- What stands about a stretch of ET. -/
def Hit (t : List Int) (f e : Nat) : Prop := t.getD f 0 = 6 ∧ ((0 < f ∧ t.getD (f - 1) 0 = 4) ∨ t.getD e 0 = 4)
/-- Ahead of this place a stretch ends. -/
def Edge (t : List Int) (f : Nat) : Prop := ∀ j, j + 1 = f → f < t.length → ¬ t.getD j 0 = t.getD f 0
theorem five_out {s : Int} {t : List Int} {i : Nat} (h : ¬ t.getD i 0 = 6) : pv 5 s t (i + 1) = t.getD i 0 := by
  rw [pv_succ]; unfold one; simp only; rw [if_neg (fun h1 => h h1.1)]
theorem five_at {s : Int} {t : List Int} {f e i : Nat} (hS : Str t f e) (hE : Edge t f) (hf : t.getD f 0 = 6) (h1 : f ≤ i) (h2 : i < e) : (lf t i = 4 ∨ rt (t.drop i) = 4) ↔ ((0 < f ∧ t.getD (f - 1) 0 = 4) ∨ t.getD e 0 = 4) := by
  have hl : lf t i = lf t f := lf_str i h1 (fun j a b => by rw [hS.all j a (by omega), hf])
  have hr : rt (t.drop i) = rt (t.drop e) := rt_str hS.le (e - i) i (by omega) (fun j a b => by rw [hS.all j (by omega) b, hf])
  have he : ¬ t.getD e 0 = 6 := by
    by_cases hlt : e < t.length
    · have := hS.out hlt; rw [hf] at this; exact this
    · rw [getD_out (by omega)]; omega
  rw [hl, hr, rt_here he]
  cases f with
  | zero =>
    constructor
    · rintro (h | h)
      · exact absurd h (by unfold lf; decide)
      · exact .inr h
    · rintro (⟨h, _⟩ | h)
      · omega
      · exact .inr h
  | succ f =>
    have := hE f rfl (by have := hS.lt; have := hS.le; omega)
    rw [hf] at this
    rw [lf_here this, Nat.add_sub_cancel]
    constructor
    · rintro (h | h)
      · exact .inl ⟨by omega, h⟩
      · exact .inr h
    · rintro (⟨_, h⟩ | h)
      · exact .inl h
      · exact .inr h
theorem five_hit {s : Int} {t : List Int} {f e i : Nat} (hS : Str t f e) (hE : Edge t f) (hH : Hit t f e) (h1 : f ≤ i) (h2 : i < e) : pv 5 s t (i + 1) = 4 := by
  rw [pv_succ]; unfold one; simp only
  rw [if_pos ⟨by rw [hS.all i h1 h2]; exact hH.1, (five_at (s := s) hS hE hH.1 h1 h2).2 hH.2⟩]
theorem five_miss {s : Int} {t : List Int} {f e i : Nat} (hS : Str t f e) (hE : Edge t f) (hH : ¬ Hit t f e) (h1 : f ≤ i) (h2 : i < e) : pv 5 s t (i + 1) = t.getD i 0 := by
  rw [pv_succ]; unfold one; simp only
  rw [if_neg]
  rintro ⟨h3, h4⟩
  have hf : t.getD f 0 = 6 := by rw [← hS.all i h1 h2]; exact h3
  exact hH ⟨hf, (five_at (s := s) hS hE hf h1 h2).1 h4⟩
theorem edge_next {t : List Int} {f e : Nat} (hS : Str t f e) : Edge t e := by
  intro j hj hl h
  exact hS.out hl (by rw [← h]; exact hS.all j (by have := hS.lt; omega) (by omega))
theorem edge_zero (t : List Int) : Edge t 0 := by intro j hj; omega
/-- A stretch of places, all filled with one type. -/
def Fl (l : List Int) (f k : Nat) (y : Int) : List Int := (List.range l.length).map fun i => if f ≤ i ∧ i < f + k then y else l.getD i 0
theorem Fl_len (l : List Int) (f k : Nat) (y : Int) : (Fl l f k y).length = l.length := by simp [Fl]
theorem Fl_at {l : List Int} {f k i : Nat} {y : Int} (h : i < l.length) : (Fl l f k y).getD i 0 = if f ≤ i ∧ i < f + k then y else l.getD i 0 := getD_map _ _ _ h
theorem Fl_zero (l : List Int) (f : Nat) (y : Int) : Fl l f 0 y = l := by
  refine ext_getD (Fl_len _ _ _ _) fun i hi => ?_
  rw [Fl_len] at hi
  rw [Fl_at hi, if_neg (by omega)]
theorem Fl_succ {l : List Int} {f k : Nat} {y : Int} (h : f + k < l.length) : Fl l f (k + 1) y = (Fl l f k y).set (f + k) y := by
  refine ext_getD (by rw [List.length_set, Fl_len, Fl_len]) fun i hi => ?_
  rw [Fl_len] at hi
  rw [Fl_at hi, getD_set _ _ _ _ (by rw [Fl_len]; exact h), Fl_at hi]
  by_cases h1 : f + k = i
  · rw [if_pos h1, if_pos (by omega)]
  · rw [if_neg h1]
    by_cases h2 : f ≤ i ∧ i < f + k
    · rw [if_pos h2, if_pos (by omega)]
    · rw [if_neg h2, if_neg (by omega)]
theorem P_fill {s : Int} {t : List Int} {f e : Nat} (hS : Str t f e) (hE : Edge t f) (hH : Hit t f e) : P 5 s t e = Fl (P 5 s t f) f (e - f) 4 := by
  refine ext_getD (by rw [Fl_len, P_len, P_len]) fun i hi => ?_
  rw [P_len] at hi
  have hlt := hS.lt
  rw [P_at hi, Fl_at (by rw [P_len]; exact hi), P_at hi]
  by_cases h1 : i < f
  · rw [if_pos (by omega), if_neg (by omega), if_pos h1]
  · by_cases h2 : i < e
    · rw [if_pos h2, if_pos (by omega), five_hit hS hE hH (by omega) h2]
    · rw [if_neg h2, if_neg (by omega), if_neg h1]
theorem P_miss {s : Int} {t : List Int} {f e : Nat} (hS : Str t f e) (hE : Edge t f) (hH : ¬ Hit t f e) : P 5 s t e = P 5 s t f :=
  P_skip (by have := hS.lt; omega) fun i _ h1 h2 => five_miss hS hE hH h1 h2
/-- Just ahead of a stretch of ET the type is as it was. -/
theorem five_prev {s : Int} {t : List Int} {f : Nat} (hE : Edge t (f + 1)) (hl : f + 1 < t.length) (hf : t.getD (f + 1) 0 = 6) : pv 5 s t (f + 1) = t.getD f 0 :=
  five_out (by have := hE f rfl hl; rw [hf] at this; exact this)
end Go.Proofs.YtmdmehopefgndaaGreatDoor.We

/- The mathematics of neutral: sides, what was met last on a way, the sides that neutral types get, implicit levels. -/
namespace Go.Proofs.YtmdmehopefgndaaGreatDoor
set_option linter.unusedVariables false
namespace Ne
/-- A type's side; 0: it has none. -/
def sd (x : Int) : Int := if x = 1 then 1 else if x = 2 ∨ x = 4 ∨ x = 7 then 2 else 0
/-- A neutral type. -/
def neu (x : Int) : Bool := x == 11 || x == 12 || x == 13 || x == 14 || x == 20 || x == 21 || x == 22 || x == 23
def May (x : Int) : Prop := sd x ≠ 0 ∨ neu x = true
instance (x : Int) : Decidable (May x) := inferInstanceAs (Decidable (_ ∨ _))
def Ok (t : List Int) : Prop := ∀ i, i < t.length → May (t.getD i 0)
/-- The side of a level. -/
def es (lv : Int) : Int := if lv % 2 = 1 then 2 else 1
/-- The side met last among the first k places. -/
def ah (t : List Int) (s : Int) : Nat → Int
  | 0 => s
  | k + 1 => if sd (t.getD k 0) = 0 then ah t s k else sd (t.getD k 0)
/-- A place's type behind the rules. -/
def r1 (t : List Int) (lv so eo : Int) (i : Nat) : Int :=
  if sd (t.getD i 0) = 0 then (if ah t so (i + 1) = ah t.reverse eo (t.length - i) then ah t so (i + 1) else es lv) else t.getD i 0
def RS (t : List Int) (lv so eo : Int) : List Int := (List.range t.length).map (r1 t lv so eo)
def Good (lv so eo : Int) : Prop := 0 ≤ lv ∧ lv ≤ 126 ∧ (so = 1 ∨ so = 2) ∧ (eo = 1 ∨ eo = 2)
theorem sd_cases (x : Int) : sd x = 0 ∨ sd x = 1 ∨ sd x = 2 := by
  unfold sd
  by_cases h1 : x = 1
  · rw [if_pos h1]; exact .inr (.inl rfl)
  · rw [if_neg h1]
    by_cases h2 : x = 2 ∨ x = 4 ∨ x = 7
    · rw [if_pos h2]; exact .inr (.inr rfl)
    · rw [if_neg h2]; exact .inl rfl
theorem es_cases (lv : Int) : es lv = 1 ∨ es lv = 2 := by
  unfold es
  by_cases h : lv % 2 = 1
  · rw [if_pos h]; exact .inr rfl
  · rw [if_neg h]; exact .inl rfl
theorem ah_zero (t : List Int) (s : Int) : ah t s 0 = s := rfl
theorem ah_succ (t : List Int) (s : Int) (k : Nat) : ah t s (k + 1) = if sd (t.getD k 0) = 0 then ah t s k else sd (t.getD k 0) := rfl
theorem ah_cases (t : List Int) (s : Int) (hs : s = 1 ∨ s = 2) : ∀ k, ah t s k = 1 ∨ ah t s k = 2
  | 0 => hs
  | k + 1 => by
    rw [ah_succ]
    by_cases h : sd (t.getD k 0) = 0
    · rw [if_pos h]; exact ah_cases t s hs k
    · rw [if_neg h]; exact (sd_cases _).resolve_left h
theorem getD_map' {β : Type} (n : Nat) (f : Nat → β) (z : β) {j : Nat} (hj : j < n) : ((List.range n).map f).getD j z = f j := by
  simp [List.getD, hj]
theorem RS_len (t : List Int) (lv so eo : Int) : (RS t lv so eo).length = t.length := by simp [RS]
theorem RS_at (t : List Int) (lv so eo : Int) {i : Nat} (hi : i < t.length) : (RS t lv so eo).getD i 0 = r1 t lv so eo i := getD_map' _ _ _ hi
theorem getD_rev (t : List Int) {j : Nat} (hj : j < t.length) : t.reverse.getD j 0 = t.getD (t.length - 1 - j) 0 := by
  simp only [List.getD]
  rw [List.getElem?_reverse hj]
/-- P11.3. -/
theorem keeps (t : List Int) (lv so eo : Int) (hso : so = 1 ∨ so = 2) {i : Nat} (hi : i < t.length) :
    (sd (t.getD i 0) ≠ 0 → (RS t lv so eo).getD i 0 = t.getD i 0) ∧ (sd (t.getD i 0) = 0 → (RS t lv so eo).getD i 0 = 1 ∨ (RS t lv so eo).getD i 0 = 2) := by
  rw [RS_at _ _ _ _ hi]
  unfold r1
  refine ⟨fun h => if_neg h, fun h => ?_⟩
  rw [if_pos h]
  by_cases h2 : ah t so (i + 1) = ah t.reverse eo (t.length - i)
  · rw [if_pos h2]; exact ah_cases t so hso _
  · rw [if_neg h2]; exact es_cases lv
theorem turned (t : List Int) (lv so eo : Int) {i : Nat} (hi : i < t.length) : (RS t.reverse lv eo so).getD (t.length - 1 - i) 0 = (RS t lv so eo).getD i 0 := by
  rw [RS_at _ _ _ _ hi, RS_at _ _ _ _ (by rw [List.length_reverse]; omega)]
  unfold r1
  rw [getD_rev t (show t.length - 1 - i < t.length by omega), show t.length - 1 - (t.length - 1 - i) = i by omega, List.reverse_reverse, List.length_reverse, show t.length - 1 - i + 1 = t.length - i by omega, show t.length - (t.length - 1 - i) = i + 1 by omega]
  by_cases h : sd (t.getD i 0) = 0
  · rw [if_pos h, if_pos h]
    by_cases h2 : ah t so (i + 1) = ah t.reverse eo (t.length - i)
    · rw [if_pos h2, if_pos h2.symm, h2]
    · rw [if_neg h2, if_neg (fun e => h2 e.symm)]
  · rw [if_neg h, if_neg h]
theorem ok_rev {t : List Int} (h : Ok t) : Ok t.reverse := by
  intro i hi
  rw [List.length_reverse] at hi
  rw [getD_rev t hi]
  exact h _ (by omega)
/-- What stands behind a place with a side, up to the next one. -/
theorem ah_from (t : List Int) (s p : Int) (h0 : sd (t.getD 0 0) = p) (hp : p ≠ 0) : ∀ k, (∀ j, 0 < j → j ≤ k → sd (t.getD j 0) = 0) → ah t s (k + 1) = p
  | 0, _ => by rw [ah_succ, h0, if_neg hp]
  | k + 1, h => by
    rw [ah_succ, if_pos (h (k + 1) (by omega) (Nat.le_refl _))]
    exact ah_from t s p h0 hp k (fun j h1 h2 => h j h1 (by omega))
/-- Neutral types between two that have a side. -/
theorem between (t : List Int) (lv so eo p q : Int) (n : Nat) (hl : t.length = n + 2) (h0 : sd (t.getD 0 0) = p) (hp : p ≠ 0) (h1 : sd (t.getD (n + 1) 0) = q) (hq : q ≠ 0) (hm : ∀ j, 0 < j → j ≤ n → sd (t.getD j 0) = 0)
    {i : Nat} (hi : 0 < i) (hin : i ≤ n) : (RS t lv so eo).getD i 0 = if p = q then p else es lv := by
  rw [RS_at _ _ _ _ (by omega)]
  unfold r1
  rw [if_pos (hm i hi hin), ah_from t so p h0 hp i (fun j a b => hm j a (by omega))]
  have e : ah t.reverse eo (t.length - i) = q := by
    rw [show t.length - i = (n + 1 - i) + 1 by omega]
    refine ah_from _ _ _ ?_ hq _ (fun j a b => ?_)
    · rw [getD_rev t (by omega), hl]; exact h1
    · rw [getD_rev t (by omega), hl]; exact hm _ (by omega) (by omega)
  rw [e]
/-- One place on a way: what was met last, and what was written. -/
def stp (a : Int × List Int) (x : Nat × Int) : Int × List Int := (if sd x.2 = 0 then a.1 else sd x.2, a.2.set x.1 (if sd x.2 = 0 then a.1 else sd x.2))
def nr (s : Int) (n : Nat) (pre : List (Nat × Int)) : Int × List Int := pre.foldl stp (s, List.replicate n 0)
theorem nr_nil (s : Int) (n : Nat) : nr s n [] = (s, List.replicate n 0) := rfl
theorem nr_snoc (s : Int) (n : Nat) (pre : List (Nat × Int)) (x : Nat × Int) : nr s n (pre ++ [x]) = stp (nr s n pre) x := by simp [nr, List.foldl_append]
theorem nr_len (s : Int) (n : Nat) (pre : List (Nat × Int)) : (nr s n pre).2.length = n := by
  have : ∀ (l : List (Nat × Int)) (a : Int × List Int), (l.foldl stp a).2.length = a.2.length := by
    intro l
    induction l with
    | nil => intro a; rfl
    | cons x l ih => intro a; rw [List.foldl_cons, ih]; simp [stp]
  rw [nr, this]; simp
/-- The way onward; the way back. -/
def ups (t : List Int) : List (Nat × Int) := (List.range t.length).map fun k => (k, t.getD k 0)
def downs (t : List Int) : List (Nat × Int) := (List.range t.length).map fun k => (t.length - 1 - k, t.getD (t.length - 1 - k) 0)
theorem ups_len (t : List Int) : (ups t).length = t.length := by simp [ups]
theorem downs_len (t : List Int) : (downs t).length = t.length := by simp [downs]
theorem ups_at (t : List Int) {k : Nat} (h : k < t.length) : (ups t)[k]? = some (k, t.getD k 0) := by simp [ups, h]
theorem downs_at (t : List Int) {k : Nat} (h : k < t.length) : (downs t)[k]? = some (t.length - 1 - k, t.getD (t.length - 1 - k) 0) := by simp [downs, h]
theorem take_snoc2 {α : Type} (l : List α) (k : Nat) (x : α) (h : l[k]? = some x) : l.take (k + 1) = l.take k ++ [x] := by
  obtain ⟨hk, hx⟩ := List.getElem?_eq_some_iff.1 h
  rw [List.take_succ_eq_append_getElem hk, hx]
theorem set_map (n : Nat) (f g : Nat → Int) (i : Nat) (y : Int) (hi : g i = y) (ho : ∀ j, j ≠ i → g j = f j) : ((List.range n).map f).set i y = (List.range n).map g := by
  apply List.ext_getElem?
  intro j
  by_cases h : i = j
  · subst h
    by_cases hl : i < n
    · rw [List.getElem?_set_self (by simpa using hl)]; simp [hl, hi]
    · rw [List.getElem?_eq_none (by simp; omega), List.getElem?_eq_none (by simp; omega)]
  · rw [List.getElem?_set_ne h]
    by_cases hl : j < n
    · simp [hl, ho j (fun e => h e.symm)]
    · rw [List.getElem?_eq_none (by simp; omega), List.getElem?_eq_none (by simp; omega)]
theorem rep_map (n : Nat) : List.replicate n (0 : Int) = (List.range n).map fun _ => (0 : Int) := by
  apply List.ext_getElem?
  intro j
  by_cases hl : j < n
  · simp [hl]
  · rw [List.getElem?_eq_none (by simp; omega), List.getElem?_eq_none (by simp; omega)]
theorem nr_ups (t : List Int) (s : Int) : ∀ k, k ≤ t.length → nr s t.length ((ups t).take k) = (ah t s k, (List.range t.length).map fun i => if i < k then ah t s (i + 1) else 0)
  | 0, _ => by
    rw [List.take_zero, nr_nil, rep_map]; rfl
  | k + 1, h => by
    rw [take_snoc2 _ _ _ (ups_at t (show k < t.length by omega)), nr_snoc, nr_ups t s k (by omega)]
    unfold stp
    refine Prod.ext (ah_succ t s k).symm ?_
    dsimp only
    refine set_map _ _ _ _ _ ?_ (fun j hj => ?_)
    · rw [if_pos (by omega)]; exact ah_succ t s k
    · by_cases hk : j < k
      · rw [if_pos hk, if_pos (by omega)]
      · rw [if_neg hk, if_neg (by omega)]
theorem nr_downs (t : List Int) (s : Int) : ∀ k, k ≤ t.length → nr s t.length ((downs t).take k) = (ah t.reverse s k, (List.range t.length).map fun i => if t.length - k ≤ i then ah t.reverse s (t.length - i) else 0)
  | 0, _ => by
    rw [List.take_zero, nr_nil, rep_map]
    refine Prod.ext rfl ?_
    dsimp only
    apply List.map_congr_left
    intro i hi
    rw [if_neg (by have := List.mem_range.1 hi; omega)]
  | k + 1, h => by
    have hk : k < t.length := by omega
    have ea := ah_succ t.reverse s k
    rw [getD_rev t hk] at ea
    rw [take_snoc2 _ _ _ (downs_at t hk), nr_snoc, nr_downs t s k (by omega)]
    unfold stp
    refine Prod.ext ea.symm ?_
    dsimp only
    refine set_map _ _ _ _ _ ?_ (fun j hj => ?_)
    · rw [if_pos (by omega), show t.length - (t.length - 1 - k) = k + 1 by omega]; exact ea
    · by_cases hk : t.length - k ≤ j
      · rw [if_pos hk, if_pos (by omega)]
      · rw [if_neg hk, if_neg (by omega)]
/-- What nearest answers. -/
def AH (t : List Int) (s : Int) : List Int := (List.range t.length).map fun i => ah t s (i + 1)
def BH (t : List Int) (s : Int) : List Int := (List.range t.length).map fun i => ah t.reverse s (t.length - i)
theorem AH_len (t : List Int) (s : Int) : (AH t s).length = t.length := by simp [AH]
theorem BH_len (t : List Int) (s : Int) : (BH t s).length = t.length := by simp [BH]
theorem AH_at (t : List Int) (s : Int) {i : Nat} (h : i < t.length) : (AH t s).getD i 0 = ah t s (i + 1) := getD_map' _ _ _ h
theorem BH_at (t : List Int) (s : Int) {i : Nat} (h : i < t.length) : (BH t s).getD i 0 = ah t.reverse s (t.length - i) := getD_map' _ _ _ h
theorem nr_all_ups (t : List Int) (s : Int) : (nr s t.length (ups t)).2 = AH t s := by
  have h := nr_ups t s t.length (Nat.le_refl _)
  rw [← ups_len t, List.take_length, ups_len] at h
  rw [h]
  unfold AH
  dsimp only
  apply List.map_congr_left
  intro i hi
  rw [if_pos (List.mem_range.1 hi)]
theorem nr_all_downs (t : List Int) (s : Int) : (nr s t.length (downs t)).2 = BH t s := by
  have h := nr_downs t s t.length (Nat.le_refl _)
  rw [← downs_len t, List.take_length, downs_len] at h
  rw [h]
  unfold BH
  dsimp only
  apply List.map_congr_left
  intro i hi
  rw [if_pos (by omega)]
/-- The first k types behind the rules, the others nought. -/
def RL (t : List Int) (lv so eo : Int) (k : Nat) : List Int := (List.range t.length).map fun i => if i < k then r1 t lv so eo i else 0
theorem RL_zero (t : List Int) (lv so eo : Int) : RL t lv so eo 0 = List.replicate t.length 0 := by
  rw [rep_map]; rfl
theorem RL_succ (t : List Int) (lv so eo : Int) (k : Nat) : (RL t lv so eo k).set k (r1 t lv so eo k) = RL t lv so eo (k + 1) := by
  refine set_map _ _ _ _ _ (if_pos (by omega)) (fun j hj => ?_)
  by_cases hk : j < k
  · rw [if_pos hk, if_pos (by omega)]
  · rw [if_neg hk, if_neg (by omega)]
theorem RL_all (t : List Int) (lv so eo : Int) : RL t lv so eo t.length = RS t lv so eo := by
  unfold RL RS
  apply List.map_congr_left
  intro i hi
  rw [if_pos (List.mem_range.1 hi)]
/-- Implicit levels. -/
def lv1 (lv x : Int) : Int := if lv % 2 = 0 then (if x = 1 then lv else if x = 2 then lv + 1 else lv + 2) else (if x = 2 then lv else lv + 1)
def LS (t : List Int) (lv : Int) : List Int := (List.range t.length).map fun i => lv1 lv (t.getD i 0)
def LL (t : List Int) (lv : Int) (k : Nat) : List Int := (List.range t.length).map fun i => if i < k then lv1 lv (t.getD i 0) else 0
theorem LS_len (t : List Int) (lv : Int) : (LS t lv).length = t.length := by simp [LS]
theorem LS_at (t : List Int) (lv : Int) {i : Nat} (hi : i < t.length) : (LS t lv).getD i 0 = lv1 lv (t.getD i 0) := getD_map' _ _ _ hi
theorem LL_zero (t : List Int) (lv : Int) : LL t lv 0 = List.replicate t.length 0 := by
  rw [rep_map]; rfl
theorem LL_succ (t : List Int) (lv : Int) (k : Nat) : (LL t lv k).set k (lv1 lv (t.getD k 0)) = LL t lv (k + 1) := by
  refine set_map _ _ _ _ _ (if_pos (by omega)) (fun j hj => ?_)
  by_cases hk : j < k
  · rw [if_pos hk, if_pos (by omega)]
  · rw [if_neg hk, if_neg (by omega)]
theorem LL_all (t : List Int) (lv : Int) : LL t lv t.length = LS t lv := by
  unfold LL LS
  apply List.map_congr_left
  intro i hi
  rw [if_pos (List.mem_range.1 hi)]
def Sided (t : List Int) : Prop := ∀ i, i < t.length → sd (t.getD i 0) ≠ 0
theorem sided_cases {x : Int} (h : sd x ≠ 0) : x = 1 ∨ x = 2 ∨ x = 4 ∨ x = 7 := by
  unfold sd at h
  by_cases h1 : x = 1
  · exact .inl h1
  · rw [if_neg h1] at h
    by_cases h2 : x = 2 ∨ x = 4 ∨ x = 7
    · exact .inr h2
    · rw [if_neg h2] at h; exact absurd rfl h
theorem unsided {x : Int} (h : sd x = 0) : x ≠ 1 ∧ x ≠ 2 ∧ x ≠ 4 ∧ x ≠ 7 := by
  refine ⟨?_, ?_, ?_, ?_⟩ <;> (rintro rfl; revert h; decide)
/-- P11.2, P11.3. -/
theorem lv1_two {lv x : Int} (h : sd x ≠ 0) : lv ≤ lv1 lv x ∧ lv1 lv x ≤ lv + 2 ∧ ((lv1 lv x) % 2 = 1 ↔ x = 2) ∧ (x = 4 ∨ x = 7 → lv1 lv x ≠ lv) := by
  have hc := sided_cases h
  unfold lv1
  by_cases he : lv % 2 = 0
  · rw [if_pos he]
    rcases hc with rfl | rfl | rfl | rfl
    · rw [if_pos rfl]; omega
    · rw [if_neg (by omega), if_pos rfl]; omega
    · rw [if_neg (by omega), if_neg (by omega)]; omega
    · rw [if_neg (by omega), if_neg (by omega)]; omega
  · rw [if_neg he]
    rcases hc with rfl | rfl | rfl | rfl
    · rw [if_neg (by omega)]; omega
    · rw [if_pos rfl]; omega
    · rw [if_neg (by omega)]; omega
    · rw [if_neg (by omega)]; omega
/-- By how much a type is deeper. -/
def dp (x lv : Int) : Int := lv1 lv x - lv
/-- What Resolve and Levels answer. -/
def AR (t : List Int) (lv so eo : Int) (L : List Int) (E : Int) : Prop :=
  (¬ Good lv so eo ∧ L = [] ∧ E = 2) ∨ (Good lv so eo ∧ ¬ Ok t ∧ L = [] ∧ E = 50) ∨ (Good lv so eo ∧ Ok t ∧ L = RS t lv so eo ∧ E = 0)
theorem AR_some (t : List Int) (lv so eo : Int) : ∃ L E, AR t lv so eo L E := by
  by_cases hg : Good lv so eo
  · by_cases ho : Ok t
    · exact ⟨_, _, .inr (.inr ⟨hg, ho, rfl, rfl⟩)⟩
    · exact ⟨_, _, .inr (.inl ⟨hg, ho, rfl, rfl⟩)⟩
  · exact ⟨_, _, .inl ⟨hg, rfl, rfl⟩⟩
def Lev (lv : Int) : Prop := 0 ≤ lv ∧ lv ≤ 126
instance (lv : Int) : Decidable (Lev lv) := inferInstanceAs (Decidable (_ ∧ _))
def AL (t : List Int) (lv : Int) (L : List Int) (E : Int) : Prop :=
  (¬ Lev lv ∧ L = [] ∧ E = 2) ∨ (Lev lv ∧ ¬ Sided t ∧ L = [] ∧ E = 50) ∨ (Lev lv ∧ Sided t ∧ L = LS t lv ∧ E = 0)
theorem AL_some (t : List Int) (lv : Int) : ∃ L E, AL t lv L E := by
  by_cases hg : Lev lv
  · by_cases ho : Sided t
    · exact ⟨_, _, .inr (.inr ⟨hg, ho, rfl, rfl⟩)⟩
    · exact ⟨_, _, .inr (.inl ⟨hg, ho, rfl, rfl⟩)⟩
  · exact ⟨_, _, .inl ⟨hg, rfl, rfl⟩⟩
theorem ok_all {t : List Int} (h : ∀ x ∈ t, May x) : Ok t := by
  intro i hi
  have e : t.getD i 0 = t[i] := by simp [List.getD, List.getElem?_eq_getElem hi]
  rw [e]; exact h _ (List.getElem_mem _)
theorem sided_all {t : List Int} (h : ∀ x ∈ t, sd x ≠ 0) : Sided t := by
  intro i hi
  have e : t.getD i 0 = t[i] := by simp [List.getD, List.getElem?_eq_getElem hi]
  rw [e]; exact h _ (List.getElem_mem _)
end Ne
end Go.Proofs.YtmdmehopefgndaaGreatDoor

/- Types of one direction, with blanks and signs: what the rules make of them: plain mathematics. -/
namespace Go.Proofs.YtmdmehopefgndaaGreatDoor
set_option linter.unusedVariables false
namespace We
theorem R_step {r : Nat} {s : Int} {t : List Int} {Q : Int → Prop} (hs : Q s) (h : ∀ i, i < t.length → ∀ p, Q p → Q (one r s t i p)) : ∀ i, i < (R r s t).length → Q ((R r s t).getD i 0) := by
  have key : ∀ i, i ≤ t.length → Q (pv r s t i) := by
    intro i
    induction i with
    | zero => intro _; exact hs
    | succ i ih => intro hi; rw [pv_succ]; exact h i (by omega) _ (ih (by omega))
  intro i hi
  rw [R_len] at hi
  rw [R_at hi]
  exact key _ (by omega)
/-- Types of one direction, blanks, signs, marks. -/
def P1 (p x : Int) : Prop := x = p ∨ (p = 2 ∧ x = 3) ∨ x = 13 ∨ x = 14 ∨ x = 8 ∨ x = 5 ∨ x = 9
def P2 (p x : Int) : Prop := x = p ∨ (p = 2 ∧ x = 3) ∨ x = 13 ∨ x = 14 ∨ x = 8 ∨ x = 5
def P3 (p x : Int) : Prop := x = p ∨ x = 13 ∨ x = 14 ∨ x = 8 ∨ x = 5
def P4 (p x : Int) : Prop := x = p ∨ x = 13 ∨ x = 14
theorem getD_or {t : List Int} {Q : Int → Prop} (h : ∀ i, i < t.length → Q (t.getD i 0)) (i : Nat) : Q (t.getD i 0) ∨ t.getD i 0 = 0 := by
  rcases Nat.lt_or_ge i t.length with q | q
  · exact .inl (h i q)
  · exact .inr (getD_out q)
/-- What all rules leave of them. -/
theorem plain_types {p : Int} (hp : p = 1 ∨ p = 2) {t : List Int} (h : ∀ i, i < t.length → P1 p (t.getD i 0)) : ∀ i, i < (RR p t 7).length → P4 p ((RR p t 7).getD i 0) := by
  have h1 : ∀ i, i < (RR p t 1).length → P2 p ((RR p t 1).getD i 0) := by
    refine R_step (r := 1) (t := t) (Q := P2 p) (.inl rfl) fun i hi q hq => ?_
    have := h i hi
    show P2 p (if t.getD i 0 = 9 then mk q else t.getD i 0)
    unfold P2 P1 mk at *
    split <;> (try split) <;> omega
  have h2 : ∀ i, i < (RR p t 2).length → P2 p ((RR p t 2).getD i 0) := by
    refine R_step (r := 2) (t := RR p t 1) (Q := P2 p) (.inl rfl) fun i hi q hq => ?_
    have := h1 i hi
    show P2 p (if (RR p t 1).getD i 0 = 4 ∧ strong (RR p t 1) p i = 3 then 7 else (RR p t 1).getD i 0)
    unfold P2 at *
    split <;> omega
  have h3 : ∀ i, i < (RR p t 3).length → P3 p ((RR p t 3).getD i 0) := by
    refine R_step (r := 3) (t := RR p t 2) (Q := P3 p) (.inl rfl) fun i hi q hq => ?_
    have := h2 i hi
    show P3 p (if (RR p t 2).getD i 0 = 3 then 2 else (RR p t 2).getD i 0)
    unfold P2 P3 at *
    split <;> omega
  have h4 : ∀ i, i < (RR p t 4).length → P3 p ((RR p t 4).getD i 0) := by
    refine R_step (r := 4) (t := RR p t 3) (Q := P3 p) (.inl rfl) fun i hi q hq => ?_
    have := h3 i hi
    have h' := getD_or h3 (i + 1)
    show P3 p (if q = (RR p t 3).getD (i + 1) 0 ∧ (((RR p t 3).getD i 0 = 5 ∧ (RR p t 3).getD (i + 1) 0 = 4) ∨ ((RR p t 3).getD i 0 = 8 ∧ ((RR p t 3).getD (i + 1) 0 = 4 ∨ (RR p t 3).getD (i + 1) 0 = 7))) then (RR p t 3).getD (i + 1) 0 else (RR p t 3).getD i 0)
    unfold P3 at *
    split <;> omega
  have h5 : ∀ i, i < (RR p t 5).length → P3 p ((RR p t 5).getD i 0) := by
    refine R_step (r := 5) (t := RR p t 4) (Q := P3 p) (.inl rfl) fun i hi q hq => ?_
    have := h4 i hi
    show P3 p (if (RR p t 4).getD i 0 = 6 ∧ (lf (RR p t 4) i = 4 ∨ rt ((RR p t 4).drop i) = 4) then 4 else (RR p t 4).getD i 0)
    unfold P3 at *
    split <;> omega
  have h6 : ∀ i, i < (RR p t 6).length → P4 p ((RR p t 6).getD i 0) := by
    refine R_step (r := 6) (t := RR p t 5) (Q := P4 p) (.inl rfl) fun i hi q hq => ?_
    have := h5 i hi
    show P4 p (if (RR p t 5).getD i 0 = 5 ∨ (RR p t 5).getD i 0 = 6 ∨ (RR p t 5).getD i 0 = 8 then 14 else (RR p t 5).getD i 0)
    unfold P3 P4 at *
    split <;> omega
  refine R_step (r := 7) (t := RR p t 6) (Q := P4 p) (.inl rfl) fun i hi q hq => ?_
  have := h6 i hi
  show P4 p (if (RR p t 6).getD i 0 = 4 ∧ strong (RR p t 6) p i = 1 then 1 else (RR p t 6).getD i 0)
  unfold P4 at *
  split <;> omega
end We
namespace Ne
theorem sd_p {p : Int} (hp : p = 1 ∨ p = 2) : sd p = p := by rcases hp with rfl | rfl <;> decide
theorem ah_plain {t : List Int} {p : Int} (h : ∀ i, sd (t.getD i 0) = 0 ∨ sd (t.getD i 0) = p) : ∀ k, ah t p k = p := by
  intro k
  induction k with
  | zero => rfl
  | succ k ih =>
    rw [ah_succ]
    split
    · exact ih
    · exact (h k).resolve_left ‹_›
theorem getD_q {t : List Int} {Q : Int → Prop} (h : ∀ i, i < t.length → Q (t.getD i 0)) (h0 : Q 0) (i : Nat) : Q (t.getD i 0) := by
  rcases Nat.lt_or_ge i t.length with q | q
  · exact h i q
  · rw [show t.getD i 0 = 0 from by simp [List.getD, List.getElem?_eq_none q]]; exact h0
/-- One direction alone, and blanks and signs: all get it. -/
theorem plain_sides {t : List Int} {p lv : Int} (hp : p = 1 ∨ p = 2) (h : ∀ i, i < t.length → t.getD i 0 = p ∨ sd (t.getD i 0) = 0) {i : Nat} (hi : i < t.length) : (RS t lv p p).getD i 0 = p := by
  have h1 : ∀ j, sd (t.getD j 0) = 0 ∨ sd (t.getD j 0) = p := getD_q (Q := fun x => sd x = 0 ∨ sd x = p) (fun j hj => by
    rcases h j hj with q | q
    · exact .inr (by rw [q]; exact sd_p hp)
    · exact .inl q) (.inl (by decide))
  have h2 : ∀ j, sd (t.reverse.getD j 0) = 0 ∨ sd (t.reverse.getD j 0) = p := getD_q (Q := fun x => sd x = 0 ∨ sd x = p) (fun j hj => by
    rw [List.length_reverse] at hj
    rw [getD_rev t hj]; exact h1 _) (.inl (by decide))
  rw [RS_at _ _ _ _ hi]
  unfold r1
  rw [ah_plain h1, ah_plain h2, if_pos rfl]
  split
  · rfl
  · rename_i hs
    exact (h i hi).resolve_right hs
theorem plain_levels {t : List Int} {p lv : Int} (hp : (p = 1 ∧ lv = 0) ∨ (p = 2 ∧ lv = 1)) (h : ∀ i, i < t.length → t.getD i 0 = p) {i : Nat} (hi : i < t.length) : (LS t lv).getD i 0 = lv := by
  rw [LS_at _ _ hi, h i hi]
  rcases hp with ⟨rfl, rfl⟩ | ⟨rfl, rfl⟩ <;> decide
/-- How far implicit levels go. -/
theorem lv1_hi {lv x : Int} (h0 : 0 ≤ lv) (h : lv ≤ 125) (hx : sd x ≠ 0) : lv ≤ lv1 lv x ∧ lv1 lv x ≤ 126 := by
  have h1 := lv1_two (lv := lv) hx
  refine ⟨h1.1, ?_⟩
  have hc := sided_cases hx
  unfold lv1
  split
  · split
    · omega
    · split <;> omega
  · split <;> omega
theorem levels_range {t : List Int} {lv so eo : Int} (h0 : 0 ≤ lv) (h : lv ≤ 125) (hso : so = 1 ∨ so = 2) {i : Nat} (hi : i < t.length) : lv ≤ (LS (RS t lv so eo) lv).getD i 0 ∧ (LS (RS t lv so eo) lv).getD i 0 ≤ 126 := by
  rw [LS_at _ _ (by rw [RS_len]; exact hi)]
  refine lv1_hi h0 h ?_
  obtain ⟨k1, k2⟩ := keeps t lv so eo hso hi
  by_cases hs : sd (t.getD i 0) = 0
  · rcases k2 hs with e | e <;> rw [e] <;> decide
  · rw [k1 hs]; exact hs
/-- The last place of a sequence, if it has no side, and what stands behind is the level's: the level. -/
theorem levels_last {t : List Int} {b so : Int} (hb : b = 0 ∨ b = 1) (h0 : 0 < t.length) (hs : sd (t.getD (t.length - 1) 0) = 0) : (LS (RS t b so (1 + b)) b).getD (t.length - 1) 0 = b := by
  rw [LS_at _ _ (by rw [RS_len]; omega), RS_at _ _ _ _ (by omega)]
  have e1 : ah t.reverse (1 + b) (t.length - (t.length - 1)) = 1 + b := by
    rw [show t.length - (t.length - 1) = 0 + 1 by omega, ah_succ, getD_rev t (by omega), show t.length - 1 - 0 = t.length - 1 by omega, if_pos hs]
    rfl
  have e2 : r1 t b so (1 + b) (t.length - 1) = 1 + b := by
    unfold r1
    rw [if_pos hs, e1]
    split
    · assumption
    · rcases hb with rfl | rfl <;> decide
  rw [e2]
  rcases hb with rfl | rfl <;> decide
end Ne
end Go.Proofs.YtmdmehopefgndaaGreatDoor
