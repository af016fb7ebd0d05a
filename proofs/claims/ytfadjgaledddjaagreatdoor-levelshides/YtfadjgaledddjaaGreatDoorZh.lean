import Derived.Test.YtfadjgaledddjaaGreatDoorZa
import Derived.Laws.CopyOwn
/- Weak types: plain mathematics. No Go in sight. -/
namespace Go.Proofs.YtfadjgaledddjaaGreatDoor.We
set_option linter.unusedVariables false
/-- What a mark becomes behind a type. -/
def mk (a : Int) : Int := if a = 20 ∨ a = 21 ∨ a = 22 ∨ a = 23 then 14 else a
/-- The strong type ahead of a place. -/
def strong (t : List Int) (s : Int) : Nat → Int
  | 0 => s
  | i + 1 => if t.getD i 0 = 1 ∨ t.getD i 0 = 2 ∨ t.getD i 0 = 3 then t.getD i 0 else strong t s i
/-- The type ahead of the stretch of ET that ends ahead of a place. -/
def lf (t : List Int) : Nat → Int
  | 0 => 0
  | i + 1 => if t.getD i 0 = 6 then lf t i else t.getD i 0
/-- The first type that is not ET. -/
def rt : List Int → Int
  | [] => 0
  | x :: l => if x = 6 then rt l else x
/-- The type of a place behind a rule; p: the one ahead, behind the rule. -/
def one (r : Nat) (s : Int) (t : List Int) (i : Nat) (p : Int) : Int :=
  match r with
  | 1 => if t.getD i 0 = 9 then mk p else t.getD i 0
  | 2 => if t.getD i 0 = 4 ∧ strong t s i = 3 then 7 else t.getD i 0
  | 3 => if t.getD i 0 = 3 then 2 else t.getD i 0
  | 4 => if p = t.getD (i + 1) 0 ∧ ((t.getD i 0 = 5 ∧ t.getD (i + 1) 0 = 4) ∨ (t.getD i 0 = 8 ∧ (t.getD (i + 1) 0 = 4 ∨ t.getD (i + 1) 0 = 7))) then t.getD (i + 1) 0 else t.getD i 0
  | 5 => if t.getD i 0 = 6 ∧ (lf t i = 4 ∨ rt (t.drop i) = 4) then 4 else t.getD i 0
  | 6 => if t.getD i 0 = 5 ∨ t.getD i 0 = 6 ∨ t.getD i 0 = 8 then 14 else t.getD i 0
  | 7 => if t.getD i 0 = 4 ∧ strong t s i = 1 then 1 else t.getD i 0
  | _ => t.getD i 0
/-- The type just ahead of a place, behind a rule. -/
def pv (r : Nat) (s : Int) (t : List Int) : Nat → Int
  | 0 => s
  | i + 1 => one r s t i (pv r s t i)
theorem pv_succ (r : Nat) (s : Int) (t : List Int) (i : Nat) : pv r s t (i + 1) = one r s t i (pv r s t i) := rfl
def R (r : Nat) (s : Int) (t : List Int) : List Int := (List.range t.length).map fun i => pv r s t (i + 1)
/-- The types on the way. -/
def P (r : Nat) (s : Int) (t : List Int) (k : Nat) : List Int := (List.range t.length).map fun i => if i < k then pv r s t (i + 1) else t.getD i 0
theorem getD_map (n : Nat) (f : Nat → Int) (i : Nat) (h : i < n) : ((List.range n).map f).getD i 0 = f i := by
  simp [List.getD, h]
theorem getD_out {l : List Int} {i : Nat} (h : l.length ≤ i) : l.getD i 0 = 0 := by
  simp [List.getD, List.getElem?_eq_none h]
theorem ext_getD {a b : List Int} (hl : a.length = b.length) (h : ∀ i, i < a.length → a.getD i 0 = b.getD i 0) : a = b := by
  apply List.ext_getElem hl
  intro i h1 h2
  have := h i h1
  simpa [List.getD, List.getElem?_eq_getElem h1, List.getElem?_eq_getElem h2] using this
theorem R_len (r : Nat) (s : Int) (t : List Int) : (R r s t).length = t.length := by simp [R]
theorem P_len (r : Nat) (s : Int) (t : List Int) (k : Nat) : (P r s t k).length = t.length := by simp [P]
theorem R_at {r : Nat} {s : Int} {t : List Int} {i : Nat} (h : i < t.length) : (R r s t).getD i 0 = pv r s t (i + 1) := getD_map _ _ _ h
theorem P_at {r : Nat} {s : Int} {t : List Int} {k i : Nat} (h : i < t.length) : (P r s t k).getD i 0 = if i < k then pv r s t (i + 1) else t.getD i 0 := getD_map _ _ _ h
theorem P_zero (r : Nat) (s : Int) (t : List Int) : P r s t 0 = t := by
  refine ext_getD (P_len _ _ _ _) fun i hi => ?_
  rw [P_len] at hi
  rw [P_at hi, if_neg (Nat.not_lt_zero _)]
theorem P_end {r : Nat} {s : Int} {t : List Int} {k : Nat} (h : t.length ≤ k) : P r s t k = R r s t := by
  refine ext_getD (by rw [P_len, R_len]) fun i hi => ?_
  rw [P_len] at hi
  rw [P_at hi, if_pos (by omega), R_at hi]
theorem getD_set (l : List Int) (i j : Nat) (y : Int) (hi : i < l.length) : (l.set i y).getD j 0 = if i = j then y else l.getD j 0 := by
  by_cases h : i = j
  · subst h; simp [List.getD, hi]
  · rw [if_neg h]; simp [List.getD, List.getElem?_set_ne h]
theorem P_set {r : Nat} {s : Int} {t : List Int} {k : Nat} (h : k < t.length) : P r s t (k + 1) = (P r s t k).set k (pv r s t (k + 1)) := by
  refine ext_getD (by rw [List.length_set, P_len, P_len]) fun i hi => ?_
  rw [P_len] at hi
  rw [P_at hi, getD_set _ _ _ _ (by rw [P_len]; exact h), P_at hi]
  by_cases h1 : k = i
  · rw [if_pos h1, if_pos (by omega), h1]
  · rw [if_neg h1]
    by_cases h2 : i < k
    · rw [if_pos h2, if_pos (by omega)]
    · rw [if_neg h2, if_neg (by omega)]
/-- Places that a rule leaves as they are. -/
theorem P_skip {r : Nat} {s : Int} {t : List Int} {k m : Nat} (hkm : k ≤ m) (h : ∀ i, i < t.length → k ≤ i → i < m → pv r s t (i + 1) = t.getD i 0) : P r s t m = P r s t k := by
  refine ext_getD (by rw [P_len, P_len]) fun i hi => ?_
  rw [P_len] at hi
  rw [P_at hi, P_at hi]
  by_cases h1 : i < k
  · rw [if_pos h1, if_pos (by omega)]
  · rw [if_neg h1]
    by_cases h2 : i < m
    · rw [if_pos h2, h i hi (by omega) h2]
    · rw [if_neg h2]
theorem P_same {r : Nat} {s : Int} {t : List Int} {k : Nat} (h : pv r s t (k + 1) = t.getD k 0) : P r s t (k + 1) = P r s t k :=
  P_skip (by omega) fun i _ h1 h2 => by rw [show i = k by omega]; exact h
theorem P_here {r : Nat} {s : Int} {t : List Int} {k i : Nat} (h : i < t.length) (hk : k ≤ i) : (P r s t k).getD i 0 = t.getD i 0 := by rw [P_at h, if_neg (by omega)]
theorem P_last {r : Nat} {s : Int} {t : List Int} {k : Nat} (h : k < t.length) : (P r s t (k + 1)).getD k 0 = pv r s t (k + 1) := by rw [P_at h, if_pos (by omega)]
/-- Types that may be. -/
def May (x : Int) : Prop := 1 ≤ x ∧ x ≤ 23 ∧ ¬ x = 10 ∧ ¬ x = 15 ∧ ¬ x = 16 ∧ ¬ x = 17 ∧ ¬ x = 18 ∧ ¬ x = 19
instance (x : Int) : Decidable (May x) := by unfold May; exact inferInstance
def Ok (t : List Int) : Prop := ∀ i, i < t.length → May (t.getD i 0)
def Side (s : Int) : Prop := s = 1 ∨ s = 2
theorem may_mk {a : Int} (h : May a) : May (mk a) := by
  unfold mk
  split
  · unfold May; decide
  · exact h
theorem may_one {r : Nat} {s : Int} {t : List Int} {i : Nat} {p : Int} (hp : May p) (hx : May (t.getD i 0)) : May (one r s t i p) := by
  have h1 : May 1 := by unfold May; decide
  have h2 : May 2 := by unfold May; decide
  have h4 : May 4 := by unfold May; decide
  have h7 : May 7 := by unfold May; decide
  have h14 : May 14 := by unfold May; decide
  unfold one
  split
  · split
    · exact may_mk hp
    · exact hx
  · split
    · exact h7
    · exact hx
  · split
    · exact h2
    · exact hx
  · split
    · rename_i h
      rcases h.2 with h | ⟨_, h | h⟩
      · rw [h.2]; exact h4
      · rw [h]; exact h4
      · rw [h]; exact h7
    · exact hx
  · split
    · exact h4
    · exact hx
  · split
    · exact h14
    · exact hx
  · split
    · exact h1
    · exact hx
  · exact hx
theorem may_pv {r : Nat} {s : Int} {t : List Int} (hs : Side s) (ht : Ok t) : ∀ i, i ≤ t.length → May (pv r s t i) := by
  intro i
  induction i with
  | zero =>
    intro _
    rcases hs with rfl | rfl
    · show May 1; unfold May; decide
    · show May 2; unfold May; decide
  | succ i ih => intro h; rw [pv_succ]; exact may_one (ih (by omega)) (ht i (by omega))
theorem Ok.R {r : Nat} {s : Int} {t : List Int} (hs : Side s) (ht : Ok t) : Ok (R r s t) := by
  intro i hi
  rw [R_len] at hi
  rw [R_at hi]
  exact may_pv hs ht _ (by omega)
/-- Behind the first k rules. -/
def RR (s : Int) (t : List Int) : Nat → List Int
  | 0 => t
  | k + 1 => R (k + 1) s (RR s t k)
theorem RR_succ (s : Int) (t : List Int) (k : Nat) : RR s t (k + 1) = R (k + 1) s (RR s t k) := rfl
theorem RR_len (s : Int) (t : List Int) (k : Nat) : (RR s t k).length = t.length := by
  induction k with
  | zero => rfl
  | succ k ih => rw [RR_succ, R_len, ih]
theorem Ok.RR {s : Int} {t : List Int} (hs : Side s) (ht : Ok t) (k : Nat) : Ok (RR s t k) := by
  induction k with
  | zero => exact ht
  | succ k ih => rw [RR_succ]; exact ih.R hs
/-- Rule 4 leaves the first place and the last one as they are. -/
theorem four_first {s : Int} {t : List Int} (hs : Side s) : pv 4 s t 1 = t.getD 0 0 := by
  show one 4 s t 0 s = _
  unfold one
  simp only
  rw [if_neg]
  intro h
  unfold Side at hs
  omega
theorem four_last {s : Int} {t : List Int} {i : Nat} (hi : t.length ≤ i + 1) : pv 4 s t (i + 1) = t.getD i 0 := by
  rw [pv_succ]
  unfold one
  simp only
  rw [if_neg]
  intro h
  rw [getD_out hi] at h
  omega
/-- Rule 5, by stretches. -/
structure Str (t : List Int) (f e : Nat) : Prop where
  lt : f < e
  le : e ≤ t.length
  all : ∀ i, f ≤ i → i < e → t.getD i 0 = t.getD f 0
  out : e < t.length → ¬ t.getD e 0 = t.getD f 0
theorem lf_str {t : List Int} {f : Nat} : ∀ i, f ≤ i → (∀ j, f ≤ j → j < i → t.getD j 0 = 6) → lf t i = lf t f := by
  intro i
  induction i with
  | zero => intro h _; rw [show f = 0 by omega]
  | succ i ih =>
    intro h hj
    by_cases he : f = i + 1
    · rw [he]
    · rw [lf, if_pos (hj i (by omega) (by omega)), ih (by omega) (fun j h1 h2 => hj j h1 (by omega))]
theorem drop_cons {t : List Int} {i : Nat} (h : i < t.length) : t.drop i = t.getD i 0 :: t.drop (i + 1) := by
  rw [List.drop_eq_getElem_cons h]
  simp [List.getD, List.getElem?_eq_getElem h]
theorem rt_str {t : List Int} {e : Nat} (he : e ≤ t.length) : ∀ k i, i + k = e → (∀ j, i ≤ j → j < e → t.getD j 0 = 6) → rt (t.drop i) = rt (t.drop e) := by
  intro k
  induction k with
  | zero => intro i h _; rw [show i = e by omega]
  | succ k ih =>
    intro i h hj
    rw [drop_cons (show i < t.length by omega), rt, if_pos (hj i (Nat.le_refl _) (by omega))]
    exact ih (i + 1) (by omega) (fun j h1 h2 => hj j (by omega) h2)
theorem rt_here {t : List Int} {e : Nat} (h : ¬ t.getD e 0 = 6) : rt (t.drop e) = t.getD e 0 := by
  by_cases he : e < t.length
  · rw [drop_cons he, rt, if_neg h]
  · rw [List.drop_of_length_le (by omega), getD_out (by omega)]; rfl
theorem lf_here {t : List Int} {f : Nat} (h : ¬ t.getD f 0 = 6) : lf t (f + 1) = t.getD f 0 := by rw [lf, if_neg h]
/-- What stands about a stretch of ET. -/
def Hit (t : List Int) (f e : Nat) : Prop := t.getD f 0 = 6 ∧ ((0 < f ∧ t.getD (f - 1) 0 = 4) ∨ t.getD e 0 = 4)
/-- Ahead of this place a stretch ends. -/
def Edge (t : List Int) (f : Nat) : Prop := ∀ j, j + 1 = f → f < t.length → ¬ t.getD j 0 = t.getD f 0
theorem five_out {s : Int} {t : List Int} {i : Nat} (h : ¬ t.getD i 0 = 6) : pv 5 s t (i + 1) = t.getD i 0 := by
  rw [pv_succ]; unfold one; simp only; rw [if_neg (fun h1 => h h1.1)]
theorem five_at {s : Int} {t : List Int} {f e i : Nat} (hS : Str t f e) (hE : Edge t f) (hf : t.getD f 0 = 6) (h1 : f ≤ i) (h2 : i < e) : (lf t i = 4 ∨ rt (t.drop i) = 4) ↔ ((0 < f ∧ t.getD (f - 1) 0 = 4) ∨ t.getD e 0 = 4) := by
  have hl : lf t i = lf t f := lf_str i h1 (fun j a b => by rw [hS.all j a (by omega), hf])
  have hr : rt (t.drop i) = rt (t.drop e) := rt_str hS.le (e - i) i (by omega) (fun j a b => by rw [hS.all j (by omega) b, hf])
  have he : ¬ t.getD e 0 = 6 := by
    by_cases hlt : e < t.length
    · have := hS.out hlt; rw [hf] at this; exact this
    · rw [getD_out (by omega)]; omega
  rw [hl, hr, rt_here he]
  cases f with
  | zero =>
    constructor
    · rintro (h | h)
      · exact absurd h (by unfold lf; decide)
      · exact .inr h
    · rintro (⟨h, _⟩ | h)
      · omega
      · exact .inr h
  | succ f =>
    have := hE f rfl (by have := hS.lt; have := hS.le; omega)
    rw [hf] at this
    rw [lf_here this, Nat.add_sub_cancel]
    constructor
    · rintro (h | h)
      · exact .inl ⟨by omega, h⟩
      · exact .inr h
    · rintro (⟨_, h⟩ | h)
      · exact .inl h
      · exact .inr h
theorem five_hit {s : Int} {t : List Int} {f e i : Nat} (hS : Str t f e) (hE : Edge t f) (hH : Hit t f e) (h1 : f ≤ i) (h2 : i < e) : pv 5 s t (i + 1) = 4 := by
  rw [pv_succ]; unfold one; simp only
  rw [if_pos ⟨by rw [hS.all i h1 h2]; exact hH.1, (five_at (s := s) hS hE hH.1 h1 h2).2 hH.2⟩]
theorem five_miss {s : Int} {t : List Int} {f e i : Nat} (hS : Str t f e) (hE : Edge t f) (hH : ¬ Hit t f e) (h1 : f ≤ i) (h2 : i < e) : pv 5 s t (i + 1) = t.getD i 0 := by
  rw [pv_succ]; unfold one; simp only
  rw [if_neg]
  rintro ⟨h3, h4⟩
  have hf : t.getD f 0 = 6 := by rw [← hS.all i h1 h2]; exact h3
  exact hH ⟨hf, (five_at (s := s) hS hE hf h1 h2).1 h4⟩
theorem edge_next {t : List Int} {f e : Nat} (hS : Str t f e) : Edge t e := by
  intro j hj hl h
  exact hS.out hl (by rw [← h]; exact hS.all j (by have := hS.lt; omega) (by omega))
theorem edge_zero (t : List Int) : Edge t 0 := by intro j hj; omega
/-- A stretch of places, all filled with one type. -/
def Fl (l : List Int) (f k : Nat) (y : Int) : List Int := (List.range l.length).map fun i => if f ≤ i ∧ i < f + k then y else l.getD i 0
theorem Fl_len (l : List Int) (f k : Nat) (y : Int) : (Fl l f k y).length = l.length := by simp [Fl]
theorem Fl_at {l : List Int} {f k i : Nat} {y : Int} (h : i < l.length) : (Fl l f k y).getD i 0 = if f ≤ i ∧ i < f + k then y else l.getD i 0 := getD_map _ _ _ h
theorem Fl_zero (l : List Int) (f : Nat) (y : Int) : Fl l f 0 y = l := by
  refine ext_getD (Fl_len _ _ _ _) fun i hi => ?_
  rw [Fl_len] at hi
  rw [Fl_at hi, if_neg (by omega)]
theorem Fl_succ {l : List Int} {f k : Nat} {y : Int} (h : f + k < l.length) : Fl l f (k + 1) y = (Fl l f k y).set (f + k) y := by
  refine ext_getD (by rw [List.length_set, Fl_len, Fl_len]) fun i hi => ?_
  rw [Fl_len] at hi
  rw [Fl_at hi, getD_set _ _ _ _ (by rw [Fl_len]; exact h), Fl_at hi]
  by_cases h1 : f + k = i
  · rw [if_pos h1, if_pos (by omega)]
  · rw [if_neg h1]
    by_cases h2 : f ≤ i ∧ i < f + k
    · rw [if_pos h2, if_pos (by omega)]
    · rw [if_neg h2, if_neg (by omega)]
theorem P_fill {s : Int} {t : List Int} {f e : Nat} (hS : Str t f e) (hE : Edge t f) (hH : Hit t f e) : P 5 s t e = Fl (P 5 s t f) f (e - f) 4 := by
  refine ext_getD (by rw [Fl_len, P_len, P_len]) fun i hi => ?_
  rw [P_len] at hi
  have hlt := hS.lt
  rw [P_at hi, Fl_at (by rw [P_len]; exact hi), P_at hi]
  by_cases h1 : i < f
  · rw [if_pos (by omega), if_neg (by omega), if_pos h1]
  · by_cases h2 : i < e
    · rw [if_pos h2, if_pos (by omega), five_hit hS hE hH (by omega) h2]
    · rw [if_neg h2, if_neg (by omega), if_neg h1]
theorem P_miss {s : Int} {t : List Int} {f e : Nat} (hS : Str t f e) (hE : Edge t f) (hH : ¬ Hit t f e) : P 5 s t e = P 5 s t f :=
  P_skip (by have := hS.lt; omega) fun i _ h1 h2 => five_miss hS hE hH h1 h2
/-- Just ahead of a stretch of ET the type is as it was. -/
theorem five_prev {s : Int} {t : List Int} {f : Nat} (hE : Edge t (f + 1)) (hl : f + 1 < t.length) (hf : t.getD (f + 1) 0 = 6) : pv 5 s t (f + 1) = t.getD f 0 :=
  five_out (by have := hE f rfl hl; rw [hf] at this; exact this)
end Go.Proofs.YtfadjgaledddjaaGreatDoor.We

/- The small functions of weak: mayBe, markBehind, joins, has, stretch, fill. -/
namespace Go.Proofs.YtfadjgaledddjaaGreatDoor
open Go.RowKit
set_option linter.unusedVariables false
set_option maxHeartbeats 1000000
set_option maxRecDepth 100000
theorem may_yes {x : Int} (h : We.May x) : true = decide (We.May x) := by simp [h]
theorem may_no {x : Int} (h : ¬ We.May x) : false = decide (We.May x) := by simp [h]
theorem mayBe_any (x : Int) (w : World) : Calls Tryz.prog 133 #[.int .i64 x] w fun e w' => e = .returned (.bool (decide (We.May x))) ∧ w = w' := by
  obtain ⟨b, hb⟩ : ∃ b, decide (We.May x) = b := ⟨_, rfl⟩
  rw [hb]
  have HB := hide hb
  have hc : (x = 17 ∧ b = false) ∨ (¬ x = 17 ∧ x = 15 ∧ b = false) ∨ (¬ x = 17 ∧ ¬ x = 15 ∧ x = 18 ∧ b = false) ∨ (¬ x = 17 ∧ ¬ x = 15 ∧ ¬ x = 18 ∧ x = 16 ∧ b = false) ∨ (¬ x = 17 ∧ ¬ x = 15 ∧ ¬ x = 18 ∧ ¬ x = 16 ∧ x = 19 ∧ b = false) ∨ (¬ x = 17 ∧ ¬ x = 15 ∧ ¬ x = 18 ∧ ¬ x = 16 ∧ ¬ x = 19 ∧ x = 10 ∧ b = false) ∨ (¬ x = 17 ∧ ¬ x = 15 ∧ ¬ x = 18 ∧ ¬ x = 16 ∧ ¬ x = 19 ∧ ¬ x = 10 ∧ ¬ 1 ≤ x ∧ b = false) ∨ (¬ x = 17 ∧ ¬ x = 15 ∧ ¬ x = 18 ∧ ¬ x = 16 ∧ ¬ x = 19 ∧ ¬ x = 10 ∧ 1 ≤ x ∧ ¬ x ≤ 23 ∧ b = false) ∨ (¬ x = 17 ∧ ¬ x = 15 ∧ ¬ x = 18 ∧ ¬ x = 16 ∧ ¬ x = 19 ∧ ¬ x = 10 ∧ 1 ≤ x ∧ x ≤ 23 ∧ b = true) := by
    cases b with
    | false => have := of_decide_eq_false hb; unfold We.May at this; simp only [reduceCtorEq, and_false, and_true, or_false]; omega
    | true => have := of_decide_eq_true hb; unfold We.May at this; simp only [reduceCtorEq, and_false, and_true, false_or]; omega
  clear hb HB
  rcases hc with ⟨rfl, rfl⟩ | ⟨h1, rfl, rfl⟩ | ⟨h1, h2, rfl, rfl⟩ | ⟨h1, h2, h3, rfl, rfl⟩ | ⟨h1, h2, h3, h4, rfl, rfl⟩ | ⟨h1, h2, h3, h4, h5, rfl, rfl⟩ | ⟨h1, h2, h3, h4, h5, h6, h7, rfl⟩ | ⟨h1, h2, h3, h4, h5, h6, h7, h8, rfl⟩ | ⟨h1, h2, h3, h4, h5, h6, h7, h8, rfl⟩
  all_goals
    go_enter Tryz.func133, Tryz.ntmps133
    go_wp2
    go_ret
    exact ⟨rfl, rfl⟩
theorem markBehind_any (x : Int) (w : World) : Calls Tryz.prog 149 #[.int .i64 x] w fun e w' => e = .returned (.int .i64 (We.mk x)) ∧ w = w' := by
  have hc : (x = 20) ∨ (¬ x = 20 ∧ x = 21) ∨ (¬ x = 20 ∧ ¬ x = 21 ∧ x = 22) ∨ (¬ x = 20 ∧ ¬ x = 21 ∧ ¬ x = 22 ∧ x = 23) ∨ (¬ x = 20 ∧ ¬ x = 21 ∧ ¬ x = 22 ∧ ¬ x = 23 ∧ We.mk x = x) := by
    by_cases h : x = 20 ∨ x = 21 ∨ x = 22 ∨ x = 23
    · omega
    · have : We.mk x = x := by unfold We.mk; rw [if_neg h]
      omega
  rcases hc with rfl | ⟨h1, rfl⟩ | ⟨h1, h2, rfl⟩ | ⟨h1, h2, h3, rfl⟩ | ⟨h1, h2, h3, h4, h5⟩
  rotate_left 4
  · rw [h5]; clear h5
    go_enter Tryz.func149, Tryz.ntmps149
    go_wp2
    go_ret
    exact ⟨rfl, rfl⟩
  all_goals
    go_enter Tryz.func149, Tryz.ntmps149
    go_wp2
    go_ret
    exact ⟨rfl, rfl⟩
/-- A separator within numbers of a type. -/
def jn (k p : Int) : Bool := (p == 4 && (k == 5 || k == 8)) || (p == 7 && k == 8)
theorem joins_any (k p : Int) (w : World) : Calls Tryz.prog 151 #[.int .i64 k, .int .i64 p] w fun e w' => e = .returned (.bool (jn k p)) ∧ w = w' := by
  by_cases h4 : p = 4
  · subst h4
    by_cases h5 : k = 5
    · subst h5
      go_enter Tryz.func151, Tryz.ntmps151
      go_wp2
      go_ret
      exact ⟨rfl, rfl⟩
    · by_cases h8 : k = 8
      · subst h8
        go_enter Tryz.func151, Tryz.ntmps151
        go_wp2
        go_ret
        exact ⟨rfl, rfl⟩
      · have e : jn k 4 = false := by simp [jn, h5, h8]
        rw [e]
        clear e
        go_enter Tryz.func151, Tryz.ntmps151
        go_wp2
        go_ret
        exact ⟨ret_bool (by simp [h5, h8]), rfl⟩
  · by_cases h7 : p = 7
    · subst h7
      by_cases h8 : k = 8
      · subst h8
        go_enter Tryz.func151, Tryz.ntmps151
        go_wp2
        go_ret
        exact ⟨rfl, rfl⟩
      · have e : jn k 7 = false := by simp [jn, h8]
        rw [e]
        clear e
        go_enter Tryz.func151, Tryz.ntmps151
        go_wp2
        go_ret
        exact ⟨ret_bool (by simp [h8]), rfl⟩
    · have e : jn k p = false := by simp [jn, h4, h7]
      rw [e]
      clear e
      go_enter Tryz.func151, Tryz.ntmps151
      go_wp2
      go_ret
      exact ⟨rfl, rfl⟩
theorem has_neg (ao : Option Addr) (n cap : Nat) (y : Int) (w : World) : Calls Tryz.prog 153 #[.slice ao n cap, .int .i64 (-1), .int .i64 y] w fun e w' => e = .returned (.bool false) ∧ w = w' := by
  go_enter Tryz.func153, Tryz.ntmps153
  go_wp2
  go_ret
  exact ⟨rfl, rfl⟩
theorem has_out (ao : Option Addr) (n cap k : Nat) (y : Int) (w : World) (hk : n ≤ k) : Calls Tryz.prog 153 #[.slice ao n cap, .int .i64 (k : Int), .int .i64 y] w fun e w' => e = .returned (.bool false) ∧ w = w' := by
  have h1 : (0 : Int) ≤ (k : Int) := by omega
  have h2 : ¬ (k : Int) < (n : Int) := by omega
  clear hk
  go_enter Tryz.func153, Tryz.ntmps153
  go_wp2
  go_ret
  exact ⟨rfl, rfl⟩
theorem has_in (ao : Option Addr) (n cap k : Nat) (y : Int) (zs : List Int) (w : World) (h : Row .i64 w ao n cap zs) (hk : k < n) : Calls Tryz.prog 153 #[.slice ao n cap, .int .i64 (k : Int), .int .i64 y] w fun e w' => e = .returned (.bool (zs.getD k 0 == y)) ∧ w = w' := by
  have h1 : (0 : Int) ≤ (k : Int) := by omega
  have h2 : (k : Int) < (n : Int) := by omega
  obtain ⟨b, off, rfl, hbl, hc⟩ := h.cells (by omega)
  have ck := hc k (by rw [h.len]; exact hk)
  clear hc h
  generalize zs.getD k 0 = x at *
  go_enter Tryz.func153, Tryz.ntmps153
  go_wp2
  go_ret
  exact ⟨rfl, rfl⟩
theorem stretch_any (ao : Option Addr) (n cap f : Nat) (zs : List Int) (w : World) (h : Row .i64 w ao n cap zs) (hf : f < n) (hn : n ≤ 17592186044416) :
    Calls Tryz.prog 152 #[.slice ao n cap, .int .i64 (f : Int)] w fun e w' => ∃ to : Nat, e = .returned (.int .i64 (to : Int)) ∧ We.Str zs f to ∧ ∃ k, w' = w.drewN k := by
  obtain ⟨b, off, rfl, hbl, hc⟩ := h.cells (by omega)
  have HL := hide h.len
  have HC := hide (fun (j : Nat) (hj : j < n) => hc j (by rw [h.len]; exact hj))
  have cf := HC.out f hf
  have hf2 : (f : Int) < (n : Int) := by omega
  clear h hc
  go_enter Tryz.func152, Tryz.ntmps152
  go_wp2
  go_loopw [5] (fun v wr => ∃ to nq : Nat, v = .int .i64 (to : Int) ∧ f < to ∧ to ≤ n ∧ Hid (∀ i, f ≤ i → i < to → zs.getD i 0 = zs.getD f 0) ∧ wr = w.drewN nq) (fun v _ => n - (intOf v).toNat)
  case atStart => exact ⟨f + 1, 0, by go_num, by omega, by omega, hide (fun i h1 h2 => by rw [show i = f by omega]), rfl⟩
  case round =>
    obtain ⟨t, nq, rfl, ht1, ht2, hall, rfl⟩ := hrel
    by_cases hlt : t < n
    · have ct := HC.out t hlt
      have d1 : decide ((t : Int) < (n : Int)) = true := decide_eq_true (by omega)
      have d2 : decide (t < n) = true := decide_eq_true hlt
      have ht3 : (t : Int) < (n : Int) := by omega
      have HAL := hide (fun (he : zs.getD t 0 = zs.getD f 0) (i : Nat) (h1 : f ≤ i) (h2 : i < t + 1) => (show zs.getD i 0 = zs.getD f 0 from by
        by_cases hi : i = t
        · rw [hi]; exact he
        · exact hall.out i h1 (by omega)))
      have HST := hide (fun (he : ¬ zs.getD t 0 = zs.getD f 0) => (show We.Str zs f t from ⟨ht1, by rw [HL.out]; exact ht2, hall.out, fun _ => he⟩))
      clear hall
      obtain ⟨X, hX⟩ : ∃ X, zs.getD f 0 = X := ⟨_, rfl⟩
      have HX := hide hX
      rw [hX] at cf HAL HST
      obtain ⟨Y, hY⟩ : ∃ Y, zs.getD t 0 = Y := ⟨_, rfl⟩
      rw [hY] at ct HAL HST
      clear hX hY
      by_cases he : Y = X
      · have HA := hide (HAL.out he)
        subst he
        clear HAL HST
        go_wp2
        go_quiet (fail)
        go_wp2
        go_roundw
        case rel => exact ⟨t + 1, _, by go_num, by omega, by omega, hide (fun i h1 h2 => by rw [HA.out i h1 h2, HX.out]), by first | rfl | exact World.drewN_drewN _ _ _⟩
        case measure => simp [intOf]; omega
      · have HS := hide (HST.out he)
        have he2 : (Y == X) = false := beq_false_of_ne he
        clear HAL HST he
        go_wp2
        go_quiet (fail)
        go_wp2
        go_ret
        exact ⟨t, rfl, HS.out, _, by first | rfl | exact World.drewN_drewN _ _ _⟩
    · obtain rfl : t = n := by omega
      have d1 : decide ((t : Int) < (t : Int)) = false := decide_eq_false (by omega)
      have d2 : decide (t < t) = false := decide_eq_false (by omega)
      have HS := hide (show We.Str zs f t from ⟨ht1, by rw [HL.out]; exact Nat.le_refl _, hall.out, fun h => by rw [HL.out] at h; omega⟩)
      clear hall hlt
      go_wp2
      go_quiet (fail)
      go_wp2
      go_ret
      exact ⟨t, rfl, HS.out, _, by first | rfl | exact World.drewN_drewN _ _ _⟩
theorem fill_any (base g n cap c2 f m : Nat) (y : Int) (zs : List Int) (w0 w : World) (h : OW base g n cap zs w0 w) (hf : f + m ≤ n) (hn : n ≤ 17592186044416) :
    Calls Tryz.prog 154 #[.slice (some ⟨g, f, none⟩) m c2, .int .i64 y] w fun e w' => e = .returned (.tuple #[]) ∧ OW base g n cap (We.Fl zs f m y) w0 w' := by
  have HL := hide h.len
  have H0 := hide (show OW base g n cap (We.Fl zs f 0 y) w0 w from by rw [We.Fl_zero]; exact h)
  clear h
  go_enter Tryz.func154, Tryz.ntmps154
  go_wp2
  go_loopw [7] (fun v wr => ∃ k : Nat, v = .int .i64 (k : Int) ∧ k ≤ m ∧ Hid (OW base g n cap (We.Fl zs f k y) w0 wr)) (fun v _ => m - (intOf v).toNat)
  case atStart => exact ⟨0, rfl, Nat.zero_le _, H0⟩
  case round =>
    obtain ⟨k, rfl, hk, hO⟩ := hrel
    by_cases hlt : k < m
    · have hin : (k : Int) < (m : Int) := by omega
      have co := hO.out.cell (show f + k < n by omega)
      have hfz := hO.out.own.frozenAt (f + k)
      have HS := hide (hO.out.set (f + k) y)
      rw [← We.Fl_succ (show f + k < zs.length by rw [HL.out]; omega)] at HS
      generalize (We.Fl zs f k y).getD (f + k) 0 = old at co
      clear hO
      go_wp2
      go_roundw
      case rel => exact ⟨k + 1, by go_num, by omega, HS⟩
      case measure => simp [intOf]; omega
    · obtain rfl : k = m := by omega
      have hne : ¬ ((k : Int) < (k : Int)) := by omega
      clear hlt
      go_wp2
      go_end0
      exact ⟨rfl, hO.out⟩
end Go.Proofs.YtfadjgaledddjaaGreatDoor

/- Rules 1, 2, 3, 6, 7: marks, numbers, arabicNumbers, arabicLetters, leftovers, latinNumbers. -/
namespace Go.Proofs.YtfadjgaledddjaaGreatDoor
open Go.RowKit
set_option linter.unusedVariables false
set_option maxHeartbeats 1000000
set_option maxRecDepth 100000
theorem OW.next {base g n cap r : Nat} {s : Int} {zs : List Int} {w0 w : World} {k : Nat} (h : OW base g n cap (We.P r s zs k) w0 w) (hk : k < zs.length) {y : Int} (hy : We.pv r s zs (k + 1) = y) : OW base g n cap (We.P r s zs (k + 1)) w0 (w.setCell ⟨g, k, none⟩ (.int .i64 y)) := by
  have := h.set k y
  rw [← hy, ← We.P_set hk] at this
  rw [← hy]; exact this
theorem OW.stay {base g n cap r : Nat} {s : Int} {zs : List Int} {w0 w : World} {k : Nat} (h : OW base g n cap (We.P r s zs k) w0 w) (hy : We.pv r s zs (k + 1) = zs.getD k 0) : OW base g n cap (We.P r s zs (k + 1)) w0 w := by
  rw [We.P_same hy]; exact h
theorem pv1 (s : Int) (t : List Int) (k : Nat) : We.pv 1 s t (k + 1) = if t.getD k 0 = 9 then We.mk (We.pv 1 s t k) else t.getD k 0 := rfl
theorem pv2 (s : Int) (t : List Int) (k : Nat) : We.pv 2 s t (k + 1) = if t.getD k 0 = 4 ∧ We.strong t s k = 3 then 7 else t.getD k 0 := rfl
theorem pv3 (s : Int) (t : List Int) (k : Nat) : We.pv 3 s t (k + 1) = if t.getD k 0 = 3 then 2 else t.getD k 0 := rfl
theorem pv6 (s : Int) (t : List Int) (k : Nat) : We.pv 6 s t (k + 1) = if t.getD k 0 = 5 ∨ t.getD k 0 = 6 ∨ t.getD k 0 = 8 then 14 else t.getD k 0 := rfl
theorem pv7 (s : Int) (t : List Int) (k : Nat) : We.pv 7 s t (k + 1) = if t.getD k 0 = 4 ∧ We.strong t s k = 1 then 1 else t.getD k 0 := rfl
theorem strong_succ (s : Int) (t : List Int) (k : Nat) : We.strong t s (k + 1) = if t.getD k 0 = 1 ∨ t.getD k 0 = 2 ∨ t.getD k 0 = 3 then t.getD k 0 else We.strong t s k := rfl
/-- What a walk is told of a place that it comes to. -/
theorem marks_any (base g n cap : Nat) (s : Int) (zs : List Int) (w0 w : World) (h : OW base g n cap zs w0 w) (hn : n ≤ 17592186044416) :
    Calls Tryz.prog 134 #[.slice (some ⟨g, 0, none⟩) n cap, .int .i64 s] w fun e w' => e = .returned (.tuple #[]) ∧ OW base g n cap (We.R 1 s zs) w0 w' := by
  have HL := hide h.len
  have H0 := hide (show OW base g n cap (We.P 1 s zs 0) w0 w from by rw [We.P_zero]; exact h)
  have HE := hide (show We.P 1 s zs n = We.R 1 s zs from We.P_end (by rw [h.len]; exact Nat.le_refl _))
  clear h
  go_enter Tryz.func134, Tryz.ntmps134
  go_wp2
  go_loopw [4, 10] (fun v4 v wr => ∃ k : Nat, v = .int .i64 (k : Int) ∧ k ≤ n ∧ v4 = .int .i64 (We.pv 1 s zs k) ∧ Hid (OW base g n cap (We.P 1 s zs k) w0 wr)) (fun _ v _ => n - (intOf v).toNat)
  case atStart => exact ⟨0, rfl, Nat.zero_le _, rfl, H0⟩
  case round =>
    obtain ⟨k, rfl, hk, rfl, hO⟩ := hrel
    by_cases hlt : k < n
    · have hin : (k : Int) < (n : Int) := by omega
      have hkl : k < zs.length := by rw [HL.out]; exact hlt
      have co := hO.out.cell hlt
      rw [We.P_here hkl (Nat.le_refl _)] at co
      have hfz := hO.out.own.frozenAt k
      have HP := hide (pv1 s zs k)
      have HN := hide (fun (y : Int) => hO.out.next (y := y) hkl)
      have HT := hide hO.out.stay
      have HM := hide (fun w' => markBehind_any (We.pv 1 s zs k) w')
      obtain ⟨A, hA⟩ : ∃ A, We.pv 1 s zs k = A := ⟨_, rfl⟩
      rw [hA] at HP HM ⊢
      obtain ⟨x, hx⟩ : ∃ x, zs.getD k 0 = x := ⟨_, rfl⟩
      rw [hx] at HP HT co
      clear hO hA hx hkl
      by_cases h9 : x = 9
      · have hp := HP.out
        rw [if_pos h9] at hp
        have HS := hide (HN.out _ hp)
        have HV := hide hp
        clear hp HP HN HT
        generalize We.mk A = y at *
        subst h9
        go_wp2_with (go_at_call 149; refine (HM.out _).mono ?_; rintro e w' ⟨rfl, rfl⟩)
        go_roundw
        case rel => exact ⟨k + 1, by go_num, by omega, by rw [HV.out], HS⟩
        case measure => simp [intOf]; omega
      · have hp := HP.out
        rw [if_neg h9] at hp
        have HS := hide (HT.out hp)
        have HV := hide hp
        have h9' : (x == 9) = false := beq_false_of_ne h9
        clear hp HP HN HT h9 HM
        go_wp2
        go_roundw
        case rel => exact ⟨k + 1, by go_num, by omega, by rw [HV.out], HS⟩
        case measure => simp [intOf]; omega
    · obtain rfl : k = n := by omega
      have hne : ¬ ((k : Int) < (k : Int)) := by omega
      rw [HE.out] at hO
      clear hlt
      go_wp2
      go_end0
      exact ⟨rfl, hO.out⟩
theorem arabicLetters_any (base g n cap : Nat) (s : Int) (zs : List Int) (w0 w : World) (h : OW base g n cap zs w0 w) (hn : n ≤ 17592186044416) :
    Calls Tryz.prog 136 #[.slice (some ⟨g, 0, none⟩) n cap, .int .i64 s] w fun e w' => e = .returned (.tuple #[]) ∧ OW base g n cap (We.R 3 s zs) w0 w' := by
  have HL := hide h.len
  have H0 := hide (show OW base g n cap (We.P 3 s zs 0) w0 w from by rw [We.P_zero]; exact h)
  have HE := hide (show We.P 3 s zs n = We.R 3 s zs from We.P_end (by rw [h.len]; exact Nat.le_refl _))
  clear h
  go_enter Tryz.func136, Tryz.ntmps136
  go_wp2
  go_loopw [8] (fun v wr => ∃ k : Nat, v = .int .i64 (k : Int) ∧ k ≤ n ∧ Hid (OW base g n cap (We.P 3 s zs k) w0 wr)) (fun v _ => n - (intOf v).toNat)
  case atStart => exact ⟨0, rfl, Nat.zero_le _, H0⟩
  case round =>
    obtain ⟨k, rfl, hk, hO⟩ := hrel
    by_cases hlt : k < n
    · have hin : (k : Int) < (n : Int) := by omega
      have hkl : k < zs.length := by rw [HL.out]; exact hlt
      have co := hO.out.cell hlt
      rw [We.P_here hkl (Nat.le_refl _)] at co
      have hfz := hO.out.own.frozenAt k
      have HP := hide (pv3 s zs k)
      have HN := hide (fun (y : Int) => hO.out.next (y := y) hkl)
      have HT := hide hO.out.stay
      obtain ⟨x, hx⟩ : ∃ x, zs.getD k 0 = x := ⟨_, rfl⟩
      rw [hx] at HP HT co
      clear hO hx hkl
      by_cases h9 : x = 3
      · have hp := HP.out
        rw [if_pos h9] at hp
        have HS := hide (HN.out _ hp)
        clear hp HP HN HT
        subst h9
        go_wp2
        go_roundw
        case rel => exact ⟨k + 1, by go_num, by omega, HS⟩
        case measure => simp [intOf]; omega
      · have hp := HP.out
        rw [if_neg h9] at hp
        have HS := hide (HT.out hp)
        have h9' : (x == 3) = false := beq_false_of_ne h9
        clear hp HP HN HT h9
        go_wp2
        go_roundw
        case rel => exact ⟨k + 1, by go_num, by omega, HS⟩
        case measure => simp [intOf]; omega
    · obtain rfl : k = n := by omega
      have hne : ¬ ((k : Int) < (k : Int)) := by omega
      rw [HE.out] at hO
      clear hlt
      go_wp2
      go_end0
      exact ⟨rfl, hO.out⟩
theorem leftovers_any (base g n cap : Nat) (s : Int) (zs : List Int) (w0 w : World) (h : OW base g n cap zs w0 w) (hn : n ≤ 17592186044416) :
    Calls Tryz.prog 139 #[.slice (some ⟨g, 0, none⟩) n cap, .int .i64 s] w fun e w' => e = .returned (.tuple #[]) ∧ OW base g n cap (We.R 6 s zs) w0 w' := by
  have HL := hide h.len
  have H0 := hide (show OW base g n cap (We.P 6 s zs 0) w0 w from by rw [We.P_zero]; exact h)
  have HE := hide (show We.P 6 s zs n = We.R 6 s zs from We.P_end (by rw [h.len]; exact Nat.le_refl _))
  clear h
  go_enter Tryz.func139, Tryz.ntmps139
  go_wp2
  go_loopw [8] (fun v wr => ∃ k : Nat, v = .int .i64 (k : Int) ∧ k ≤ n ∧ Hid (OW base g n cap (We.P 6 s zs k) w0 wr)) (fun v _ => n - (intOf v).toNat)
  case atStart => exact ⟨0, rfl, Nat.zero_le _, H0⟩
  case round =>
    obtain ⟨k, rfl, hk, hO⟩ := hrel
    by_cases hlt : k < n
    · have hin : (k : Int) < (n : Int) := by omega
      have hkl : k < zs.length := by rw [HL.out]; exact hlt
      have co := hO.out.cell hlt
      rw [We.P_here hkl (Nat.le_refl _)] at co
      have hfz := hO.out.own.frozenAt k
      have HP := hide (pv6 s zs k)
      have HN := hide (fun (y : Int) => hO.out.next (y := y) hkl)
      have HT := hide hO.out.stay
      obtain ⟨x, hx⟩ : ∃ x, zs.getD k 0 = x := ⟨_, rfl⟩
      rw [hx] at HP HT co
      clear hO hx hkl
      have hc : (x = 5 ∨ (¬ x = 5 ∧ x = 6) ∨ (¬ x = 5 ∧ ¬ x = 6 ∧ x = 8)) ∨ (¬ x = 5 ∧ ¬ x = 6 ∧ ¬ x = 8) := by omega
      rcases hc with h9 | ⟨h5, h6, h8⟩
      · have hp := HP.out
        rw [if_pos (by omega)] at hp
        have HS := hide (HN.out _ hp)
        clear hp HP HN HT
        rcases h9 with rfl | ⟨h5, rfl⟩ | ⟨h5, h6, rfl⟩
        all_goals
          go_wp2
          go_roundw
          case rel => exact ⟨k + 1, by go_num, by omega, HS⟩
          case measure => simp [intOf]; omega
      · have hp := HP.out
        rw [if_neg (by omega)] at hp
        have HS := hide (HT.out hp)
        have e5 : (x == 5) = false := beq_false_of_ne h5
        have e6 : (x == 6) = false := beq_false_of_ne h6
        have e8 : (x == 8) = false := beq_false_of_ne h8
        clear hp HP HN HT h5 h6 h8
        go_wp2
        go_roundw
        case rel => exact ⟨k + 1, by go_num, by omega, HS⟩
        case measure => simp [intOf]; omega
    · obtain rfl : k = n := by omega
      have hne : ¬ ((k : Int) < (k : Int)) := by omega
      rw [HE.out] at hO
      clear hlt
      go_wp2
      go_end0
      exact ⟨rfl, hO.out⟩
/-- Rules 2 and 7. -/
def Num (r : Nat) (st ot : Int) : Prop := ∀ s t k, We.pv r s t (k + 1) = if t.getD k 0 = 4 ∧ We.strong t s k = st then ot else t.getD k 0
theorem numbers_any (r : Nat) (st ot : Int) (hr : Num r st ot) (base g n cap : Nat) (s : Int) (zs : List Int) (w0 w : World) (h : OW base g n cap zs w0 w) (hn : n ≤ 17592186044416) :
    Calls Tryz.prog 150 #[.slice (some ⟨g, 0, none⟩) n cap, .int .i64 s, .int .i64 st, .int .i64 ot] w fun e w' => e = .returned (.tuple #[]) ∧ OW base g n cap (We.R r s zs) w0 w' := by
  have HL := hide h.len
  have H0 := hide (show OW base g n cap (We.P r s zs 0) w0 w from by rw [We.P_zero]; exact h)
  have HE := hide (show We.P r s zs n = We.R r s zs from We.P_end (by rw [h.len]; exact Nat.le_refl _))
  have HR := hide hr
  clear h hr
  go_enter Tryz.func150, Tryz.ntmps150
  go_wp2
  go_loopw [8, 14] (fun v8 v wr => ∃ k : Nat, v = .int .i64 (k : Int) ∧ k ≤ n ∧ v8 = .int .i64 (We.strong zs s k) ∧ Hid (OW base g n cap (We.P r s zs k) w0 wr)) (fun _ v _ => n - (intOf v).toNat)
  case atStart => exact ⟨0, rfl, Nat.zero_le _, rfl, H0⟩
  case round =>
    obtain ⟨k, rfl, hk, rfl, hO⟩ := hrel
    by_cases hlt : k < n
    · have hin : (k : Int) < (n : Int) := by omega
      have hkl : k < zs.length := by rw [HL.out]; exact hlt
      have co := hO.out.cell hlt
      rw [We.P_here hkl (Nat.le_refl _)] at co
      have hfz := hO.out.own.frozenAt k
      have HP := hide (HR.out s zs k)
      have HG := hide (strong_succ s zs k)
      have HN := hide (fun (y : Int) => hO.out.next (y := y) hkl)
      have HT := hide hO.out.stay
      obtain ⟨A, hA⟩ : ∃ A, We.strong zs s k = A := ⟨_, rfl⟩
      rw [hA] at HP HG ⊢
      obtain ⟨x, hx⟩ : ∃ x, zs.getD k 0 = x := ⟨_, rfl⟩
      rw [hx] at HP HT HG co
      clear hO hA hx hkl
      have hc : (x = 1 ∨ (¬ x = 1 ∧ x = 2) ∨ (¬ x = 1 ∧ ¬ x = 2 ∧ x = 3)) ∨ (¬ x = 1 ∧ ¬ x = 2 ∧ ¬ x = 3) := by omega
      rcases hc with h9 | ⟨h1, h2, h3⟩
      · have hp := HP.out
        rw [if_neg (by omega)] at hp
        have hg := HG.out
        rw [if_pos (by omega)] at hg
        have HS := hide (HT.out hp)
        have HV := hide hg
        clear hp hg HP HN HT HG
        rcases h9 with rfl | ⟨h1, rfl⟩ | ⟨h1, h2, rfl⟩
        all_goals
          go_wp2
          go_roundw
          case rel => exact ⟨k + 1, by go_num, by omega, by rw [HV.out], HS⟩
          case measure => simp [intOf]; omega
      · have hg := HG.out
        rw [if_neg (by omega)] at hg
        have HV := hide hg
        have e1 : (x == 1) = false := beq_false_of_ne h1
        have e2 : (x == 2) = false := beq_false_of_ne h2
        have e3 : (x == 3) = false := beq_false_of_ne h3
        clear hg HG h1 h2 h3
        by_cases h4 : x = 4
        · by_cases hs : A = st
          · have hp := HP.out
            rw [if_pos ⟨h4, hs⟩] at hp
            have HS := hide (HN.out _ hp)
            clear hp HP HN HT e1 e2 e3
            subst h4 hs
            go_wp2
            go_roundw
            case rel => exact ⟨k + 1, by go_num, by omega, by rw [HV.out], HS⟩
            case measure => simp [intOf]; omega
          · have hp := HP.out
            rw [if_neg (fun h => hs h.2)] at hp
            have HS := hide (HT.out hp)
            have es : (A == st) = false := beq_false_of_ne hs
            clear hp HP HN HT e1 e2 e3 hs
            subst h4
            go_wp2
            go_roundw
            case rel => exact ⟨k + 1, by go_num, by omega, by rw [HV.out], HS⟩
            case measure => simp [intOf]; omega
        · have hp := HP.out
          rw [if_neg (fun h => h4 h.1)] at hp
          have HS := hide (HT.out hp)
          have e4 : (x == 4) = false := beq_false_of_ne h4
          clear hp HP HN HT h4
          go_wp2
          go_roundw
          case rel => exact ⟨k + 1, by go_num, by omega, by rw [HV.out], HS⟩
          case measure => simp [intOf]; omega
    · obtain rfl : k = n := by omega
      have hne : ¬ ((k : Int) < (k : Int)) := by omega
      rw [HE.out] at hO
      clear hlt
      go_wp2
      go_end0
      exact ⟨rfl, hO.out⟩
theorem arabicNumbers_any (base g n cap : Nat) (s : Int) (zs : List Int) (w0 w : World) (h : OW base g n cap zs w0 w) (hn : n ≤ 17592186044416) :
    Calls Tryz.prog 135 #[.slice (some ⟨g, 0, none⟩) n cap, .int .i64 s] w fun e w' => e = .returned (.tuple #[]) ∧ OW base g n cap (We.R 2 s zs) w0 w' := by
  have HN := hide (numbers_any 2 3 7 (fun _ _ _ => rfl) base g n cap s zs w0 w h hn)
  clear h
  go_enter Tryz.func135, Tryz.ntmps135
  go_wp2_with (go_at_call 150; refine HN.out.mono ?_; rintro e w' ⟨rfl, hO⟩)
  go_end0
  exact ⟨rfl, hO⟩
theorem latinNumbers_any (base g n cap : Nat) (s : Int) (zs : List Int) (w0 w : World) (h : OW base g n cap zs w0 w) (hn : n ≤ 17592186044416) :
    Calls Tryz.prog 140 #[.slice (some ⟨g, 0, none⟩) n cap, .int .i64 s] w fun e w' => e = .returned (.tuple #[]) ∧ OW base g n cap (We.R 7 s zs) w0 w' := by
  have HN := hide (numbers_any 7 1 1 (fun _ _ _ => rfl) base g n cap s zs w0 w h hn)
  clear h
  go_enter Tryz.func140, Tryz.ntmps140
  go_wp2_with (go_at_call 150; refine HN.out.mono ?_; rintro e w' ⟨rfl, hO⟩)
  go_end0
  exact ⟨rfl, hO⟩
end Go.Proofs.YtfadjgaledddjaaGreatDoor

/- Rules 4 and 5: separators, terminators. -/
namespace Go.Proofs.YtfadjgaledddjaaGreatDoor
open Go.RowKit
set_option linter.unusedVariables false
set_option maxHeartbeats 1000000
set_option maxRecDepth 100000
theorem pv4 (s : Int) (t : List Int) (k : Nat) : We.pv 4 s t (k + 1) = if We.pv 4 s t k = t.getD (k + 1) 0 ∧ ((t.getD k 0 = 5 ∧ t.getD (k + 1) 0 = 4) ∨ (t.getD k 0 = 8 ∧ (t.getD (k + 1) 0 = 4 ∨ t.getD (k + 1) 0 = 7))) then t.getD (k + 1) 0 else t.getD k 0 := rfl
theorem jn_yes {x p y : Int} (h : p = y) (hj : jn x p = true) : p = y ∧ ((x = 5 ∧ y = 4) ∨ (x = 8 ∧ (y = 4 ∨ y = 7))) := by
  subst h
  simp only [jn, Bool.or_eq_true, Bool.and_eq_true, beq_iff_eq] at hj
  omega
theorem jn_no {x p y : Int} (h : ¬ (p = y ∧ jn x p = true)) : ¬ (p = y ∧ ((x = 5 ∧ y = 4) ∨ (x = 8 ∧ (y = 4 ∨ y = 7)))) := by
  rintro ⟨rfl, h2⟩
  refine h ⟨rfl, ?_⟩
  simp only [jn, Bool.or_eq_true, Bool.and_eq_true, beq_iff_eq]
  omega
theorem separators_any (base g n cap : Nat) (s : Int) (hs : We.Side s) (zs : List Int) (w0 w : World) (h : OW base g n cap zs w0 w) (hn : n ≤ 17592186044416) :
    Calls Tryz.prog 137 #[.slice (some ⟨g, 0, none⟩) n cap, .int .i64 s] w fun e w' => e = .returned (.tuple #[]) ∧ OW base g n cap (We.R 4 s zs) w0 w' := by
  have HL := hide h.len
  have H0 := hide (show OW base g n cap (We.P 4 s zs 1) w0 w from by rw [We.P_same (We.four_first hs), We.P_zero]; exact h)
  have HE := hide (fun (k : Nat) (hk : n ≤ k + 1) => (show We.P 4 s zs k = We.R 4 s zs from by
    have hl := HL.out
    rw [← We.P_end (show zs.length ≤ k + 1 by omega)]
    exact (We.P_same (We.four_last (by omega))).symm))
  clear h
  go_enter Tryz.func137, Tryz.ntmps137
  go_wp2
  go_loopw [4] (fun v wr => ∃ k : Nat, v = .int .i64 ((k : Int) + 1) ∧ (k = 0 ∨ k + 2 ≤ n) ∧ Hid (OW base g n cap (We.P 4 s zs (k + 1)) w0 wr)) (fun v _ => n - (intOf v).toNat)
  case atStart => exact ⟨0, rfl, .inl rfl, H0⟩
  case round =>
    obtain ⟨k, rfl, hk, hO⟩ := hrel
    by_cases hlt : k + 2 < n
    · have hin : (k : Int) + 1 < (n : Int) - 1 := by omega
      have hl := HL.out
      have hb1 : (k : Int) < (n : Int) := by omega
      have hb2 : ((k : Int) + 1) < (n : Int) := by omega
      have hb3 : ((k : Int) + 1 + 1) < (n : Int) := by omega
      have c1 := hO.out.cell (show k < n by omega)
      have c2 := hO.out.cell (show k + 1 < n by omega)
      have c3 := hO.out.cell (show k + 1 + 1 < n by omega)
      have hfz := hO.out.own.frozenAt (k + 1)
      rw [We.P_last (by omega)] at c1
      rw [We.P_here (by omega) (by omega)] at c2 c3
      have HP := hide (pv4 s zs (k + 1))
      have HN := hide (fun (nq : Nat) (y : Int) => (hO.out.drewN nq).next (y := y) (show k + 1 < zs.length by omega))
      have HT := hide (fun (nq : Nat) => (hO.out.drewN nq).stay)
      obtain ⟨p, hp⟩ : ∃ p, We.pv 4 s zs (k + 1) = p := ⟨_, rfl⟩
      rw [hp] at HP c1
      obtain ⟨x, hx⟩ : ∃ x, zs.getD (k + 1) 0 = x := ⟨_, rfl⟩
      rw [hx] at HP HT c2
      obtain ⟨y, hy⟩ : ∃ y, zs.getD (k + 1 + 1) 0 = y := ⟨_, rfl⟩
      rw [hy] at HP c3
      have HJ := hide (fun w' => joins_any x p w')
      clear hO hp hx hy hl
      by_cases hj : jn x p = true
      · rw [hj] at HJ
        by_cases hpy : p = y
        · have hP := HP.out
          rw [if_pos (jn_yes hpy hj), ← hpy] at hP
          have HS := hide (fun nq => HN.out nq _ hP)
          have hE : (p == y) = true := beq_iff_eq.2 hpy
          clear hP HP HN HT hj hpy
          go_wp2_with fail
          go_quiet (first | (go_at_call 151; refine Calls.quiet_of_same ((HJ.out _).mono fun _ _ ⟨he, hm⟩ => ⟨he, hm.symm⟩)))
          go_wp2
          go_roundw
          case rel => exact ⟨k + 1, by go_num, by omega, hide (HS.out _)⟩
          case measure => simp [intOf]; omega
        · have hP := HP.out
          rw [if_neg (jn_no (fun h => hpy h.1))] at hP
          have HS := hide (fun nq => HT.out nq hP)
          have hE : (p == y) = false := beq_false_of_ne hpy
          clear hP HP HN HT hj hpy
          go_wp2_with fail
          go_quiet (first | (go_at_call 151; refine Calls.quiet_of_same ((HJ.out _).mono fun _ _ ⟨he, hm⟩ => ⟨he, hm.symm⟩)))
          go_wp2
          go_roundw
          case rel => exact ⟨k + 1, by go_num, by omega, hide (HS.out _)⟩
          case measure => simp [intOf]; omega
      · have hP := HP.out
        rw [if_neg (jn_no (fun h => hj h.2))] at hP
        have HS := hide (fun nq => HT.out nq hP)
        rw [Bool.not_eq_true] at hj
        rw [hj] at HJ
        clear hP HP HN HT hj
        go_wp2_with fail
        go_quiet (first | (go_at_call 151; refine Calls.quiet_of_same ((HJ.out _).mono fun _ _ ⟨he, hm⟩ => ⟨he, hm.symm⟩)))
        go_wp2
        go_roundw
        case rel => exact ⟨k + 1, by go_num, by omega, hide (HS.out _)⟩
        case measure => simp [intOf]; omega
    · have hne : ¬ (k : Int) + 1 < (n : Int) - 1 := by omega
      rw [HE.out (k + 1) (by omega)] at hO
      clear hlt
      go_wp2
      go_end0
      exact ⟨rfl, hO.out⟩
/-- What stands about a stretch, as the walk asks. -/
theorem terminators_any (base g n cap : Nat) (s : Int) (zs : List Int) (w0 w : World) (h : OW base g n cap zs w0 w) (hn : n ≤ 17592186044416) :
    Calls Tryz.prog 138 #[.slice (some ⟨g, 0, none⟩) n cap, .int .i64 s] w fun e w' => e = .returned (.tuple #[]) ∧ OW base g n cap (We.R 5 s zs) w0 w' := by
  obtain ⟨ii, hii, hy0, hy1, hy2⟩ := info_parts infoInt
  have HII : Hid (Tryz.prog.info? 3 = some ii) := hii
  have HL := hide h.len
  have hcap : n ≤ cap := h.row.le
  have H0 := hide (show OW base g n cap (We.P 5 s zs 0) w0 w from by rw [We.P_zero]; exact h)
  have HE := hide (show We.P 5 s zs n = We.R 5 s zs from We.P_end (by rw [h.len]; exact Nat.le_refl _))
  clear h hii hy0 hy1 hy2
  go_enter Tryz.func138, Tryz.ntmps138
  go_wp2
  go_loopw [4] (fun v wr => ∃ f : Nat, v = .int .i64 (f : Int) ∧ f ≤ n ∧ Hid (We.Edge zs f) ∧ Hid (OW base g n cap (We.P 5 s zs f) w0 wr)) (fun v _ => n - (intOf v).toNat)
  case atStart => exact ⟨0, rfl, Nat.zero_le _, hide (We.edge_zero zs), H0⟩
  case round =>
    obtain ⟨f, rfl, hf, hE, hO⟩ := hrel
    by_cases hlt : f < n
    · have hin : (f : Int) < (n : Int) := by omega
      have HST := hide (stretch_any (some ⟨g, 0, none⟩) n cap f (We.P 5 s zs f) wr hO.out.row hlt hn)
      go_wp2_with fail
      refine HST.out.mono ?_
      rintro e w1 ⟨e1, rfl, hS, nq, rfl⟩
      have hl := HL.out
      have hS' : We.Str zs f e1 := by
        have hle := hS.le
        rw [We.P_len] at hle
        refine ⟨hS.lt, hle, fun i h1 h2 => ?_, fun h1 => ?_⟩
        · have := hS.all i h1 h2
          rw [We.P_here (by omega) h1, We.P_here (by omega) (Nat.le_refl _)] at this
          exact this
        · have h3 := hS.lt
          have := hS.out (by rw [We.P_len]; exact h1)
          rw [We.P_here h1 (by omega), We.P_here (by omega) (Nat.le_refl _)] at this
          exact this
      have he1 := hS'.lt
      have he2 : e1 ≤ n := by have := hS'.le; omega
      have HSS := hide hS'
      have hO2 := hide (hO.out.drewN nq)
      clear hO hS hS' HST
      generalize wr.drewN nq = w1 at *
      have co := hO2.out.cell hlt
      rw [We.P_here (by omega) (Nat.le_refl _)] at co
      have HED := hide (We.edge_next HSS.out)
      have hin2 : (e1 : Int) ≤ (n : Int) := by omega
      by_cases h6 : zs.getD f 0 = 6
      · rw [h6] at co
        have hA : ∃ A : Bool, (A = true ↔ (0 < f ∧ zs.getD (f - 1) 0 = 4)) ∧ Calls Tryz.prog 153 #[.slice (some ⟨g, 0, none⟩) n cap, .int .i64 ((f : Int) - 1), .int .i64 4] w1 fun e w' => e = .returned (.bool A) ∧ w1 = w' := by
          cases f with
          | zero => exact ⟨false, by simp, has_neg (some ⟨g, 0, none⟩) n cap 4 w1⟩
          | succ f =>
            have := has_in (some ⟨g, 0, none⟩) n cap f 4 (We.P 5 s zs (f + 1)) w1 hO2.out.row (by omega)
            rw [We.P_last (by omega), We.five_prev hE.out (by omega) h6] at this
            refine ⟨zs.getD f 0 == 4, by simp, ?_⟩
            rw [show ((f + 1 : Nat) : Int) - 1 = (f : Int) by omega]
            exact this
        obtain ⟨A, hA1, hA2⟩ := hA
        have hB : ∃ B : Bool, (B = true ↔ zs.getD e1 0 = 4) ∧ Calls Tryz.prog 153 #[.slice (some ⟨g, 0, none⟩) n cap, .int .i64 (e1 : Int), .int .i64 4] w1 fun e w' => e = .returned (.bool B) ∧ w1 = w' := by
          by_cases hen : e1 < n
          · have := has_in (some ⟨g, 0, none⟩) n cap e1 4 (We.P 5 s zs f) w1 hO2.out.row hen
            rw [We.P_here (by omega) (by omega)] at this
            exact ⟨zs.getD e1 0 == 4, by simp, this⟩
          · exact ⟨false, by rw [We.getD_out (by omega)]; simp, has_out (some ⟨g, 0, none⟩) n cap e1 4 w1 (by omega)⟩
        obtain ⟨B, hB1, hB2⟩ := hB
        have HA2 := hide hA2
        have HB2 := hide hB2
        clear hA2 hB2 hl
        by_cases hAB : A = true ∨ B = true
        · have hH : We.Hit zs f e1 := ⟨h6, by rw [← hA1, ← hB1]; exact hAB⟩
          have HF := hide (fill_any base g n cap (cap - f) f (e1 - f) 4 (We.P 5 s zs f) w0 w1 hO2.out (by omega) hn)
          rw [← We.P_fill HSS.out hE.out hH] at HF
          have hsl := fun w' => run_mid Tryz.underlying24 HII.out cellsInt (some ⟨g, 0, none⟩) n cap f e1 (by omega) (by omega) w'
          have htl : tl (some ⟨g, 0, none⟩) cap f = some ⟨g, f, none⟩ := by
            unfold tl
            rw [if_neg (by omega)]
            simp only [Option.map_some, Option.some.injEq]
            unfold Addr.add
            split <;> simp_all
          rw [htl] at hsl
          obtain ⟨m, hm⟩ : ∃ m, e1 - f = m := ⟨_, rfl⟩
          obtain ⟨c2, hc2⟩ : ∃ c2, cap - f = c2 := ⟨_, rfl⟩
          rw [hm, hc2] at HF hsl
          clear hA1 hB1 h6 hH htl hm hc2 hO2 HSS
          cases A with
          | true =>
            clear HB2 hAB
            go_wp2_with fail
            refine HA2.out.mono ?_
            rintro e w2 ⟨rfl, rfl⟩
            go_wp2_with fail
            refine HF.out.mono ?_
            rintro e w2 ⟨rfl, hO3⟩
            have HM := hide hO3
            clear hO3 HF hsl HA2
            go_wp2
            go_roundw
            case rel => exact ⟨e1, by go_num, by omega, HED, HM⟩
            case measure => simp [intOf]; omega
          | false =>
            obtain rfl : B = true := by simpa using hAB
            clear hAB
            go_wp2_with fail
            refine HA2.out.mono ?_
            rintro e w2 ⟨rfl, rfl⟩
            go_wp2_with fail
            refine HB2.out.mono ?_
            rintro e w2 ⟨rfl, rfl⟩
            go_wp2_with fail
            refine HF.out.mono ?_
            rintro e w2 ⟨rfl, hO3⟩
            have HM := hide hO3
            clear hO3 HF hsl HA2 HB2
            go_wp2
            go_roundw
            case rel => exact ⟨e1, by go_num, by omega, HED, HM⟩
            case measure => simp [intOf]; omega
        · have hH : ¬ We.Hit zs f e1 := fun h => hAB (by rw [hA1, hB1]; exact h.2)
          have HM := hide (show OW base g n cap (We.P 5 s zs e1) w0 w1 from by rw [We.P_miss HSS.out hE.out hH]; exact hO2.out)
          have hA0 : A = false := Bool.eq_false_iff.2 (fun h => hAB (.inl h))
          have hB0 : B = false := Bool.eq_false_iff.2 (fun h => hAB (.inr h))
          clear hA1 hB1 h6 hH hO2 HSS hAB
          subst hA0 hB0
          go_wp2_with fail
          refine HA2.out.mono ?_
          rintro e w2 ⟨rfl, rfl⟩
          go_wp2_with fail
          refine HB2.out.mono ?_
          rintro e w2 ⟨rfl, rfl⟩
          clear HA2 HB2
          go_wp2
          go_roundw
          case rel => exact ⟨e1, by go_num, by omega, HED, HM⟩
          case measure => simp [intOf]; omega
      · have hH : ¬ We.Hit zs f e1 := fun h => h6 h.1
        have HM := hide (show OW base g n cap (We.P 5 s zs e1) w0 w1 from by rw [We.P_miss HSS.out hE.out hH]; exact hO2.out)
        have e6 : (zs.getD f 0 == 6) = false := beq_false_of_ne h6
        generalize zs.getD f 0 = x at *
        clear hH h6 hO2 HSS
        go_wp2
        go_roundw
        case rel => exact ⟨e1, by go_num, by omega, HED, HM⟩
        case measure => simp [intOf]; omega
    · obtain rfl : f = n := by omega
      have hne : ¬ ((f : Int) < (f : Int)) := by omega
      rw [HE.out] at hO
      clear hlt
      go_wp2
      go_end0
      exact ⟨rfl, hO.out⟩
end Go.Proofs.YtfadjgaledddjaaGreatDoor

/- rules, behind, Step, Resolve. -/
namespace Go.Proofs.YtfadjgaledddjaaGreatDoor
open Go.RowKit
set_option linter.unusedVariables false
set_option maxHeartbeats 1000000
set_option maxRecDepth 100000
/-- The rules' functions, in their order. -/
def rfn : Nat → Nat
  | 0 => 134
  | 1 => 135
  | 2 => 136
  | 3 => 137
  | 4 => 138
  | 5 => 139
  | _ => 140
/-- A block that holds them. -/
structure FC (w : World) (b : Nat) : Prop where
  lt : b < w.heap.size
  cells : ∀ j, j < 7 → w.cell? ⟨b, j, none⟩ = some (.func (.func (rfn j)) #[] #[])
theorem FC.keep {w w' : World} {b B : Nat} (h : FC w b) (hb : Below B w w') (hB : b < B) : FC w' b :=
  ⟨Nat.lt_of_lt_of_le h.lt hb.size, fun j hj => (hb.cell (by exact hB)).trans (h.cells j hj)⟩
theorem wrules_any (w : World) : Calls Tryz.prog 115 #[] w fun e w' => e = .returned (.slice (some ⟨w.heap.size, 0, none⟩) 7 7) ∧ FC w' w.heap.size ∧ KO w w' := by
  go_enter Tryz.func115, Tryz.ntmps115
  go_wp2
  go_ret
  refine ⟨rfl, ⟨by simp, fun j hj => ?_⟩, KO.alloc (KO.refl _) _⟩
  rw [World.cell?_alloc_mark]
  have hj' : j = 0 ∨ j = 1 ∨ j = 2 ∨ j = 3 ∨ j = 4 ∨ j = 5 ∨ j = 6 := by omega
  rcases hj' with rfl | rfl | rfl | rfl | rfl | rfl | rfl <;> rfl
theorem wrule_any (j : Nat) (hj : j < 7) (base g n cap : Nat) (s : Int) (hs : We.Side s) (zs : List Int) (w0 w : World) (h : OW base g n cap zs w0 w) (hn : n ≤ 17592186044416) :
    Calls Tryz.prog (rfn j) #[.slice (some ⟨g, 0, none⟩) n cap, .int .i64 s] w fun e w' => e = .returned (.tuple #[]) ∧ OW base g n cap (We.R (j + 1) s zs) w0 w' := by
  have hj' : j = 0 ∨ j = 1 ∨ j = 2 ∨ j = 3 ∨ j = 4 ∨ j = 5 ∨ j = 6 := by omega
  rcases hj' with rfl | rfl | rfl | rfl | rfl | rfl | rfl
  · exact marks_any base g n cap s zs w0 w h hn
  · exact arabicNumbers_any base g n cap s zs w0 w h hn
  · exact arabicLetters_any base g n cap s zs w0 w h hn
  · exact separators_any base g n cap s hs zs w0 w h hn
  · exact terminators_any base g n cap s zs w0 w h hn
  · exact leftovers_any base g n cap s zs w0 w h hn
  · exact latinNumbers_any base g n cap s zs w0 w h hn
/-- Behind k rules from one on. -/
def RF (r0 : Nat) (s : Int) (t : List Int) : Nat → List Int
  | 0 => t
  | k + 1 => We.R (r0 + k + 1) s (RF r0 s t k)
theorem RF_succ (r0 : Nat) (s : Int) (t : List Int) (k : Nat) : RF r0 s t (k + 1) = We.R (r0 + k + 1) s (RF r0 s t k) := rfl
theorem RF_zero (s : Int) (t : List Int) (k : Nat) : RF 0 s t k = We.RR s t k := by
  induction k with
  | zero => rfl
  | succ k ih => rw [RF_succ, ih, Nat.zero_add, We.RR_succ]
theorem behind_side (ao : Option Addr) (n cap : Nat) (s : Int) (v : Value) (w : World) (hs : ¬ We.Side s) :
    Calls Tryz.prog 114 #[.slice ao n cap, .int .i64 s, v] w fun e w' => e = .returned (.tuple #[.slice none 0 0, .int .i64 2]) ∧ w = w' := by
  have h1 : (s != 1) = true := bne_iff_ne.2 (fun h => hs (.inl h))
  have h2 : (s != 2) = true := bne_iff_ne.2 (fun h => hs (.inr h))
  clear hs
  go_enter Tryz.func114, Tryz.ntmps114
  go_wp2
  go_ret2
  exact ⟨rfl, rfl⟩
theorem side_tests {s : Int} (h : We.Side s) : (s = 1) ∨ (¬ s = 1 ∧ s = 2) := by unfold We.Side at h; omega
theorem behind_form (ao : Option Addr) (n cap : Nat) (s : Int) (v : Value) (c : List Int) (w : World) (h : Row .i64 w ao n cap c) (hn : n ≤ 17592186044416) (hs : We.Side s) (hb : ¬ We.Ok c) :
    Calls Tryz.prog 114 #[.slice ao n cap, .int .i64 s, v] w fun e w' => e = .returned (.tuple #[.slice none 0 0, .int .i64 50]) ∧ w = w' := by
  have H := hide h
  have HL := hide h.len
  have HB := hide hb
  clear h hb
  have hs' := side_tests hs
  clear hs
  rcases hs' with rfl | ⟨h1, rfl⟩
  all_goals
    go_enter Tryz.func114, Tryz.ntmps114
    go_wp2
    go_loopw [21] (fun v wr => ∃ k : Nat, v = .int .i64 (k : Int) ∧ k ≤ n ∧ Hid (∀ i, i < k → We.May (c.getD i 0)) ∧ w = wr) (fun v _ => n - (intOf v).toNat)
    case atStart => exact ⟨0, rfl, Nat.zero_le _, hide (fun i hi => by omega), rfl⟩
    case round =>
      obtain ⟨k, rfl, hk, hall, rfl⟩ := hrel
      by_cases hlt : k < n
      · obtain ⟨b, off, rfl, hbl, hc⟩ := H.out.cells (by omega)
        have ck : w.cell? ⟨b, off + k, none⟩ = some (.int .i64 (c.getD k 0)) := hc k (by rw [HL.out]; exact hlt)
        have hin : (k : Int) < (n : Int) := by omega
        have HM := hide (mayBe_any (c.getD k 0) w)
        have HN := hide (fun (h : We.May (c.getD k 0)) (i : Nat) (hi : i < k + 1) => (show We.May (c.getD i 0) from by
          by_cases hik : i = k
          · rw [hik]; exact h
          · exact hall.out i (by omega)))
        generalize c.getD k 0 = x at *
        clear hc hall
        by_cases hm : We.May x
        · rw [decide_eq_true hm] at HM
          have HA := hide (HN.out hm)
          clear HN hm
          go_wp2_with (go_at_call 133; refine HM.out.mono ?_; rintro e w' ⟨rfl, rfl⟩)
          go_roundw
          case rel => exact ⟨k + 1, by go_num, by omega, HA, trivial⟩
          case measure => simp [intOf]; omega
        · rw [decide_eq_false hm] at HM
          clear HN hm
          go_wp2_with (go_at_call 133; refine HM.out.mono ?_; rintro e w' ⟨rfl, rfl⟩)
          go_ret2
          exact ⟨rfl, rfl⟩
      · exact absurd (fun i hi => hall.out i (by rw [HL.out] at hi; omega)) HB.out
theorem behind_ok (ao : Option Addr) (n cap : Nat) (s : Int) (b r0 m cp : Nat) (c : List Int) (w : World) (h : Row .i64 w ao n cap c) (hn : n * 8 ≤ 140737488351232) (hs : We.Side s) (hok : We.Ok c) (hf : FC w b) (hm : r0 + m ≤ 7) :
    Calls Tryz.prog 114 #[.slice ao n cap, .int .i64 s, .slice (some ⟨b, r0, none⟩) m cp] w fun e w' => e = .returned (.tuple #[.slice (some ⟨w.heap.size, 0, none⟩) n n, .int .i64 0]) ∧ OW w.heap.size w.heap.size n n (RF r0 s c m) w w' := by
  obtain ⟨ii, hii, hy0, hy1, hy2⟩ := info_parts infoInt
  have HII : Hid (Tryz.prog.info? 3 = some ii) := hii
  have HY0 := hide hy0
  have HY1 := hide hy1
  have HY2 := hide hy2
  have H := hide h
  have HL := hide h.len
  have HB := hide hok
  have HF := hide hf
  have hn2 : n ≤ 17592186044416 := by omega
  have hs' := side_tests hs
  have HS := hide hs
  clear h hok hf hii hy0 hy1 hy2 hs
  obtain ⟨Z, hZ⟩ : ∃ Z, RF r0 s c m = Z := ⟨_, rfl⟩
  have HZ := hide hZ
  rw [hZ]
  clear hZ
  have HRU := hide (fun (j : Nat) (hj : j < 7) (zs : List Int) (w' : World) (h : OW w.heap.size w.heap.size n n zs w w') => wrule_any j hj w.heap.size w.heap.size n n s HS.out zs w w' h hn2)
  have HRF := hide (fun (k : Nat) => RF_succ r0 s c k)
  obtain ⟨F, hF⟩ : ∃ F : Nat → List Int, F = RF r0 s c := ⟨_, rfl⟩
  rw [← hF] at HRF HZ
  have HR0 := hide (show F 0 = c from by rw [hF]; rfl)
  clear hF HS
  rcases hs' with rfl | ⟨h1, rfl⟩
  all_goals
    go_enter Tryz.func114, Tryz.ntmps114
    go_wp2
    go_loopw [21] (fun v wr => ∃ k : Nat, v = .int .i64 (k : Int) ∧ k ≤ n ∧ w = wr) (fun v _ => n - (intOf v).toNat)
    case atStart => exact ⟨0, rfl, Nat.zero_le _, rfl⟩
    case round =>
      obtain ⟨k, rfl, hk, rfl⟩ := hrel
      by_cases hlt : k < n
      · obtain ⟨bb, off, rfl, hbl, hc⟩ := H.out.cells (by omega)
        have hkl : k < c.length := by rw [HL.out]; exact hlt
        have ck : w.cell? ⟨bb, off + k, none⟩ = some (.int .i64 (c.getD k 0)) := hc k hkl
        have hin : (k : Int) < (n : Int) := by omega
        have HM := hide (mayBe_any (c.getD k 0) w)
        rw [decide_eq_true (HB.out k hkl)] at HM
        generalize c.getD k 0 = x at *
        clear hc hkl
        go_wp2_with (go_at_call 133; refine HM.out.mono ?_; rintro e w' ⟨rfl, rfl⟩)
        go_roundw
        case rel => exact ⟨k + 1, by go_num, by omega, trivial⟩
        case measure => simp [intOf]; omega
      · obtain rfl : k = n := by omega
        have hne : ¬ ((k : Int) < (k : Int)) := by omega
        clear hlt hk
        go_wp2_with (at_make; refine wpList_make_full _ rfl _ _ 24 rfl w.heap.size 3 ii (.int .i64 0) 1 Tryz.underlying24 HII.out HY0.out HY1.out _ _ _ _ k rfl rfl rfl rfl ?b2 ?b3 (Nat.le_refl _) ?_)
        case b2 => rw [HY2.out]; omega
        case b3 => unfold maxLen; omega
        intro w1 hown hgrow
        have hbel := (Below.refl w.heap.size w).grown hgrow (Nat.le_refl _) (fun _ h => by cases h)
        obtain ⟨cur, hcg, hcl⟩ : ∃ cur : List Value, w1.heap[w.heap.size]? = some (.cells cur.toArray 3 (0, 0)) ∧ cur.length = k := ⟨_, block_owns hown, by have := hown.1; rw [Nat.mul_one] at this; exact this⟩
        have HG := hide hcg
        have HGL := hide hcl
        have HBE := hide hbel
        have HR1 := hide (H.out.below hbel)
        clear hown hgrow hbel hcg hcl
        obtain ⟨w2, hcp, hg2, hb2⟩ := run_copy_ints HR1.out HG.out HGL.out HBE.out (Nat.le_refl _)
        have HO := hide (show OW w.heap.size w.heap.size k k (F 0) w w2 from by
          refine ⟨owns_block hg2 ?_ ?_ ?_ (Nat.le_refl _), hb2⟩
          · rw [HR0.out]
          · rw [HR0.out, HL.out]
          · unfold maxLen; omega)
        clear hg2 hb2 HG HGL HR1 HBE
        go_wp2
        clear hcp
        go_loopw [37] (fun v wr => ∃ j : Nat, v = .int .i64 (j : Int) ∧ j ≤ m ∧ Hid (OW w.heap.size w.heap.size k k (F j) w wr)) (fun v _ => m - (intOf v).toNat)
        case atStart => exact ⟨0, rfl, Nat.zero_le _, HO⟩
        case round =>
          obtain ⟨j, rfl, hj, hO⟩ := hrel
          by_cases hjm : j < m
          · have hin : (j : Int) < (m : Int) := by omega
            have cf := (HF.out.keep hO.out.bel HF.out.lt).cells (r0 + j) (by omega)
            have HC := hide (HRU.out (r0 + j) (by omega) (F j) wr hO.out)
            rw [← HRF.out j] at HC
            have HM := hide (meas_n0 m j hjm)
            clear hO
            have hj7 : r0 + j = 0 ∨ r0 + j = 1 ∨ r0 + j = 2 ∨ r0 + j = 3 ∨ r0 + j = 4 ∨ r0 + j = 5 ∨ r0 + j = 6 := by omega
            obtain ⟨fno, hfno⟩ : ∃ fno, rfn (r0 + j) = fno := ⟨_, rfl⟩
            rw [hfno] at cf HC
            have hall : fno = 134 ∨ fno = 135 ∨ fno = 136 ∨ fno = 137 ∨ fno = 138 ∨ fno = 139 ∨ fno = 140 := by
              rw [← hfno]
              rcases hj7 with h | h | h | h | h | h | h <;> rw [h] <;> decide
            clear hfno hj7
            rcases hall with rfl | rfl | rfl | rfl | rfl | rfl | rfl
            all_goals
              go_wp2_with fail
              refine HC.out.mono ?_
              rintro e w3 ⟨rfl, hO3⟩
              have HO3 := hide hO3
              clear hO3 HC cf
              go_wp2
              go_roundw
              case rel => exact ⟨j + 1, by go_num, by omega, HO3⟩
              case measure => simp [intOf]; omega
          · obtain rfl : j = m := by omega
            have hne : ¬ ((j : Int) < (j : Int)) := by omega
            rw [HZ.out] at hO
            clear hjm
            go_wp2
            go_ret2
            exact ⟨rfl, hO.out⟩
end Go.Proofs.YtfadjgaledddjaaGreatDoor

/- Step, Resolve. -/
namespace Go.Proofs.YtfadjgaledddjaaGreatDoor
open Go.RowKit
set_option linter.unusedVariables false
set_option maxHeartbeats 1000000
set_option maxRecDepth 100000
theorem wresolve_side (ao : Option Addr) (n cap : Nat) (s : Int) (w : World) (hs : ¬ We.Side s) :
    Calls Tryz.prog 105 #[.slice ao n cap, .int .i64 s] w fun e w' => e = .returned (.tuple #[.slice none 0 0, .int .i64 2]) ∧ KO w w' := by
  have HR := hide (wrules_any w)
  have HB := hide (fun v w' => behind_side ao n cap s v w' hs)
  clear hs
  go_enter Tryz.func105, Tryz.ntmps105
  go_wp2_with fail
  refine HR.out.mono ?_
  rintro e w1 ⟨rfl, hf, hk⟩
  have HK := hide hk
  clear hf hk
  go_wp2_with fail
  refine (HB.out _ _).mono ?_
  rintro e w2 ⟨rfl, rfl⟩
  go_wp2
  go_ret2
  exact ⟨rfl, HK.out⟩
theorem wresolve_form (ao : Option Addr) (n cap : Nat) (s : Int) (c : List Int) (w : World) (h : Row .i64 w ao n cap c) (hn : n ≤ 17592186044416) (hs : We.Side s) (hb : ¬ We.Ok c) :
    Calls Tryz.prog 105 #[.slice ao n cap, .int .i64 s] w fun e w' => e = .returned (.tuple #[.slice none 0 0, .int .i64 50]) ∧ KO w w' := by
  have HR := hide (wrules_any w)
  have HB := hide (fun v w' (hk : KO w w') => behind_form ao n cap s v c w' (h.below hk) hn hs hb)
  clear hs hb h
  go_enter Tryz.func105, Tryz.ntmps105
  go_wp2_with fail
  refine HR.out.mono ?_
  rintro e w1 ⟨rfl, hf, hk⟩
  have HK := hide hk
  clear hf hk
  go_wp2_with fail
  refine (HB.out _ _ HK.out).mono ?_
  rintro e w2 ⟨rfl, rfl⟩
  go_wp2
  go_ret2
  exact ⟨rfl, HK.out⟩
/-- A row that the call has made. -/
structure New (w : World) (ao : Option Addr) (n cap : Nat) (zs : List Int) (w' : World) : Prop where
  row : Row .i64 w' ao n cap zs
  bel : KO w w'
theorem wresolve_ok (ao : Option Addr) (n cap : Nat) (s : Int) (c : List Int) (w : World) (h : Row .i64 w ao n cap c) (hn : n * 8 ≤ 140737488351232) (hs : We.Side s) (hb : We.Ok c) :
    Calls Tryz.prog 105 #[.slice ao n cap, .int .i64 s] w fun e w' => ∃ g, e = .returned (.tuple #[.slice (some ⟨g, 0, none⟩) n n, .int .i64 0]) ∧ New w (some ⟨g, 0, none⟩) n n (We.RR s c 7) w' := by
  have HR := hide (wrules_any w)
  have HB := hide (fun w' (hk : KO w w') (hf : FC w' w.heap.size) => behind_ok ao n cap s w.heap.size 0 7 7 c w' (h.below hk) hn hs hb hf (by omega))
  clear hs hb h
  go_enter Tryz.func105, Tryz.ntmps105
  go_wp2_with fail
  refine HR.out.mono ?_
  rintro e w1 ⟨rfl, hf, hk⟩
  have HB2 := hide (HB.out w1 hk hf)
  have HK := hide hk
  clear hf hk HB HR
  go_wp2_with fail
  refine HB2.out.mono ?_
  rintro e w2 ⟨rfl, hO⟩
  have HN := hide (show New w (some ⟨w1.heap.size, 0, none⟩) n n (We.RR s c 7) w2 from ⟨by rw [← RF_zero]; exact hO.row, KO.on HK.out hO.bel⟩)
  clear hO HB2
  go_wp2
  go_ret2
  exact ⟨_, rfl, HN.out⟩
end Go.Proofs.YtfadjgaledddjaaGreatDoor

/- works: the chapter's examples. -/
namespace Go.Proofs.YtfadjgaledddjaaGreatDoor
open Go.RowKit
set_option linter.unusedVariables false
set_option maxHeartbeats 1000000
set_option maxRecDepth 100000
theorem ok_all {t : List Int} (h : ∀ x ∈ t, We.May x) : We.Ok t := by
  intro i hi
  have e : t.getD i 0 = t[i] := by simp [List.getD, List.getElem?_eq_getElem hi]
  rw [e]; exact h _ (List.getElem_mem _)
theorem ok9a : We.Ok [3, 4] := ok_all (by decide)
theorem ok9b : We.Ok [6, 6, 4] := ok_all (by decide)
theorem ok9c : We.Ok [4, 8, 4] := ok_all (by decide)
theorem ex9a : We.RR 1 [3, 4] 7 = [2, 7] := by decide
theorem ex9b : We.RR 2 [6, 6, 4] 7 = [4, 4, 4] := by decide
theorem ex9c : We.RR 1 [4, 8, 4] 7 = [1, 1, 1] := by decide
theorem New.keep {w w' w2 : World} {ao : Option Addr} {n cap : Nat} {zs : List Int} (h : New w ao n cap zs w') (hk : KO w' w2) : New w ao n cap zs w2 := ⟨h.row.below hk, KO.on h.bel hk⟩
end Go.Proofs.YtfadjgaledddjaaGreatDoor

/- What the rules leave: plain mathematics. No Go in sight. -/
namespace Go.Proofs.YtfadjgaledddjaaGreatDoor.We
set_option linter.unusedVariables false
/-- A type that a list does not have. -/
def Not (x : Int) (t : List Int) : Prop := ∀ i, i < t.length → ¬ t.getD i 0 = x
theorem pv_cases (r : Nat) (s : Int) (t : List Int) (i : Nat) : pv r s t (i + 1) = t.getD i 0 ∨ (r = 1 ∧ t.getD i 0 = 9 ∧ pv r s t (i + 1) = mk (pv r s t i)) ∨ (r = 2 ∧ t.getD i 0 = 4 ∧ strong t s i = 3 ∧ pv r s t (i + 1) = 7) ∨ (r = 3 ∧ t.getD i 0 = 3 ∧ pv r s t (i + 1) = 2) ∨ (r = 4 ∧ (t.getD i 0 = 5 ∨ t.getD i 0 = 8) ∧ (pv r s t (i + 1) = 4 ∨ pv r s t (i + 1) = 7)) ∨ (r = 5 ∧ t.getD i 0 = 6 ∧ pv r s t (i + 1) = 4) ∨ (r = 6 ∧ (t.getD i 0 = 5 ∨ t.getD i 0 = 6 ∨ t.getD i 0 = 8) ∧ pv r s t (i + 1) = 14) ∨ (r = 7 ∧ t.getD i 0 = 4 ∧ strong t s i = 1 ∧ pv r s t (i + 1) = 1) := by
  rw [pv_succ]
  generalize pv r s t i = p
  unfold one
  split
  · split
    · rename_i h; exact .inr (.inl ⟨rfl, h, rfl⟩)
    · exact .inl rfl
  · split
    · rename_i h; exact .inr (.inr (.inl ⟨rfl, h.1, h.2, rfl⟩))
    · exact .inl rfl
  · split
    · rename_i h; exact .inr (.inr (.inr (.inl ⟨rfl, h, rfl⟩)))
    · exact .inl rfl
  · split
    · rename_i h
      exact .inr (.inr (.inr (.inr (.inl ⟨rfl, by omega, by omega⟩))))
    · exact .inl rfl
  · split
    · rename_i h; exact .inr (.inr (.inr (.inr (.inr (.inl ⟨rfl, h.1, rfl⟩)))))
    · exact .inl rfl
  · split
    · rename_i h; exact .inr (.inr (.inr (.inr (.inr (.inr (.inl ⟨rfl, h, rfl⟩))))))
    · exact .inl rfl
  · split
    · rename_i h; exact .inr (.inr (.inr (.inr (.inr (.inr (.inr ⟨rfl, h.1, h.2, rfl⟩))))))
    · exact .inl rfl
  · exact .inl rfl
theorem mk_ne {x a : Int} (h1 : ¬ x = 14) (h2 : ¬ a = x) : ¬ mk a = x := by
  unfold mk
  split
  · omega
  · exact h2
/-- Behind rule 1 there is no NSM. -/
theorem one_marks {s : Int} (hs : Side s) (t : List Int) : ∀ i, ¬ pv 1 s t i = 9 := by
  intro i
  induction i with
  | zero => show ¬ s = 9; unfold Side at hs; omega
  | succ i ih =>
    have e : pv 1 s t (i + 1) = if t.getD i 0 = 9 then mk (pv 1 s t i) else t.getD i 0 := rfl
    rw [e]
    split
    · exact mk_ne (by omega) ih
    · assumption
theorem not_marks {s : Int} (hs : Side s) (t : List Int) : Not 9 (R 1 s t) := by
  intro i hi
  rw [R_len] at hi
  rw [R_at hi]
  exact one_marks hs t _
theorem not_al (s : Int) (t : List Int) : Not 3 (R 3 s t) := by
  intro i hi
  rw [R_len] at hi
  rw [R_at hi]
  have e : pv 3 s t (i + 1) = if t.getD i 0 = 3 then 2 else t.getD i 0 := rfl
  rw [e]
  split
  · omega
  · assumption
theorem not_six (s : Int) (t : List Int) (x : Int) (hx : x = 5 ∨ x = 6 ∨ x = 8) : Not x (R 6 s t) := by
  intro i hi
  rw [R_len] at hi
  rw [R_at hi]
  have e : pv 6 s t (i + 1) = if t.getD i 0 = 5 ∨ t.getD i 0 = 6 ∨ t.getD i 0 = 8 then 14 else t.getD i 0 := rfl
  rw [e]
  split <;> omega
/-- What is gone stays gone: rules behind the first make neither NSM, AL, ES, ET nor CS. -/
theorem Not.R {r : Nat} {s x : Int} {t : List Int} (h : Not x t) (hr : ¬ r = 1) (hx : x = 9 ∨ x = 3 ∨ x = 5 ∨ x = 6 ∨ x = 8) : Not x (R r s t) := by
  intro i hi
  rw [R_len] at hi
  rw [R_at hi]
  have h1 := h i hi
  have h2 := pv_cases r s t i
  omega
theorem gone {s : Int} (hs : Side s) (t : List Int) (x : Int) (hx : x = 9 ∨ x = 3 ∨ x = 5 ∨ x = 6 ∨ x = 8) : Not x (RR s t 7) := by
  show Not x (We.R 7 s (We.R 6 s (We.R 5 s (We.R 4 s (We.R 3 s (We.R 2 s (We.R 1 s t)))))))
  by_cases h9 : x = 9
  · subst h9
    exact ((((((not_marks hs t).R (by omega) (by omega)).R (by omega) (by omega)).R (by omega) (by omega)).R (by omega) (by omega)).R (by omega) (by omega)).R (by omega) (by omega)
  · by_cases h3 : x = 3
    · subst h3
      exact ((((not_al s _).R (by omega) (by omega)).R (by omega) (by omega)).R (by omega) (by omega)).R (by omega) (by omega)
    · exact (not_six s _ x (by omega)).R (by omega) (by omega)
/-- What no rule touches. -/
def Kept (x : Int) : Prop := x = 1 ∨ x = 2 ∨ 11 ≤ x
theorem kept_pv {r : Nat} {s : Int} {t : List Int} {i : Nat} (h : Kept (t.getD i 0)) : pv r s t (i + 1) = t.getD i 0 := by
  have h2 := pv_cases r s t i
  unfold Kept at h
  omega
theorem kept_RR {s : Int} {t : List Int} {i : Nat} (hi : i < t.length) (h : Kept (t.getD i 0)) : ∀ k, (RR s t k).getD i 0 = t.getD i 0 := by
  intro k
  induction k with
  | zero => rfl
  | succ k ih =>
    rw [RR_succ, R_at (by rw [RR_len]; exact hi), kept_pv (by rw [ih]; exact h), ih]
/-- Rule 2 leaves the strong types as they are. -/
theorem strong_two (s : Int) (t : List Int) : ∀ i, i ≤ t.length → strong (R 2 s t) s i = strong t s i := by
  intro i
  induction i with
  | zero => intro _; rfl
  | succ i ih =>
    intro hi
    rw [strong, strong, R_at (by omega), ih (by omega)]
    have h2 := pv_cases 2 s t i
    rcases h2 with h | h | h | h | h | h | h | h
    · rw [h]
    · omega
    · rw [if_neg (by omega), if_neg (by omega)]
    all_goals omega
/-- Behind rule 7 the strong type ahead is what it was, where there is no AL. -/
theorem strong_seven (s : Int) (t : List Int) : ∀ i, i ≤ t.length → strong (R 7 s t) s i = strong t s i := by
  intro i
  induction i with
  | zero => intro _; rfl
  | succ i ih =>
    intro hi
    rw [strong, strong, R_at (by omega), ih (by omega)]
    have h2 := pv_cases 7 s t i
    rcases h2 with h | h | h | h | h | h | h | h
    · rw [h]
    · omega
    · omega
    · omega
    · omega
    · omega
    · omega
    · rw [if_pos (by omega), if_neg (by omega)]
      omega
theorem seven_num {s : Int} {t : List Int} {i : Nat} (hi : i < t.length) (h : (R 7 s t).getD i 0 = 4) : ¬ strong (R 7 s t) s i = 1 := by
  rw [strong_seven s t i (by omega)]
  rw [R_at hi] at h
  intro hst
  have e : pv 7 s t (i + 1) = if t.getD i 0 = 4 ∧ strong t s i = 1 then 1 else t.getD i 0 := rfl
  rw [e] at h
  split at h
  · omega
  · rename_i h2; exact h2 ⟨h, hst⟩
theorem two_num {s : Int} {t : List Int} {i : Nat} (hi : i < t.length) : (¬ ((R 2 s t).getD i 0 = 4 ∧ strong (R 2 s t) s i = 3)) ∧ ¬ ((R 2 s t).getD i 0 = 7 ∧ ¬ t.getD i 0 = 7 ∧ ¬ strong (R 2 s t) s i = 3) := by
  rw [strong_two s t i (by omega), R_at hi]
  have e : pv 2 s t (i + 1) = if t.getD i 0 = 4 ∧ strong t s i = 3 then 7 else t.getD i 0 := rfl
  rw [e]
  split
  · rename_i h; omega
  · rename_i h; omega
/-- Lists that the rules leave as they are. -/
structure Done (s : Int) (t : List Int) : Prop where
  no : ∀ x, (x = 9 ∨ x = 3 ∨ x = 5 ∨ x = 6 ∨ x = 8) → Not x t
  num : ∀ i, i < t.length → t.getD i 0 = 4 → ¬ strong t s i = 1
theorem Done.no3 {s : Int} {t : List Int} (hs : Side s) (h : Done s t) : ∀ i, i ≤ t.length → ¬ strong t s i = 3 := by
  intro i
  induction i with
  | zero => intro _; show ¬ s = 3; unfold Side at hs; omega
  | succ i ih =>
    intro hi
    rw [strong]
    split
    · exact h.no 3 (by omega) i (by omega)
    · exact ih (by omega)
theorem Done.same {s : Int} {t : List Int} (hs : Side s) (h : Done s t) (r : Nat) : R r s t = t := by
  refine ext_getD (R_len _ _ _) fun i hi => ?_
  rw [R_len] at hi
  rw [R_at hi]
  have h9 := h.no 9 (by omega) i hi
  have h3 := h.no 3 (by omega) i hi
  have h5 := h.no 5 (by omega) i hi
  have h6 := h.no 6 (by omega) i hi
  have h8 := h.no 8 (by omega) i hi
  have hn := h.num i hi
  have h2 := pv_cases r s t i
  have hst : ¬ (t.getD i 0 = 4 ∧ strong t s i = 3 ∧ r = 2) := by
    rintro ⟨a, b, _⟩
    exact h.no3 hs i (by omega) b
  rcases h2 with q | q | q | q | q | q | q | q
  · exact q
  · exact absurd q.2.1 h9
  · exact absurd ⟨q.2.1, q.2.2.1, q.1⟩ hst
  · exact absurd q.2.1 h3
  · rcases q.2.1 with q | q
    · exact absurd q h5
    · exact absurd q h8
  · exact absurd q.2.1 h6
  · rcases q.2.1 with q | q | q
    · exact absurd q h5
    · exact absurd q h6
    · exact absurd q h8
  · exact absurd q.2.2.1 (hn q.2.1)
theorem Done.RR {s : Int} {t : List Int} (hs : Side s) (h : Done s t) (k : Nat) : RR s t k = t := by
  induction k with
  | zero => rfl
  | succ k ih => rw [RR_succ, ih, h.same hs]
theorem done {s : Int} (hs : Side s) (t : List Int) : Done s (We.RR s t 7) := by
  refine ⟨fun x hx => gone hs t x hx, fun i hi h => ?_⟩
  have e : We.RR s t 7 = We.R 7 s (We.RR s t 6) := rfl
  rw [e] at hi h ⊢
  rw [R_len] at hi
  exact seven_num hi h
theorem twice {s : Int} (hs : Side s) (t : List Int) : We.RR s (We.RR s t 7) 7 = We.RR s t 7 := (done hs t).RR hs 7
end Go.Proofs.YtfadjgaledddjaaGreatDoor.We
