/- What the rules leave: plain mathematics. No Go in sight. -/
import Derived.Test.YtkajiagflcflpaaWm
namespace Go.Proofs.Ytkajiagflcflpaa.We
set_option linter.unusedVariables false
/-- A type that a list does not have. -/
def Not (x : Int) (t : List Int) : Prop := ∀ i, i < t.length → ¬ t.getD i 0 = x
theorem pv_cases (r : Nat) (s : Int) (t : List Int) (i : Nat) : pv r s t (i + 1) = t.getD i 0 ∨ (r = 1 ∧ t.getD i 0 = 9 ∧ pv r s t (i + 1) = mk (pv r s t i)) ∨ (r = 2 ∧ t.getD i 0 = 4 ∧ strong t s i = 3 ∧ pv r s t (i + 1) = 7) ∨ (r = 3 ∧ t.getD i 0 = 3 ∧ pv r s t (i + 1) = 2) ∨ (r = 4 ∧ (t.getD i 0 = 5 ∨ t.getD i 0 = 8) ∧ (pv r s t (i + 1) = 4 ∨ pv r s t (i + 1) = 7)) ∨ (r = 5 ∧ t.getD i 0 = 6 ∧ pv r s t (i + 1) = 4) ∨ (r = 6 ∧ (t.getD i 0 = 5 ∨ t.getD i 0 = 6 ∨ t.getD i 0 = 8) ∧ pv r s t (i + 1) = 14) ∨ (r = 7 ∧ t.getD i 0 = 4 ∧ strong t s i = 1 ∧ pv r s t (i + 1) = 1) := by
  rw [pv_succ]
  generalize pv r s t i = p
  unfold one
  split
  · split
    · rename_i h; exact .inr (.inl ⟨rfl, h, rfl⟩)
    · exact .inl rfl
  · split
    · rename_i h; exact .inr (.inr (.inl ⟨rfl, h.1, h.2, rfl⟩))
    · exact .inl rfl
  · split
    · rename_i h; exact .inr (.inr (.inr (.inl ⟨rfl, h, rfl⟩)))
    · exact .inl rfl
  · split
    · rename_i h
      exact .inr (.inr (.inr (.inr (.inl ⟨rfl, by omega, by omega⟩))))
    · exact .inl rfl
  · split
    · rename_i h; exact .inr (.inr (.inr (.inr (.inr (.inl ⟨rfl, h.1, rfl⟩)))))
    · exact .inl rfl
  · split
    · rename_i h; exact .inr (.inr (.inr (.inr (.inr (.inr (.inl ⟨rfl, h, rfl⟩))))))
    · exact .inl rfl
  · split
    · rename_i h; exact .inr (.inr (.inr (.inr (.inr (.inr (.inr ⟨rfl, h.1, h.2, rfl⟩))))))
    · exact .inl rfl
  · exact .inl rfl
theorem mk_ne {x a : Int} (h1 : ¬ x = 14) (h2 : ¬ a = x) : ¬ mk a = x := by
  unfold mk
  split
  · omega
  · exact h2
/-- Behind rule 1 there is no NSM. -/
theorem one_marks {s : Int} (hs : Side s) (t : List Int) : ∀ i, ¬ pv 1 s t i = 9 := by
  intro i
  induction i with
  | zero => show ¬ s = 9; unfold Side at hs; omega
  | succ i ih =>
    have e : pv 1 s t (i + 1) = if t.getD i 0 = 9 then mk (pv 1 s t i) else t.getD i 0 := rfl
    rw [e]
    split
    · exact mk_ne (by omega) ih
    · assumption
theorem not_marks {s : Int} (hs : Side s) (t : List Int) : Not 9 (R 1 s t) := by
  intro i hi
  rw [R_len] at hi
  rw [R_at hi]
  exact one_marks hs t _
theorem not_al (s : Int) (t : List Int) : Not 3 (R 3 s t) := by
  intro i hi
  rw [R_len] at hi
  rw [R_at hi]
  have e : pv 3 s t (i + 1) = if t.getD i 0 = 3 then 2 else t.getD i 0 := rfl
  rw [e]
  split
  · omega
  · assumption
theorem not_six (s : Int) (t : List Int) (x : Int) (hx : x = 5 ∨ x = 6 ∨ x = 8) : Not x (R 6 s t) := by
  intro i hi
  rw [R_len] at hi
  rw [R_at hi]
  have e : pv 6 s t (i + 1) = if t.getD i 0 = 5 ∨ t.getD i 0 = 6 ∨ t.getD i 0 = 8 then 14 else t.getD i 0 := rfl
  rw [e]
  split <;> omega
/-- What is gone stays gone: rules behind the first make neither NSM, AL, ES, ET nor CS. -/
theorem Not.R {r : Nat} {s x : Int} {t : List Int} (h : Not x t) (hr : ¬ r = 1) (hx : x = 9 ∨ x = 3 ∨ x = 5 ∨ x = 6 ∨ x = 8) : Not x (R r s t) := by
  intro i hi
  rw [R_len] at hi
  rw [R_at hi]
  have h1 := h i hi
  have h2 := pv_cases r s t i
  omega
theorem gone {s : Int} (hs : Side s) (t : List Int) (x : Int) (hx : x = 9 ∨ x = 3 ∨ x = 5 ∨ x = 6 ∨ x = 8) : Not x (RR s t 7) := by
  show Not x (We.R 7 s (We.R 6 s (We.R 5 s (We.R 4 s (We.R 3 s (We.R 2 s (We.R 1 s t)))))))
  by_cases h9 : x = 9
  · subst h9
    exact ((((((not_marks hs t).R (by omega) (by omega)).R (by omega) (by omega)).R (by omega) (by omega)).R (by omega) (by omega)).R (by omega) (by omega)).R (by omega) (by omega)
  · by_cases h3 : x = 3
    · subst h3
      exact ((((not_al s _).R (by omega) (by omega)).R (by omega) (by omega)).R (by omega) (by omega)).R (by omega) (by omega)
    · exact (not_six s _ x (by omega)).R (by omega) (by omega)
/-- What no rule touches. -/
def Kept (x : Int) : Prop := x = 1 ∨ x = 2 ∨ 11 ≤ x
theorem kept_pv {r : Nat} {s : Int} {t : List Int} {i : Nat} (h : Kept (t.getD i 0)) : pv r s t (i + 1) = t.getD i 0 := by
  have h2 := pv_cases r s t i
  unfold Kept at h
  omega
theorem kept_RR {s : Int} {t : List Int} {i : Nat} (hi : i < t.length) (h : Kept (t.getD i 0)) : ∀ k, (RR s t k).getD i 0 = t.getD i 0 := by
  intro k
  induction k with
  | zero => rfl
  | succ k ih =>
    rw [RR_succ, R_at (by rw [RR_len]; exact hi), kept_pv (by rw [ih]; exact h), ih]
/-- Rule 2 leaves the strong types as they are. -/
theorem strong_two (s : Int) (t : List Int) : ∀ i, i ≤ t.length → strong (R 2 s t) s i = strong t s i := by
  intro i
  induction i with
  | zero => intro _; rfl
  | succ i ih =>
    intro hi
    rw [strong, strong, R_at (by omega), ih (by omega)]
    have h2 := pv_cases 2 s t i
    rcases h2 with h | h | h | h | h | h | h | h
    · rw [h]
    · omega
    · rw [if_neg (by omega), if_neg (by omega)]
    all_goals omega
/-- Behind rule 7 the strong type ahead is what it was, where there is no AL. -/
theorem strong_seven (s : Int) (t : List Int) : ∀ i, i ≤ t.length → strong (R 7 s t) s i = strong t s i := by
  intro i
  induction i with
  | zero => intro _; rfl
  | succ i ih =>
    intro hi
    rw [strong, strong, R_at (by omega), ih (by omega)]
    have h2 := pv_cases 7 s t i
    rcases h2 with h | h | h | h | h | h | h | h
    · rw [h]
    · omega
    · omega
    · omega
    · omega
    · omega
    · omega
    · rw [if_pos (by omega), if_neg (by omega)]
      omega
theorem seven_num {s : Int} {t : List Int} {i : Nat} (hi : i < t.length) (h : (R 7 s t).getD i 0 = 4) : ¬ strong (R 7 s t) s i = 1 := by
  rw [strong_seven s t i (by omega)]
  rw [R_at hi] at h
  intro hst
  have e : pv 7 s t (i + 1) = if t.getD i 0 = 4 ∧ strong t s i = 1 then 1 else t.getD i 0 := rfl
  rw [e] at h
  split at h
  · omega
  · rename_i h2; exact h2 ⟨h, hst⟩
theorem two_num {s : Int} {t : List Int} {i : Nat} (hi : i < t.length) : (¬ ((R 2 s t).getD i 0 = 4 ∧ strong (R 2 s t) s i = 3)) ∧ ¬ ((R 2 s t).getD i 0 = 7 ∧ ¬ t.getD i 0 = 7 ∧ ¬ strong (R 2 s t) s i = 3) := by
  rw [strong_two s t i (by omega), R_at hi]
  have e : pv 2 s t (i + 1) = if t.getD i 0 = 4 ∧ strong t s i = 3 then 7 else t.getD i 0 := rfl
  rw [e]
  split
  · rename_i h; omega
  · rename_i h; omega
/-- Lists that the rules leave as they are. -/
structure Done (s : Int) (t : List Int) : Prop where
  no : ∀ x, (x = 9 ∨ x = 3 ∨ x = 5 ∨ x = 6 ∨ x = 8) → Not x t
  num : ∀ i, i < t.length → t.getD i 0 = 4 → ¬ strong t s i = 1
theorem Done.no3 {s : Int} {t : List Int} (hs : Side s) (h : Done s t) : ∀ i, i ≤ t.length → ¬ strong t s i = 3 := by
  intro i
  induction i with
  | zero => intro _; show ¬ s = 3; unfold Side at hs; omega
  | succ i ih =>
    intro hi
    rw [strong]
    split
    · exact h.no 3 (by omega) i (by omega)
    · exact ih (by omega)
theorem Done.same {s : Int} {t : List Int} (hs : Side s) (h : Done s t) (r : Nat) : R r s t = t := by
  refine ext_getD (R_len _ _ _) fun i hi => ?_
  rw [R_len] at hi
  rw [R_at hi]
  have h9 := h.no 9 (by omega) i hi
  have h3 := h.no 3 (by omega) i hi
  have h5 := h.no 5 (by omega) i hi
  have h6 := h.no 6 (by omega) i hi
  have h8 := h.no 8 (by omega) i hi
  have hn := h.num i hi
  have h2 := pv_cases r s t i
  have hst : ¬ (t.getD i 0 = 4 ∧ strong t s i = 3 ∧ r = 2) := by
    rintro ⟨a, b, _⟩
    exact h.no3 hs i (by omega) b
  rcases h2 with q | q | q | q | q | q | q | q
  · exact q
  · exact absurd q.2.1 h9
  · exact absurd ⟨q.2.1, q.2.2.1, q.1⟩ hst
  · exact absurd q.2.1 h3
  · rcases q.2.1 with q | q
    · exact absurd q h5
    · exact absurd q h8
  · exact absurd q.2.1 h6
  · rcases q.2.1 with q | q | q
    · exact absurd q h5
    · exact absurd q h6
    · exact absurd q h8
  · exact absurd q.2.2.1 (hn q.2.1)
theorem Done.RR {s : Int} {t : List Int} (hs : Side s) (h : Done s t) (k : Nat) : RR s t k = t := by
  induction k with
  | zero => rfl
  | succ k ih => rw [RR_succ, ih, h.same hs]
theorem done {s : Int} (hs : Side s) (t : List Int) : Done s (We.RR s t 7) := by
  refine ⟨fun x hx => gone hs t x hx, fun i hi h => ?_⟩
  have e : We.RR s t 7 = We.R 7 s (We.RR s t 6) := rfl
  rw [e] at hi h ⊢
  rw [R_len] at hi
  exact seven_num hi h
theorem twice {s : Int} (hs : Side s) (t : List Int) : We.RR s (We.RR s t 7) 7 = We.RR s t 7 := (done hs t).RR hs 7
end Go.Proofs.Ytkajiagflcflpaa.We
