import Derived.Test.YtmdmehopefgndaaGreatDoorZ16
import Derived.Test.YtmdmehopefgndaaGreatDoorZ01
import Derived.Test.YtmdmehopefgndaaGreatDoorZ15
/- What the rules leave: plain mathematics. No Go in sight. -/
namespace Go.Proofs.YtmdmehopefgndaaGreatDoor.We
set_option linter.unusedVariables false
/-- A type that a list does not have. -/
def Not (x : Int) (t : List Int) : Prop := ∀ i, i < t.length → ¬ t.getD i 0 = x
theorem pv_cases (r : Nat) (s : Int) (t : List Int) (i : Nat) : pv r s t (i + 1) = t.getD i 0 ∨ (r = 1 ∧ t.getD i 0 = 9 ∧ pv r s t (i + 1) = mk (pv r s t i)) ∨ (r = 2 ∧ t.getD i 0 = 4 ∧ strong t s i = 3 ∧ pv r s t (i + 1) = 7) ∨ (r = 3 ∧ t.getD i 0 = 3 ∧ pv r s t (i + 1) = 2) ∨ (r = 4 ∧ (t.getD i 0 = 5 ∨ t.getD i 0 = 8) ∧ (pv r s t (i + 1) = 4 ∨ pv r s t (i + 1) = 7)) ∨ (r = 5 ∧ t.getD i 0 = 6 ∧ pv r s t (i + 1) = 4) ∨ (r = 6 ∧ (t.getD i 0 = 5 ∨ t.getD i 0 = 6 ∨ t.getD i 0 = 8) ∧ pv r s t (i + 1) = 14) ∨ (r = 7 ∧ t.getD i 0 = 4 ∧ strong t s i = 1 ∧ pv r s t (i + 1) = 1) := by
  rw [pv_succ]
  generalize pv r s t i = p
  unfold one
  split
  · split
    · rename_i h; exact .inr (.inl ⟨rfl, h, rfl⟩)
    · exact .inl rfl
  · split
    · rename_i h; exact .inr (.inr (.inl ⟨rfl, h.1, h.2, rfl⟩))
    · exact .inl rfl
  · split
    · rename_i h; exact .inr (.inr (.inr (.inl ⟨rfl, h, rfl⟩)))
    · exact .inl rfl
  · split
    · rename_i h
      exact .inr (.inr (.inr (.inr (.inl ⟨rfl, by omega, by omega⟩))))
    · exact .inl rfl
  · split
    · rename_i h; exact .inr (.inr (.inr (.inr (.inr (.inl ⟨rfl, h.1, rfl⟩)))))
    · exact .inl rfl
  · split
    · rename_i h; exact .inr (.inr (.inr (.inr (.inr (.inr (.inl ⟨rfl, h, rfl⟩))))))
    · exact .inl rfl
  · split
    · rename_i h; exact .inr (.inr (.inr (.inr (.inr (.inr (.inr ⟨rfl, h.1, h.2, rfl⟩))))))
    · exact .inl rfl
  · exact .inl rfl
theorem mk_ne {x a : Int} (h1 : ¬ x = 14) (h2 : ¬ a = x) : ¬ mk a = x := by
  unfold mk
  split
  · omega
  · exact h2
/-- Behind rule 1 there is no NSM. -/
theorem one_marks {s : Int} (hs : Side s) (t : List Int) : ∀ i, ¬ pv 1 s t i = 9 := by
  intro i
  induction i with
  | zero => show ¬ s = 9; unfold Side at hs; omega
  | succ i ih =>
    have e : pv 1 s t (i + 1) = if t.getD i 0 = 9 then mk (pv 1 s t i) else t.getD i 0 := rfl
    rw [e]
    split
    · exact mk_ne (by omega) ih
    · assumption
theorem not_marks {s : Int} (hs : Side s) (t : List Int) : Not 9 (R 1 s t) := by
  intro i hi
  rw [R_len] at hi
  rw [R_at hi]
  exact one_marks hs t _
theorem not_al (s : Int) (t : List Int) : Not 3 (R 3 s t) := by
  intro i hi
  rw [R_len] at hi
  rw [R_at hi]
  have e : pv 3 s t (i + 1) = if t.getD i 0 = 3 then 2 else t.getD i 0 := rfl
  rw [e]
  split
  · omega
  · assumption
theorem not_six (s : Int) (t : List Int) (x : Int) (hx : x = 5 ∨ x = 6 ∨ x = 8) : Not x (R 6 s t) := by
  intro i hi
  rw [R_len] at hi
  rw [R_at hi]
  have e : pv 6 s t (i + 1) = if t.getD i 0 = 5 ∨ t.getD i 0 = 6 ∨ t.getD i 0 = 8 then 14 else t.getD i 0 := rfl
  rw [e]
  split <;> omega
/-- What is gone stays gone: rules behind the first make neither NSM, AL, ES, ET nor CS. -/
theorem Not.R {r : Nat} {s x : Int} {t : List Int} (h : Not x t) (hr : ¬ r = 1) (hx : x = 9 ∨ x = 3 ∨ x = 5 ∨ x = 6 ∨ x = 8) : Not x (R r s t) := by
  intro i hi
  rw [R_len] at hi
  rw [R_at hi]
  have h1 := h i hi
  have h2 := pv_cases r s t i
  omega
theorem gone {s : Int} (hs : Side s) (t : List Int) (x : Int) (hx : x = 9 ∨ x = 3 ∨ x = 5 ∨ x = 6 ∨ x = 8) : Not x (RR s t 7) := by
  show Not x (We.R 7 s (We.R 6 s (We.R 5 s (We.R 4 s (We.R 3 s (We.R 2 s (We.R 1 s t)))))))
  by_cases h9 : x = 9
  · subst h9
    exact ((((((not_marks hs t).R (by omega) (by omega)).R (by omega) (by omega)).R (by omega) (by omega)).R (by omega) (by omega)).R (by omega) (by omega)).R (by omega) (by omega)
  · by_cases h3 : x = 3
    · subst h3
      exact ((((not_al s _).R (by omega) (by omega)).R (by omega) (by omega)).R (by omega) (by omega)).R (by omega) (by omega)
    · exact (not_six s _ x (by omega)).R (by omega) (by omega)
/-- What no rule touches. -/
def Kept (x : Int) : Prop := x = 1 ∨ x = 2 ∨ 11 ≤ x
theorem kept_pv {r : Nat} {s : Int} {t : List Int} {i : Nat} (h : Kept (t.getD i 0)) : pv r s t (i + 1) = t.getD i 0 := by
  have h2 := pv_cases r s t i
  unfold Kept at h
  omega
theorem kept_RR {s : Int} {t : List Int} {i : Nat} (hi : i < t.length) (h : Kept (t.getD i 0)) : ∀ k, (RR s t k).getD i 0 = t.getD i 0 := by
  intro k
  induction k with
  | zero => rfl
  | succ k ih =>
    rw [RR_succ, R_at (by rw [RR_len]; exact hi), kept_pv (by rw [ih]; exact h), ih]
/-- Rule 2 leaves the strong types as they are. -/
theorem strong_two (s : Int) (t : List Int) : ∀ i, i ≤ t.length → strong (R 2 s t) s i = strong t s i := by
  intro i
  induction i with
  | zero => intro _; rfl
  | succ i ih =>
    intro hi
    rw [strong, strong, R_at (by omega), ih (by omega)]
    have h2 := pv_cases 2 s t i
    rcases h2 with h | h | h | h | h | h | h | h
    · rw [h]
    · omega
    · rw [if_neg (by omega), if_neg (by omega)]
    all_goals omega
/-- Behind rule 7 the strong type ahead is what it was, where there is no AL. -/
theorem strong_seven (s : Int) (t : List Int) : ∀ i, i ≤ t.length → strong (R 7 s t) s i = strong t s i := by
  intro i
  induction i with
  | zero => intro _; rfl
  | succ i ih =>
    intro hi
    rw [strong, strong, R_at (by omega), ih (by omega)]
    have h2 := pv_cases 7 s t i
    rcases h2 with h | h | h | h | h | h | h | h
    · rw [h]
    · omega
    · omega
    · omega
    · omega
    · omega
    · omega
    · rw [if_pos (by omega), if_neg (by omega)]
      omega
theorem seven_num {s : Int} {t : List Int} {i : Nat} (hi : i < t.length) (h : (R 7 s t).getD i 0 = 4) : ¬ strong (R 7 s t) s i = 1 := by
  rw [strong_seven s t i (by omega)]
  rw [R_at hi] at h
  intro hst
  have e : pv 7 s t (i + 1) = if t.getD i 0 = 4 ∧ strong t s i = 1 then 1 else t.getD i 0 := rfl
  rw [e] at h
  split at h
  · omega
  · rename_i h2; exact h2 ⟨h, hst⟩
theorem two_num {s : Int} {t : List Int} {i : Nat} (hi : i < t.length) : (¬ ((R 2 s t).getD i 0 = 4 ∧ strong (R 2 s t) s i = 3)) ∧ ¬ ((R 2 s t).getD i 0 = 7 ∧ ¬ t.getD i 0 = 7 ∧ ¬ strong (R 2 s t) s i = 3) := by
  rw [strong_two s t i (by omega), R_at hi]
  have e : pv 2 s t (i + 1) = if t.getD i 0 = 4 ∧ strong t s i = 3 then 7 else t.getD i 0 := rfl
  rw [e]
  split
  · rename_i h; omega
  · rename_i h; omega
/-- Lists that the rules leave as they are. -/
structure Done (s : Int) (t : List Int) : Prop where
  no : ∀ x, (x = 9 ∨ x = 3 ∨ x = 5 ∨ x = 6 ∨ x = 8) → Not x t
  num : ∀ i, i < t.length → t.getD i 0 = 4 → ¬ strong t s i = 1
theorem Done.no3 {s : Int} {t : List Int} (hs : Side s) (h : Done s t) : ∀ i, i ≤ t.length → ¬ strong t s i = 3 := by
  intro i
  induction i with
  | zero => intro _; show ¬ s = 3; unfold Side at hs; omega
  | succ i ih =>
    intro hi
    rw [strong]
    split
    · exact h.no 3 (by omega) i (by omega)
    · exact ih (by omega)
theorem Done.same {s : Int} {t : List Int} (hs : Side s) (h : Done s t) (r : Nat) : R r s t = t := by
  refine ext_getD (R_len _ _ _) fun i hi => ?_
  rw [R_len] at hi
  rw [R_at hi]
  have h9 := h.no 9 (by omega) i hi
  have h3 := h.no 3 (by omega) i hi
  have h5 := h.no 5 (by omega) i hi
  have h6 := h.no 6 (by omega) i hi
  have h8 := h.no 8 (by omega) i hi
  have hn := h.num i hi
  have h2 := pv_cases r s t i
  have hst : ¬ (t.getD i 0 = 4 ∧ strong t s i = 3 ∧ r = 2) := by
    rintro ⟨a, b, _⟩
    exact h.no3 hs i (by omega) b
  rcases h2 with q | q | q | q | q | q | q | q
  · exact q
  · exact absurd q.2.1 h9
  · exact absurd ⟨q.2.1, q.2.2.1, q.1⟩ hst
  · exact absurd q.2.1 h3
  · rcases q.2.1 with q | q
    · exact absurd q h5
    · exact absurd q h8
  · exact absurd q.2.1 h6
  · rcases q.2.1 with q | q | q
    · exact absurd q h5
    · exact absurd q h6
    · exact absurd q h8
  · exact absurd q.2.2.1 (hn q.2.1)
theorem Done.RR {s : Int} {t : List Int} (hs : Side s) (h : Done s t) (k : Nat) : RR s t k = t := by
  induction k with
  | zero => rfl
  | succ k ih => rw [RR_succ, ih, h.same hs]
theorem done {s : Int} (hs : Side s) (t : List Int) : Done s (We.RR s t 7) := by
  refine ⟨fun x hx => gone hs t x hx, fun i hi h => ?_⟩
  have e : We.RR s t 7 = We.R 7 s (We.RR s t 6) := rfl
  rw [e] at hi h ⊢
  rw [R_len] at hi
  exact seven_num hi h
theorem twice {s : Int} (hs : Side s) (t : List Int) : We.RR s (We.RR s t 7) 7 = We.RR s t 7 := (done hs t).RR hs 7
end Go.Proofs.YtmdmehopefgndaaGreatDoor.We

/- Plain mathematics of pairs of brackets: who waits, who ends whom. No Go in sight. -/
namespace Go.Proofs.YtmdmehopefgndaaGreatDoor
set_option linter.unusedVariables false
namespace Br
/-- The state of the search: is it over; who waits, the last one first; the pairs, by their closing places. -/
structure St where
  off : Bool
  wt : List Nat
  ps : List (Nat × Nat)
section
variable (kd : Nat → Int) (mt : Nat → Nat → Bool)
/-- Those that wait, from the one on that i ends. -/
def fd (i : Nat) : List Nat → List Nat
  | [] => []
  | x :: r => if mt x i then x :: r else fd i r
def step (i : Nat) (s : St) : St :=
  if s.off then s else
  if kd i = 1 then (if s.wt.length = 63 then ⟨true, s.wt, s.ps⟩ else ⟨false, i :: s.wt, s.ps⟩)
  else if kd i = 2 then (match fd mt i s.wt with | [] => s | x :: r => ⟨false, r, s.ps ++ [(x, i)]⟩)
  else s
/-- Behind k places. -/
def at' : Nat → St
  | 0 => ⟨false, [], []⟩
  | k + 1 => step kd mt k (at' k)
def F (n : Nat) : List (Nat × Nat) := (at' kd mt n).ps
/-- Whom a place is ended by; 0: by none. -/
def pr : List (Nat × Nat) → Nat → Nat
  | [], _ => 0
  | p :: r, i => if p.1 = i then p.2 else pr r i
/-- The pairs by their opening places. -/
def PS (n : Nat) : List (Nat × Nat) := (List.range n).filterMap fun i => if 0 < pr (F kd mt n) i then some (i, pr (F kd mt n) i) else none
end
variable {kd : Nat → Int} {mt : Nat → Nat → Bool}
theorem fd_suffix (i : Nat) : ∀ W : List Nat, ∃ pre, W = pre ++ fd mt i W
  | [] => ⟨[], rfl⟩
  | x :: r => by
    rw [fd]
    by_cases h : mt x i
    · rw [if_pos h]; exact ⟨[], rfl⟩
    · rw [if_neg h]
      obtain ⟨pre, e⟩ := fd_suffix i r
      exact ⟨x :: pre, by rw [List.cons_append, ← e]⟩
theorem fd_hd (i : Nat) : ∀ (W : List Nat) (x : Nat) (r : List Nat), fd mt i W = x :: r → mt x i = true
  | [], x, r, h => by cases h
  | y :: q, x, r, h => by
    rw [fd] at h
    by_cases hm : mt y i
    · rw [if_pos hm] at h
      simp only [List.cons.injEq] at h
      rw [← h.1]; exact hm
    · rw [if_neg hm] at h
      exact fd_hd i q x r h
/-- What is known on the way. -/
structure Inv (kd : Nat → Int) (mt : Nat → Nat → Bool) (k : Nat) (s : St) : Prop where
  wlt : ∀ x ∈ s.wt, x < k ∧ kd x = 1
  wdec : s.wt.Pairwise (· > ·)
  wlen : s.wt.length ≤ 63
  p1 : ∀ p ∈ s.ps, p.1 < p.2 ∧ p.2 < k ∧ kd p.1 = 1 ∧ kd p.2 = 2 ∧ mt p.1 p.2 = true
  rise : s.ps.Pairwise fun p q => p.2 < q.2 ∧ (q.1 < p.1 ∨ p.2 < q.1)
  apart : ∀ x ∈ s.wt, ∀ p ∈ s.ps, x < p.1 ∨ p.2 < x
  cnt : 2 * s.ps.length + s.wt.length ≤ k
theorem inv (k : Nat) : Inv kd mt k (at' kd mt k) := by
  induction k with
  | zero => exact ⟨by simp [at'], by simp [at'], by simp [at'], by simp [at'], by simp [at'], by simp [at'], by simp [at']⟩
  | succ k ih =>
    rw [at']
    generalize at' kd mt k = s0 at ih
    obtain ⟨off, wt, ps⟩ := s0
    have keep : Inv kd mt (k + 1) ⟨off, wt, ps⟩ := ⟨fun x hx => ⟨by have := (ih.wlt x hx).1; omega, (ih.wlt x hx).2⟩, ih.wdec, ih.wlen, fun p hp => by have := ih.p1 p hp; exact ⟨this.1, by omega, this.2.2⟩, ih.rise, ih.apart, by have := ih.cnt; omega⟩
    unfold step
    cases off with
    | true => exact keep
    | false =>
      simp only [Bool.false_eq_true, if_false]
      by_cases h1 : kd k = 1
      · rw [if_pos h1]
        by_cases h6 : wt.length = 63
        · rw [if_pos h6]
          exact ⟨keep.wlt, keep.wdec, keep.wlen, keep.p1, keep.rise, keep.apart, keep.cnt⟩
        · rw [if_neg h6]
          have hl := ih.wlen
          refine ⟨?_, ?_, by simp only [List.length_cons]; simp only at hl; omega, keep.p1, keep.rise, ?_, by have := ih.cnt; simp only [List.length_cons] at this ⊢; omega⟩
          · intro x hx
            simp only [List.mem_cons] at hx
            rcases hx with rfl | hx
            · exact ⟨by omega, h1⟩
            · exact keep.wlt x hx
          · exact List.pairwise_cons.2 ⟨fun x hx => (ih.wlt x hx).1, ih.wdec⟩
          · intro x hx p hp
            simp only [List.mem_cons] at hx
            rcases hx with rfl | hx
            · exact .inr (ih.p1 p hp).2.1
            · exact ih.apart x hx p hp
      · rw [if_neg h1]
        by_cases h2 : kd k = 2
        · rw [if_pos h2]
          cases hf : fd mt k wt with
          | nil => exact keep
          | cons x r =>
            simp only
            obtain ⟨pre, e⟩ := fd_suffix (mt := mt) k wt
            rw [hf] at e
            have hmt := fd_hd k wt x r hf
            have hw := ih.wlt
            have hd := ih.wdec
            have ha := ih.apart
            have hl := ih.wlen
            simp only [e] at hw hd ha hl
            have hxm : x ∈ pre ++ x :: r := by simp
            have hrm : ∀ y ∈ r, y ∈ pre ++ x :: r := fun y hy => by simp [hy]
            have hd2 := (List.pairwise_append.1 hd).2.1
            refine ⟨fun y hy => ⟨by have := (hw y (hrm y hy)).1; omega, (hw y (hrm y hy)).2⟩, (List.pairwise_cons.1 hd2).2, by simp only [List.length_append, List.length_cons] at hl; simp only; omega, ?_, ?_, ?_, by have := ih.cnt; rw [e] at this; simp only [List.length_append, List.length_cons, List.length_nil] at this ⊢; omega⟩
            · intro p hp
              simp only [List.mem_append, List.mem_cons, List.not_mem_nil, or_false] at hp
              rcases hp with hp | rfl
              · exact keep.p1 p hp
              · exact ⟨(hw x hxm).1, by simp only; omega, (hw x hxm).2, h2, hmt⟩
            · refine List.pairwise_append.2 ⟨ih.rise, List.pairwise_singleton _ _, fun p hp q hq => ?_⟩
              simp only [List.mem_cons, List.not_mem_nil, or_false] at hq
              subst hq
              exact ⟨(ih.p1 p hp).2.1, ha x hxm p hp⟩
            · intro y hy p hp
              simp only [List.mem_append, List.mem_cons, List.not_mem_nil, or_false] at hp
              rcases hp with hp | rfl
              · exact ha y (hrm y hy) p hp
              · exact .inl ((List.pairwise_cons.1 hd2).1 y hy)
        · rw [if_neg h2]; exact keep
theorem step_off {i : Nat} {s : St} (h : s.off = true) : step kd mt i s = s := by unfold step; rw [if_pos h]
theorem at_off {k n : Nat} (h : (at' kd mt k).off = true) (hk : k ≤ n) : at' kd mt n = at' kd mt k := by
  induction n with
  | zero =>
    obtain rfl : k = 0 := by omega
    rfl
  | succ n ih =>
    by_cases e : k = n + 1
    · rw [e]
    · have := ih (by omega)
      rw [at', this, step_off h]
theorem step_full {k : Nat} {wt : List Nat} {ps : List (Nat × Nat)} (hs : at' kd mt k = ⟨false, wt, ps⟩) (h1 : kd k = 1) (h6 : wt.length = 63) : at' kd mt (k + 1) = ⟨true, wt, ps⟩ := by
  rw [at', hs]; unfold step; simp [h1, h6]
theorem step_open {k : Nat} {wt : List Nat} {ps : List (Nat × Nat)} (hs : at' kd mt k = ⟨false, wt, ps⟩) (h1 : kd k = 1) (h6 : ¬ wt.length = 63) : at' kd mt (k + 1) = ⟨false, k :: wt, ps⟩ := by
  rw [at', hs]; unfold step; simp [h1, h6]
theorem step_none {k : Nat} {wt : List Nat} {ps : List (Nat × Nat)} (hs : at' kd mt k = ⟨false, wt, ps⟩) (h2 : kd k = 2) (hf : fd mt k wt = []) : at' kd mt (k + 1) = ⟨false, wt, ps⟩ := by
  rw [at', hs]; unfold step; simp [h2, hf]
theorem step_some {k : Nat} {wt : List Nat} {ps : List (Nat × Nat)} (hs : at' kd mt k = ⟨false, wt, ps⟩) (h2 : kd k = 2) {x : Nat} {r : List Nat} (hf : fd mt k wt = x :: r) : at' kd mt (k + 1) = ⟨false, r, ps ++ [(x, k)]⟩ := by
  rw [at', hs]; unfold step; simp [h2, hf]
theorem step_skip {k : Nat} {wt : List Nat} {ps : List (Nat × Nat)} (hs : at' kd mt k = ⟨false, wt, ps⟩) (h1 : ¬ kd k = 1) (h2 : ¬ kd k = 2) : at' kd mt (k + 1) = ⟨false, wt, ps⟩ := by
  rw [at', hs]; unfold step; simp [h1, h2]
/-- The search that is over at k has found all. -/
theorem F_full {k n : Nat} {wt : List Nat} {ps : List (Nat × Nat)} (hs : at' kd mt k = ⟨false, wt, ps⟩) (h1 : kd k = 1) (h6 : wt.length = 63) (hk : k < n) : F kd mt n = ps := by
  have e := step_full hs h1 h6
  unfold F
  rw [at_off (k := k + 1) (by rw [e]) (by omega), e]
theorem F_p {n : Nat} : ∀ p ∈ F kd mt n, p.1 < p.2 ∧ p.2 < n ∧ kd p.1 = 1 ∧ kd p.2 = 2 ∧ mt p.1 p.2 = true := (inv n).p1
theorem F_rise {n : Nat} : (F kd mt n).Pairwise fun p q => p.2 < q.2 ∧ (q.1 < p.1 ∨ p.2 < q.1) := (inv n).rise
theorem F_nd {n : Nat} : (F kd mt n).Nodup := F_rise.imp fun h => by rintro rfl; omega
/-- Two of them: the same one, or apart. -/
theorem F_two {n : Nat} {p q : Nat × Nat} (hp : p ∈ F kd mt n) (hq : q ∈ F kd mt n) : p = q ∨ (p.2 < q.2 ∧ (q.1 < p.1 ∨ p.2 < q.1)) ∨ (q.2 < p.2 ∧ (p.1 < q.1 ∨ q.2 < p.1)) := by
  have h := F_rise (kd := kd) (mt := mt) (n := n)
  generalize F kd mt n = l at *
  induction l with
  | nil => cases hp
  | cons a l ih =>
    obtain ⟨h1, h2⟩ := List.pairwise_cons.1 h
    simp only [List.mem_cons] at hp hq
    rcases hp with rfl | hp <;> rcases hq with rfl | hq
    · exact .inl rfl
    · exact .inr (.inl (h1 q hq))
    · exact .inr (.inr (h1 p hp))
    · exact ih hp hq h2
theorem F_opens {n : Nat} {p q : Nat × Nat} (hp : p ∈ F kd mt n) (hq : q ∈ F kd mt n) (h : p.1 = q.1) : p = q := by
  have h1 := F_p p hp
  have h2 := F_p q hq
  rcases F_two hp hq with h3 | h3 | h3
  · exact h3
  · omega
  · omega
theorem pr_mem : ∀ (l : List (Nat × Nat)) (i : Nat), 0 < pr l i → (i, pr l i) ∈ l
  | [], i, h => by simp [pr] at h
  | p :: r, i, h => by
    rw [pr] at h ⊢
    by_cases e : p.1 = i
    · rw [if_pos e]; subst e; exact List.mem_cons_self
    · rw [if_neg e] at h ⊢
      exact List.mem_cons_of_mem _ (pr_mem r i h)
theorem pr_of (l : List (Nat × Nat)) (h : ∀ p ∈ l, ∀ q ∈ l, p.1 = q.1 → p = q) (p : Nat × Nat) (hp : p ∈ l) : pr l p.1 = p.2 := by
  induction l with
  | nil => cases hp
  | cons a l ih =>
    rw [pr]
    by_cases e : a.1 = p.1
    · rw [if_pos e]; rw [h a List.mem_cons_self p hp e]
    · rw [if_neg e]
      simp only [List.mem_cons] at hp
      rcases hp with rfl | hp
      · exact absurd rfl e
      · exact ih (fun p hp q hq => h p (List.mem_cons_of_mem _ hp) q (List.mem_cons_of_mem _ hq)) hp
theorem mem_PS {n : Nat} {p : Nat × Nat} : p ∈ PS kd mt n ↔ p ∈ F kd mt n := by
  unfold PS
  rw [List.mem_filterMap]
  constructor
  · rintro ⟨i, hi, h⟩
    by_cases h0 : 0 < pr (F kd mt n) i
    · rw [if_pos h0] at h
      simp only [Option.some.injEq] at h
      subst h
      exact pr_mem _ _ h0
    · rw [if_neg h0] at h; cases h
  · intro hp
    have h1 := F_p p hp
    have h2 := pr_of (F kd mt n) (fun a ha b hb => F_opens ha hb) p hp
    exact ⟨p.1, by rw [List.mem_range]; omega, by rw [h2, if_pos (by omega)]⟩
theorem PS_rise {n : Nat} : (PS kd mt n).Pairwise fun p q => p.1 < q.1 := by
  unfold PS
  refine List.Pairwise.filterMap _ ?_ (List.pairwise_lt_range (n := n))
  intro a b hab p hp q hq
  by_cases h0 : 0 < pr (F kd mt n) a
  · rw [if_pos h0] at hp
    by_cases h1 : 0 < pr (F kd mt n) b
    · rw [if_pos h1] at hq
      simp only [Option.some.injEq] at hp hq
      subst hp; subst hq; exact hab
    · rw [if_neg h1] at hq; cases hq
  · rw [if_neg h0] at hp; cases hp
theorem PS_nd {n : Nat} : (PS kd mt n).Nodup := PS_rise.imp fun h => by rintro rfl; omega
theorem PS_perm {n : Nat} : (PS kd mt n).Perm (F kd mt n) := (List.perm_ext_iff_of_nodup PS_nd F_nd).2 fun p => mem_PS
/-- Whatever is sorted by opening places, and holds the pairs, is this. -/
theorem PS_eq {n : Nat} {l : List (Nat × Nat)} (hp : l.Perm (F kd mt n)) (hs : l.Pairwise fun p q => ¬ q.1 < p.1) : l = PS kd mt n := by
  refine List.Perm.eq_of_pairwise (le := fun p q : Nat × Nat => ¬ q.1 < p.1) ?_ hs (PS_rise.imp fun h => by omega) (hp.trans PS_perm.symm)
  intro a b ha hb h1 h2
  exact F_opens (hp.mem_iff.1 ha) (mem_PS.1 hb) (by omega)
theorem PS_len {n : Nat} : (PS kd mt n).length = (F kd mt n).length := PS_perm.length_eq
theorem F_len {n : Nat} : (F kd mt n).length ≤ n := by
  have h := PS_len (kd := kd) (mt := mt) (n := n)
  rw [← h]
  unfold PS
  exact Nat.le_trans (List.length_filterMap_le _ _) (by simp)
theorem ps_len {k : Nat} {wt : List Nat} {ps : List (Nat × Nat)} {o : Bool} (hs : at' kd mt k = ⟨o, wt, ps⟩) : 2 * ps.length + wt.length ≤ k := by
  have := (inv (kd := kd) (mt := mt) k).cnt; rw [hs] at this; exact this
end Br
end Go.Proofs.YtmdmehopefgndaaGreatDoor

/- Plain mathematics of the types that brackets get. No Go in sight. -/
namespace Go.Proofs.YtmdmehopefgndaaGreatDoor
set_option linter.unusedVariables false
namespace Br
/-- The places from a up to b get d. -/
def setR (T : List Int) (d : Int) (a b : Nat) : List Int := T.mapIdx fun j x => if a ≤ j ∧ j < b then d else x
theorem setR_len (T : List Int) (d : Int) (a b : Nat) : (setR T d a b).length = T.length := by simp [setR]
theorem setR_at (T : List Int) (d : Int) (a b j : Nat) : (setR T d a b).getD j 0 = if a ≤ j ∧ j < b ∧ j < T.length then d else T.getD j 0 := by
  unfold setR
  simp only [List.getD_eq_getElem?_getD, List.getElem?_mapIdx]
  by_cases h : j < T.length
  · rw [List.getElem?_eq_getElem h]
    by_cases h2 : a ≤ j ∧ j < b
    · simp [h2, h]
    · have : ¬ (a ≤ j ∧ j < b ∧ j < T.length) := fun h3 => h2 ⟨h3.1, h3.2.1⟩
      simp [h2, this]
  · rw [List.getElem?_eq_none (by omega)]
    have : ¬ (a ≤ j ∧ j < b ∧ j < T.length) := by omega
    simp [this]
theorem ext_getD {A B : List Int} (hl : A.length = B.length) (h : ∀ j, A.getD j 0 = B.getD j 0) : A = B := by
  refine List.ext_getElem hl fun j h1 h2 => ?_
  have := h j
  simp only [List.getD_eq_getElem?_getD, List.getElem?_eq_getElem h1, List.getElem?_eq_getElem h2, Option.getD_some] at this
  exact this
theorem set_at (T : List Int) (p j : Nat) (d : Int) : (T.set p d).getD j 0 = if p = j ∧ j < T.length then d else T.getD j 0 := by
  by_cases h : p = j
  · subst h
    by_cases h2 : p < T.length
    · simp [List.getD, h2]
    · simp [List.getD, h2, List.set_eq_of_length_le (show T.length ≤ p by omega)]
  · have : ¬ (p = j ∧ j < T.length) := fun h3 => h h3.1
    rw [if_neg this]; simp [List.getD, List.getElem?_set_ne h]
theorem setR_one (T : List Int) (d : Int) (p : Nat) : T.set p d = setR T d p (p + 1) := by
  refine ext_getD (by simp [setR_len]) fun j => ?_
  rw [set_at, setR_at]
  by_cases h : p = j ∧ j < T.length
  · rw [if_pos h, if_pos (by omega)]
  · rw [if_neg h, if_neg (by omega)]
theorem setR_snoc (T : List Int) (d : Int) (a b : Nat) (h : a ≤ b) : (setR T d a b).set b d = setR T d a (b + 1) := by
  refine ext_getD (by simp [setR_len]) fun j => ?_
  rw [set_at, setR_at, setR_at, setR_len]
  by_cases h1 : b = j ∧ j < T.length
  · rw [if_pos h1, if_pos (by omega)]
  · rw [if_neg h1]
    by_cases h2 : a ≤ j ∧ j < b ∧ j < T.length
    · rw [if_pos h2, if_pos (by omega)]
    · rw [if_neg h2, if_neg (by omega)]
/-- Up to where marks stand from i on. -/
def nx (was : List Int) (i : Nat) : Nat := i + ((was.drop i).takeWhile (· == 9)).length
theorem nx_stop {was : List Int} {i : Nat} (h : ¬ (i < was.length ∧ was.getD i 0 = 9)) : nx was i = i := by
  unfold nx
  by_cases hi : i < was.length
  · have h9 : ¬ was.getD i 0 = 9 := fun e => h ⟨hi, e⟩
    simp only [List.getD_eq_getElem?_getD, List.getElem?_eq_getElem hi, Option.getD_some] at h9
    have e : was.drop i = was[i] :: was.drop (i + 1) := List.drop_eq_getElem_cons hi
    rw [e, List.takeWhile_cons, if_neg (by simpa using h9)]; rfl
  · rw [List.drop_eq_nil_of_le (by omega)]; rfl
theorem nx_more {was : List Int} {i : Nat} (hi : i < was.length) (h9 : was.getD i 0 = 9) : nx was i = nx was (i + 1) := by
  unfold nx
  rw [List.drop_eq_getElem_cons hi]
  simp only [List.getD_eq_getElem?_getD, List.getElem?_eq_getElem hi, Option.getD_some] at h9
  simp [h9]; omega
theorem nx_le {was : List Int} {i : Nat} (h : i ≤ was.length) : i ≤ nx was i ∧ nx was i ≤ was.length := by
  unfold nx
  have := (List.takeWhile_sublist (fun x : Int => x == 9) (l := was.drop i)).length_le
  rw [List.length_drop] at this
  omega
theorem nx_in {was : List Int} {i j : Nat} (h1 : i ≤ j) (h2 : j < nx was i) : was.getD j 0 = 9 := by
  unfold nx at h2
  have hl := (List.takeWhile_sublist (fun x : Int => x == 9) (l := was.drop i)).length_le
  have hp := List.takeWhile_prefix (fun x : Int => x == 9) (l := was.drop i)
  have hj : j - i < ((was.drop i).takeWhile (· == 9)).length := by omega
  have hm := List.getElem_mem hj
  have hq := List.all_takeWhile (p := fun x : Int => x == 9) (l := was.drop i)
  have h9 := List.all_eq_true.1 hq _ hm
  have e := hp.getElem hj
  rw [e] at h9
  rw [List.length_drop] at hl
  have hlt : j < was.length := by omega
  simp only [List.getD_eq_getElem?_getD, List.getElem?_eq_getElem hlt, Option.getD_some]
  have e2 : (was.drop i)[j - i]'(by rw [List.length_drop]; omega) = was[j] := by
    rw [List.getElem_drop]; congr 1; omega
  rw [e2] at h9
  simpa using h9
/-- A bracket gets a type, and all marks on it. -/
def give (was T : List Int) (d : Int) (p : Nat) : List Int := setR T d p (nx was (p + 1))
theorem give_len (was T : List Int) (d : Int) (p : Nat) : (give was T d p).length = T.length := setR_len _ _ _ _
def two (was T : List Int) (d : Int) (p : Nat × Nat) : List Int := give was (give was T d p.1) d p.2
theorem two_len (was T : List Int) (d : Int) (p : Nat × Nat) : (two was T d p).length = T.length := by unfold two; rw [give_len, give_len]
/-- A type's side. -/
def sd (x : Int) : Int := if x = 1 then 1 else if x = 2 ∨ x = 4 ∨ x = 7 then 2 else 0
theorem sd_cases (x : Int) : sd x = 0 ∨ sd x = 1 ∨ sd x = 2 := by
  unfold sd
  by_cases h : x = 1
  · simp [h]
  · by_cases h2 : x = 2 ∨ x = 4 ∨ x = 7
    · simp [h, h2]
    · simp [h, h2]
def has (L : List Int) (s : Int) : Bool := L.any fun x => decide (sd x = s)
theorem has_snoc (L : List Int) (x s : Int) : has (L ++ [x]) s = (has L s || decide (sd x = s)) := by simp [has, List.any_append]
def ins (T : List Int) (p : Nat × Nat) : List Int := (T.drop (p.1 + 1)).take (p.2 - (p.1 + 1))
/-- The side of the last one of the first k that has one. -/
def ah (T : List Int) (s : Int) : Nat → Int
  | 0 => s
  | k + 1 => if sd (T.getD k 0) = 0 then ah T s k else sd (T.getD k 0)
/-- What a pair gets; 0: nothing. -/
def dr (T : List Int) (p : Nat × Nat) (e s : Int) : Int :=
  if has (ins T p) e = true then e else if has (ins T p) (3 - e) = true then (if ah T s p.1 = 3 - e then 3 - e else e) else 0
theorem dr_cases {T : List Int} {p : Nat × Nat} {e s : Int} (he : e = 1 ∨ e = 2) : dr T p e s = 0 ∨ dr T p e s = 1 ∨ dr T p e s = 2 := by
  unfold dr
  split
  · omega
  · split
    · split <;> omega
    · omega
def one (was : List Int) (e s : Int) (T : List Int) (p : Nat × Nat) : List Int := if dr T p e s = 0 then T else two was T (dr T p e s) p
theorem one_len (was : List Int) (e s : Int) (T : List Int) (p : Nat × Nat) : (one was e s T p).length = T.length := by
  unfold one; split
  · rfl
  · exact two_len _ _ _ _
/-- Behind some pairs. -/
def rs (was : List Int) (e s : Int) (T : List Int) (ps : List (Nat × Nat)) : List Int := ps.foldl (one was e s) T
theorem rs_len (was : List Int) (e s : Int) : ∀ (ps : List (Nat × Nat)) (T : List Int), (rs was e s T ps).length = T.length
  | [], T => rfl
  | p :: r, T => by
    rw [rs, List.foldl_cons]
    have := rs_len was e s r (one was e s T p)
    rw [rs] at this
    rw [this, one_len]
theorem rs_snoc (was : List Int) (e s : Int) (T : List Int) (ps : List (Nat × Nat)) (p : Nat × Nat) : rs was e s T (ps ++ [p]) = one was e s (rs was e s T ps) p := by simp [rs]
/-- The types that may be. -/
def may (x : Int) : Bool := x == 1 || x == 2 || x == 4 || x == 7 || x == 11 || x == 12 || x == 13 || x == 14 || x == 20 || x == 21 || x == 22 || x == 23
def es (lv : Int) : Int := if lv % 2 = 1 then 2 else 1
theorem es_cases (lv : Int) : es lv = 1 ∨ es lv = 2 := by unfold es; split <;> omega
/-- Which places may change: those that pairs give. -/
def fr (was : List Int) (n : Nat) (ps : List (Nat × Nat)) : List Int := ps.foldl (fun F p => two was F 1 p) (List.replicate n 0)
theorem fr_snoc (was : List Int) (n : Nat) (ps : List (Nat × Nat)) (p : Nat × Nat) : fr was n (ps ++ [p]) = two was (fr was n ps) 1 p := by simp [fr]
theorem fr_len (was : List Int) (n : Nat) (ps : List (Nat × Nat)) : (fr was n ps).length = n := by
  unfold fr
  suffices ∀ (ps : List (Nat × Nat)) (F : List Int), (ps.foldl (fun F p => two was F 1 p) F).length = F.length by rw [this]; simp
  intro ps
  induction ps with
  | nil => intro F; rfl
  | cons p r ih => intro F; rw [List.foldl_cons, ih, two_len]
theorem two_at (was T : List Int) (d : Int) (p : Nat × Nat) (j : Nat) : (two was T d p).getD j 0 = if (p.2 ≤ j ∧ j < nx was (p.2 + 1) ∨ p.1 ≤ j ∧ j < nx was (p.1 + 1)) ∧ j < T.length then d else T.getD j 0 := by
  unfold two give
  rw [setR_at, setR_len, setR_at]
  by_cases h1 : p.2 ≤ j ∧ j < nx was (p.2 + 1) ∧ j < T.length
  · rw [if_pos h1, if_pos ⟨.inl ⟨h1.1, h1.2.1⟩, h1.2.2⟩]
  · rw [if_neg h1]
    by_cases h2 : p.1 ≤ j ∧ j < nx was (p.1 + 1) ∧ j < T.length
    · rw [if_pos h2, if_pos ⟨.inr ⟨h2.1, h2.2.1⟩, h2.2.2⟩]
    · rw [if_neg h2, if_neg (by omega)]
/-- What is not free keeps its type. -/
theorem keeps (was : List Int) (e s : Int) (t : List Int) (ps : List (Nat × Nat)) (j : Nat) : (fr was t.length ps).getD j 0 = 0 → (rs was e s t ps).getD j 0 = t.getD j 0 := by
  suffices ∀ r : List (Nat × Nat), (fr was t.length r.reverse).getD j 0 = 0 → (rs was e s t r.reverse).getD j 0 = t.getD j 0 by
    have := this ps.reverse; rwa [List.reverse_reverse] at this
  intro r
  induction r with
  | nil => intro _; rfl
  | cons p r ih =>
    rw [List.reverse_cons, fr_snoc, rs_snoc]
    intro h
    rw [two_at, fr_len] at h
    by_cases hc : (p.2 ≤ j ∧ j < nx was (p.2 + 1) ∨ p.1 ≤ j ∧ j < nx was (p.1 + 1)) ∧ j < t.length
    · rw [if_pos hc] at h; cases h
    · rw [if_neg hc] at h
      have hi := ih h
      unfold one
      split
      · exact hi
      · rw [two_at, rs_len, if_neg hc]; exact hi
/-- Values stay among those that may be. -/
theorem among (was : List Int) (e s : Int) (he : e = 1 ∨ e = 2) (j : Nat) : ∀ (ps : List (Nat × Nat)) (t : List Int), (t.getD j 0 = 14 ∨ t.getD j 0 = 1 ∨ t.getD j 0 = 2) → ((rs was e s t ps).getD j 0 = 14 ∨ (rs was e s t ps).getD j 0 = 1 ∨ (rs was e s t ps).getD j 0 = 2)
  | [], t, h => h
  | p :: r, t, h => by
    rw [rs, List.foldl_cons, ← rs]
    refine among was e s he j r _ ?_
    unfold one
    by_cases h0 : dr t p e s = 0
    · rw [if_pos h0]; exact h
    · rw [if_neg h0, two_at]
      split
      · exact .inr ((dr_cases he).resolve_left h0)
      · exact h
/-- A place that was no mark is given by its own pair alone. -/
theorem not_given {was : List Int} {q : Nat × Nat} {j : Nat} (hj : ¬ was.getD j 0 = 9) (h1 : ¬ q.1 = j) (h2 : ¬ q.2 = j) : ¬ (q.2 ≤ j ∧ j < nx was (q.2 + 1) ∨ q.1 ≤ j ∧ j < nx was (q.1 + 1)) := by
  rintro (⟨h3, h4⟩ | ⟨h3, h4⟩)
  · exact hj (nx_in (i := q.2 + 1) (by omega) h4)
  · exact hj (nx_in (i := q.1 + 1) (by omega) h4)
theorem rs_other (was : List Int) (e s : Int) {j : Nat} (hj : ¬ was.getD j 0 = 9) : ∀ (ps : List (Nat × Nat)) (t : List Int), (∀ q ∈ ps, ¬ q.1 = j ∧ ¬ q.2 = j) → (rs was e s t ps).getD j 0 = t.getD j 0
  | [], t, _ => rfl
  | p :: r, t, h => by
    rw [rs, List.foldl_cons, ← rs, rs_other was e s hj r _ (fun q hq => h q (List.mem_cons_of_mem _ hq))]
    have hp := h p List.mem_cons_self
    unfold one
    split
    · rfl
    · rw [two_at, if_neg (fun h3 => not_given hj hp.1 hp.2 h3.1)]
/-- Both brackets of a pair have one type, if none was a mark. -/
theorem alike (was : List Int) (e s : Int) {p : Nat × Nat} (h1 : ¬ was.getD p.1 0 = 9) (h2 : ¬ was.getD p.2 0 = 9) : ∀ (ps : List (Nat × Nat)) (t : List Int), (ps.Pairwise fun a b => ¬ a.1 = b.1 ∧ ¬ a.1 = b.2 ∧ ¬ a.2 = b.1 ∧ ¬ a.2 = b.2) → p ∈ ps → p.1 < t.length → p.2 < t.length → p.2 < was.length → p.1 < was.length → t.getD p.1 0 = t.getD p.2 0 →
    (rs was e s t ps).getD p.1 0 = (rs was e s t ps).getD p.2 0
  | [], t, _, hm, _, _, _, _, _ => by cases hm
  | q :: r, t, hp, hm, hl1, hl2, hw2, hw1, ht => by
    rw [rs, List.foldl_cons, ← rs]
    obtain ⟨ha, hr⟩ := List.pairwise_cons.1 hp
    by_cases hq : p = q
    · subst hq
      rw [rs_other was e s h1 r _ (fun q hq => by have := ha q hq; omega), rs_other was e s h2 r _ (fun q hq => by have := ha q hq; omega)]
      unfold one
      split
      · exact ht
      · have n1 := (nx_le (was := was) (i := p.1 + 1) (by omega)).1
        have n2 := (nx_le (was := was) (i := p.2 + 1) (by omega)).1
        rw [two_at, two_at, if_pos ⟨.inr ⟨Nat.le_refl _, by omega⟩, hl1⟩, if_pos ⟨.inl ⟨Nat.le_refl _, by omega⟩, hl2⟩]
    · simp only [List.mem_cons] at hm
      have hm := hm.resolve_left hq
      have hx := ha p hm
      refine alike was e s h1 h2 r _ hr hm (by rw [one_len]; exact hl1) (by rw [one_len]; exact hl2) hw2 hw1 ?_
      unfold one
      split
      · exact ht
      · rw [two_at, two_at, if_neg (fun h3 => not_given h1 (by omega) (by omega) h3.1), if_neg (fun h3 => not_given h2 (by omega) (by omega) h3.1)]
        exact ht
theorem F_places {kd : Nat → Int} {mt : Nat → Nat → Bool} {n : Nat} : (PS kd mt n).Pairwise fun a b => ¬ a.1 = b.1 ∧ ¬ a.1 = b.2 ∧ ¬ a.2 = b.1 ∧ ¬ a.2 = b.2 := by
  have h := PS_rise (kd := kd) (mt := mt) (n := n)
  have hm := fun p (hp : p ∈ PS kd mt n) => mem_PS.1 hp
  refine h.imp_of_mem ?_
  intro a b ha hb hab
  have h1 := F_p a (hm a ha)
  have h2 := F_p b (hm b hb)
  rcases F_two (hm a ha) (hm b hb) with h3 | h3 | h3
  · rw [h3] at hab; omega
  · refine ⟨by omega, ?_, ?_, by omega⟩
    · intro e; have e1 := h1.2.2.1; have e2 := h2.2.2.2.1; rw [e] at e1; omega
    · intro e; have e1 := h1.2.2.2.1; have e2 := h2.2.2.1; rw [e] at e1; omega
  · refine ⟨by omega, ?_, ?_, by omega⟩
    · intro e; have e1 := h1.2.2.1; have e2 := h2.2.2.2.1; rw [e] at e1; omega
    · intro e; have e1 := h1.2.2.2.1; have e2 := h2.2.2.1; rw [e] at e1; omega
end Br
end Go.Proofs.YtmdmehopefgndaaGreatDoor

/- What the rules of chapters 9 to 11, one behind the other, make of a sequence: plain mathematics. -/
namespace Go.Proofs.YtmdmehopefgndaaGreatDoor.Rn
set_option linter.unusedVariables false
/-- Types behind weak and bracket; levels. pp: which brackets are pairs. -/
def T9 (ty : List Int) (so : Int) : List Int := We.RR so ty 7
def T10 (pp : List Int → List Int → List (Nat × Nat)) (tx ty : List Int) (lv so : Int) : List Int := Br.rs ty (Br.es lv) so (T9 ty so) (pp tx (T9 ty so))
def F12 (pp : List Int → List Int → List (Nat × Nat)) (tx ty : List Int) (lv so eo : Int) : List Int := Ne.LS (Ne.RS (T10 pp tx ty lv so) lv so eo) lv
theorem T9_len (ty : List Int) (so : Int) : (T9 ty so).length = ty.length := We.RR_len _ _ _
theorem T10_len (pp : List Int → List Int → List (Nat × Nat)) (tx ty : List Int) (lv so : Int) : (T10 pp tx ty lv so).length = ty.length := by unfold T10; rw [Br.rs_len, T9_len]
theorem F12_len (pp : List Int → List Int → List (Nat × Nat)) (tx ty : List Int) (lv so eo : Int) : (F12 pp tx ty lv so eo).length = ty.length := by unfold F12; rw [Ne.LS_len, Ne.RS_len, T10_len]
theorem fine12 {pp : List Int → List Int → List (Nat × Nat)} (hpp : ∀ tx T, ∀ q ∈ pp tx T, T.getD q.1 0 = 14 ∧ T.getD q.2 0 = 14) : Fine (F12 pp) := by
  refine ⟨fun tx ty lv so eo => F12_len pp tx ty lv so eo, ?_, ?_⟩
  · intro tx ty lv so eo h0 h1 hso heo m hm
    exact Ne.levels_range h0 h1 hso (by rw [T10_len]; exact hm)
  · intro tx ty b so hb hso h0 hx
    have hl := T10_len pp tx ty b so
    have e9 : (T9 ty so).getD (ty.length - 1) 0 = 11 := by
      have := We.kept_RR (s := so) (t := ty) (i := ty.length - 1) (by omega) (by rw [hx]; unfold We.Kept; omega) 7
      unfold T9
      rw [this, hx]
    have e10 : (T10 pp tx ty b so).getD (ty.length - 1) 0 = 11 := by
      unfold T10
      rw [Br.rs_other ty (Br.es b) so (by rw [hx]; decide) _ _ (fun q hq => ?_), e9]
      obtain ⟨q1, q2⟩ := hpp _ _ q hq
      refine ⟨fun e => ?_, fun e => ?_⟩
      · rw [e, e9] at q1; exact absurd q1 (by decide)
      · rw [e, e9] at q2; exact absurd q2 (by decide)
    have := Ne.levels_last (t := T10 pp tx ty b so) (b := b) (so := so) hb (by omega) (by rw [hl, e10]; decide)
    rw [hl] at this
    exact this
/-- One direction alone, with blanks and signs, and no pair. -/
theorem plain12 {pp : List Int → List Int → List (Nat × Nat)} {p lv : Int} (hp : (p = 1 ∧ lv = 0) ∨ (p = 2 ∧ lv = 1)) {tx ty : List Int} (h : ∀ i, i < ty.length → We.P1 p (ty.getD i 0)) (hno : pp tx (T9 ty p) = []) {m : Nat} (hm : m < ty.length) : (F12 pp tx ty lv p p).getD m 0 = lv := by
  have h9 := We.plain_types (p := p) (by omega) h
  have e10 : T10 pp tx ty lv p = T9 ty p := by unfold T10; rw [hno]; unfold Br.rs; rw [List.foldl_nil]
  unfold F12
  rw [e10]
  have hl := T9_len ty p
  refine Ne.plain_levels hp (fun i hi => ?_) (by rw [Ne.RS_len, hl]; exact hm)
  rw [Ne.RS_len] at hi
  have h9 : ∀ j, j < (T9 ty p).length → We.P4 p ((T9 ty p).getD j 0) := h9
  generalize T9 ty p = T at *
  refine Ne.plain_sides (by omega) (fun j hj => ?_) hi
  rcases h9 j hj with e | e | e
  · exact .inl e
  · right; rw [e]; decide
  · right; rw [e]; decide
end Go.Proofs.YtmdmehopefgndaaGreatDoor.Rn
