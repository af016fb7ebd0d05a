/- Plain mathematics of pairs of brackets: who waits, who ends whom. No Go in sight. -/
import Derived.Test.YtkkmifpdhcdkpaaDoorLists
namespace Go.Proofs.YtkkmifpdhcdkpaaDoor
set_option linter.unusedVariables false
namespace Br
/-- The state of the search: is it over; who waits, the last one first; the pairs, by their closing places. -/
structure St where
  off : Bool
  wt : List Nat
  ps : List (Nat × Nat)
section
variable (kd : Nat → Int) (mt : Nat → Nat → Bool)
/-- Those that wait, from the one on that i ends. -/
def fd (i : Nat) : List Nat → List Nat
  | [] => []
  | x :: r => if mt x i then x :: r else fd i r
def step (i : Nat) (s : St) : St :=
  if s.off then s else
  if kd i = 1 then (if s.wt.length = 63 then ⟨true, s.wt, s.ps⟩ else ⟨false, i :: s.wt, s.ps⟩)
  else if kd i = 2 then (match fd mt i s.wt with | [] => s | x :: r => ⟨false, r, s.ps ++ [(x, i)]⟩)
  else s
/-- Behind k places. -/
def at' : Nat → St
  | 0 => ⟨false, [], []⟩
  | k + 1 => step kd mt k (at' k)
def F (n : Nat) : List (Nat × Nat) := (at' kd mt n).ps
/-- Whom a place is ended by; 0: by none. -/
def pr : List (Nat × Nat) → Nat → Nat
  | [], _ => 0
  | p :: r, i => if p.1 = i then p.2 else pr r i
/-- The pairs by their opening places. -/
def PS (n : Nat) : List (Nat × Nat) := (List.range n).filterMap fun i => if 0 < pr (F kd mt n) i then some (i, pr (F kd mt n) i) else none
end
variable {kd : Nat → Int} {mt : Nat → Nat → Bool}
theorem fd_suffix (i : Nat) : ∀ W : List Nat, ∃ pre, W = pre ++ fd mt i W
  | [] => ⟨[], rfl⟩
  | x :: r => by
    rw [fd]
    by_cases h : mt x i
    · rw [if_pos h]; exact ⟨[], rfl⟩
    · rw [if_neg h]
      obtain ⟨pre, e⟩ := fd_suffix i r
      exact ⟨x :: pre, by rw [List.cons_append, ← e]⟩
theorem fd_hd (i : Nat) : ∀ (W : List Nat) (x : Nat) (r : List Nat), fd mt i W = x :: r → mt x i = true
  | [], x, r, h => by cases h
  | y :: q, x, r, h => by
    rw [fd] at h
    by_cases hm : mt y i
    · rw [if_pos hm] at h
      simp only [List.cons.injEq] at h
      rw [← h.1]; exact hm
    · rw [if_neg hm] at h
      exact fd_hd i q x r h
/-- What is known on the way. -/
structure Inv (kd : Nat → Int) (mt : Nat → Nat → Bool) (k : Nat) (s : St) : Prop where
  wlt : ∀ x ∈ s.wt, x < k ∧ kd x = 1
  wdec : s.wt.Pairwise (· > ·)
  wlen : s.wt.length ≤ 63
  p1 : ∀ p ∈ s.ps, p.1 < p.2 ∧ p.2 < k ∧ kd p.1 = 1 ∧ kd p.2 = 2 ∧ mt p.1 p.2 = true
  rise : s.ps.Pairwise fun p q => p.2 < q.2 ∧ (q.1 < p.1 ∨ p.2 < q.1)
  apart : ∀ x ∈ s.wt, ∀ p ∈ s.ps, x < p.1 ∨ p.2 < x
  cnt : 2 * s.ps.length + s.wt.length ≤ k
theorem inv (k : Nat) : Inv kd mt k (at' kd mt k) := by
  induction k with
  | zero => exact ⟨by simp [at'], by simp [at'], by simp [at'], by simp [at'], by simp [at'], by simp [at'], by simp [at']⟩
  | succ k ih =>
    rw [at']
    generalize at' kd mt k = s0 at ih
    obtain ⟨off, wt, ps⟩ := s0
    have keep : Inv kd mt (k + 1) ⟨off, wt, ps⟩ := ⟨fun x hx => ⟨by have := (ih.wlt x hx).1; omega, (ih.wlt x hx).2⟩, ih.wdec, ih.wlen, fun p hp => by have := ih.p1 p hp; exact ⟨this.1, by omega, this.2.2⟩, ih.rise, ih.apart, by have := ih.cnt; omega⟩
    unfold step
    cases off with
    | true => exact keep
    | false =>
      simp only [Bool.false_eq_true, if_false]
      by_cases h1 : kd k = 1
      · rw [if_pos h1]
        by_cases h6 : wt.length = 63
        · rw [if_pos h6]
          exact ⟨keep.wlt, keep.wdec, keep.wlen, keep.p1, keep.rise, keep.apart, keep.cnt⟩
        · rw [if_neg h6]
          have hl := ih.wlen
          refine ⟨?_, ?_, by simp only [List.length_cons]; simp only at hl; omega, keep.p1, keep.rise, ?_, by have := ih.cnt; simp only [List.length_cons] at this ⊢; omega⟩
          · intro x hx
            simp only [List.mem_cons] at hx
            rcases hx with rfl | hx
            · exact ⟨by omega, h1⟩
            · exact keep.wlt x hx
          · exact List.pairwise_cons.2 ⟨fun x hx => (ih.wlt x hx).1, ih.wdec⟩
          · intro x hx p hp
            simp only [List.mem_cons] at hx
            rcases hx with rfl | hx
            · exact .inr (ih.p1 p hp).2.1
            · exact ih.apart x hx p hp
      · rw [if_neg h1]
        by_cases h2 : kd k = 2
        · rw [if_pos h2]
          cases hf : fd mt k wt with
          | nil => exact keep
          | cons x r =>
            simp only
            obtain ⟨pre, e⟩ := fd_suffix (mt := mt) k wt
            rw [hf] at e
            have hmt := fd_hd k wt x r hf
            have hw := ih.wlt
            have hd := ih.wdec
            have ha := ih.apart
            have hl := ih.wlen
            simp only [e] at hw hd ha hl
            have hxm : x ∈ pre ++ x :: r := by simp
            have hrm : ∀ y ∈ r, y ∈ pre ++ x :: r := fun y hy => by simp [hy]
            have hd2 := (List.pairwise_append.1 hd).2.1
            refine ⟨fun y hy => ⟨by have := (hw y (hrm y hy)).1; omega, (hw y (hrm y hy)).2⟩, (List.pairwise_cons.1 hd2).2, by simp only [List.length_append, List.length_cons] at hl; simp only; omega, ?_, ?_, ?_, by have := ih.cnt; rw [e] at this; simp only [List.length_append, List.length_cons, List.length_nil] at this ⊢; omega⟩
            · intro p hp
              simp only [List.mem_append, List.mem_cons, List.not_mem_nil, or_false] at hp
              rcases hp with hp | rfl
              · exact keep.p1 p hp
              · exact ⟨(hw x hxm).1, by simp only; omega, (hw x hxm).2, h2, hmt⟩
            · refine List.pairwise_append.2 ⟨ih.rise, List.pairwise_singleton _ _, fun p hp q hq => ?_⟩
              simp only [List.mem_cons, List.not_mem_nil, or_false] at hq
              subst hq
              exact ⟨(ih.p1 p hp).2.1, ha x hxm p hp⟩
            · intro y hy p hp
              simp only [List.mem_append, List.mem_cons, List.not_mem_nil, or_false] at hp
              rcases hp with hp | rfl
              · exact ha y (hrm y hy) p hp
              · exact .inl ((List.pairwise_cons.1 hd2).1 y hy)
        · rw [if_neg h2]; exact keep
theorem step_off {i : Nat} {s : St} (h : s.off = true) : step kd mt i s = s := by unfold step; rw [if_pos h]
theorem at_off {k n : Nat} (h : (at' kd mt k).off = true) (hk : k ≤ n) : at' kd mt n = at' kd mt k := by
  induction n with
  | zero => obtain rfl : k = 0 := by omega
            rfl
  | succ n ih =>
    by_cases e : k = n + 1
    · rw [e]
    · have := ih (by omega)
      rw [at', this, step_off h]
theorem step_full {k : Nat} {wt : List Nat} {ps : List (Nat × Nat)} (hs : at' kd mt k = ⟨false, wt, ps⟩) (h1 : kd k = 1) (h6 : wt.length = 63) : at' kd mt (k + 1) = ⟨true, wt, ps⟩ := by
  rw [at', hs]; unfold step; simp [h1, h6]
theorem step_open {k : Nat} {wt : List Nat} {ps : List (Nat × Nat)} (hs : at' kd mt k = ⟨false, wt, ps⟩) (h1 : kd k = 1) (h6 : ¬ wt.length = 63) : at' kd mt (k + 1) = ⟨false, k :: wt, ps⟩ := by
  rw [at', hs]; unfold step; simp [h1, h6]
theorem step_none {k : Nat} {wt : List Nat} {ps : List (Nat × Nat)} (hs : at' kd mt k = ⟨false, wt, ps⟩) (h2 : kd k = 2) (hf : fd mt k wt = []) : at' kd mt (k + 1) = ⟨false, wt, ps⟩ := by
  rw [at', hs]; unfold step; simp [h2, hf]
theorem step_some {k : Nat} {wt : List Nat} {ps : List (Nat × Nat)} (hs : at' kd mt k = ⟨false, wt, ps⟩) (h2 : kd k = 2) {x : Nat} {r : List Nat} (hf : fd mt k wt = x :: r) : at' kd mt (k + 1) = ⟨false, r, ps ++ [(x, k)]⟩ := by
  rw [at', hs]; unfold step; simp [h2, hf]
theorem step_skip {k : Nat} {wt : List Nat} {ps : List (Nat × Nat)} (hs : at' kd mt k = ⟨false, wt, ps⟩) (h1 : ¬ kd k = 1) (h2 : ¬ kd k = 2) : at' kd mt (k + 1) = ⟨false, wt, ps⟩ := by
  rw [at', hs]; unfold step; simp [h1, h2]
/-- The search that is over at k has found all. -/
theorem F_full {k n : Nat} {wt : List Nat} {ps : List (Nat × Nat)} (hs : at' kd mt k = ⟨false, wt, ps⟩) (h1 : kd k = 1) (h6 : wt.length = 63) (hk : k < n) : F kd mt n = ps := by
  have e := step_full hs h1 h6
  unfold F
  rw [at_off (k := k + 1) (by rw [e]) (by omega), e]
theorem F_p {n : Nat} : ∀ p ∈ F kd mt n, p.1 < p.2 ∧ p.2 < n ∧ kd p.1 = 1 ∧ kd p.2 = 2 ∧ mt p.1 p.2 = true := (inv n).p1
theorem F_rise {n : Nat} : (F kd mt n).Pairwise fun p q => p.2 < q.2 ∧ (q.1 < p.1 ∨ p.2 < q.1) := (inv n).rise
theorem F_nd {n : Nat} : (F kd mt n).Nodup := F_rise.imp fun h => by rintro rfl; omega
/-- Two of them: the same one, or apart. -/
theorem F_two {n : Nat} {p q : Nat × Nat} (hp : p ∈ F kd mt n) (hq : q ∈ F kd mt n) : p = q ∨ (p.2 < q.2 ∧ (q.1 < p.1 ∨ p.2 < q.1)) ∨ (q.2 < p.2 ∧ (p.1 < q.1 ∨ q.2 < p.1)) := by
  have h := F_rise (kd := kd) (mt := mt) (n := n)
  generalize F kd mt n = l at *
  induction l with
  | nil => cases hp
  | cons a l ih =>
    obtain ⟨h1, h2⟩ := List.pairwise_cons.1 h
    simp only [List.mem_cons] at hp hq
    rcases hp with rfl | hp <;> rcases hq with rfl | hq
    · exact .inl rfl
    · exact .inr (.inl (h1 q hq))
    · exact .inr (.inr (h1 p hp))
    · exact ih hp hq h2
theorem F_opens {n : Nat} {p q : Nat × Nat} (hp : p ∈ F kd mt n) (hq : q ∈ F kd mt n) (h : p.1 = q.1) : p = q := by
  have h1 := F_p p hp
  have h2 := F_p q hq
  rcases F_two hp hq with h3 | h3 | h3
  · exact h3
  · omega
  · omega
theorem pr_mem : ∀ (l : List (Nat × Nat)) (i : Nat), 0 < pr l i → (i, pr l i) ∈ l
  | [], i, h => by simp [pr] at h
  | p :: r, i, h => by
    rw [pr] at h ⊢
    by_cases e : p.1 = i
    · rw [if_pos e]; subst e; exact List.mem_cons_self
    · rw [if_neg e] at h ⊢
      exact List.mem_cons_of_mem _ (pr_mem r i h)
theorem pr_of (l : List (Nat × Nat)) (h : ∀ p ∈ l, ∀ q ∈ l, p.1 = q.1 → p = q) (p : Nat × Nat) (hp : p ∈ l) : pr l p.1 = p.2 := by
  induction l with
  | nil => cases hp
  | cons a l ih =>
    rw [pr]
    by_cases e : a.1 = p.1
    · rw [if_pos e]; rw [h a List.mem_cons_self p hp e]
    · rw [if_neg e]
      simp only [List.mem_cons] at hp
      rcases hp with rfl | hp
      · exact absurd rfl e
      · exact ih (fun p hp q hq => h p (List.mem_cons_of_mem _ hp) q (List.mem_cons_of_mem _ hq)) hp
theorem mem_PS {n : Nat} {p : Nat × Nat} : p ∈ PS kd mt n ↔ p ∈ F kd mt n := by
  unfold PS
  rw [List.mem_filterMap]
  constructor
  · rintro ⟨i, hi, h⟩
    by_cases h0 : 0 < pr (F kd mt n) i
    · rw [if_pos h0] at h
      simp only [Option.some.injEq] at h
      subst h
      exact pr_mem _ _ h0
    · rw [if_neg h0] at h; cases h
  · intro hp
    have h1 := F_p p hp
    have h2 := pr_of (F kd mt n) (fun a ha b hb => F_opens ha hb) p hp
    exact ⟨p.1, by rw [List.mem_range]; omega, by rw [h2, if_pos (by omega)]⟩
theorem PS_rise {n : Nat} : (PS kd mt n).Pairwise fun p q => p.1 < q.1 := by
  unfold PS
  refine List.Pairwise.filterMap _ ?_ (List.pairwise_lt_range (n := n))
  intro a b hab p hp q hq
  by_cases h0 : 0 < pr (F kd mt n) a
  · rw [if_pos h0] at hp
    by_cases h1 : 0 < pr (F kd mt n) b
    · rw [if_pos h1] at hq
      simp only [Option.some.injEq] at hp hq
      subst hp; subst hq; exact hab
    · rw [if_neg h1] at hq; cases hq
  · rw [if_neg h0] at hp; cases hp
theorem PS_nd {n : Nat} : (PS kd mt n).Nodup := PS_rise.imp fun h => by rintro rfl; omega
theorem PS_perm {n : Nat} : (PS kd mt n).Perm (F kd mt n) := (List.perm_ext_iff_of_nodup PS_nd F_nd).2 fun p => mem_PS
/-- Whatever is sorted by opening places, and holds the pairs, is this. -/
theorem PS_eq {n : Nat} {l : List (Nat × Nat)} (hp : l.Perm (F kd mt n)) (hs : l.Pairwise fun p q => ¬ q.1 < p.1) : l = PS kd mt n := by
  refine List.Perm.eq_of_pairwise (le := fun p q : Nat × Nat => ¬ q.1 < p.1) ?_ hs (PS_rise.imp fun h => by omega) (hp.trans PS_perm.symm)
  intro a b ha hb h1 h2
  exact F_opens (hp.mem_iff.1 ha) (mem_PS.1 hb) (by omega)
theorem PS_len {n : Nat} : (PS kd mt n).length = (F kd mt n).length := PS_perm.length_eq
theorem F_len {n : Nat} : (F kd mt n).length ≤ n := by
  have h := PS_len (kd := kd) (mt := mt) (n := n)
  rw [← h]
  unfold PS
  exact Nat.le_trans (List.length_filterMap_le _ _) (by simp)
theorem ps_len {k : Nat} {wt : List Nat} {ps : List (Nat × Nat)} {o : Bool} (hs : at' kd mt k = ⟨o, wt, ps⟩) : 2 * ps.length + wt.length ≤ k := by
  have := (inv (kd := kd) (mt := mt) k).cnt; rw [hs] at this; exact this
end Br
end Go.Proofs.YtkkmifpdhcdkpaaDoor
