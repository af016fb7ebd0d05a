import Derived.Test.YtfadjgaledddjaaGreatDoorZa
import Derived.Test.YtfadjgaledddjaaGreatDoorZg
import Derived.Deep.RegionHeld3
import Derived.Deep.RegionHeldLaw
import Derived.Deep.RegionLaw
import Derived.Deep.LoopGhost
import Derived.WalkMore
import Derived.Shelf.SlSortCmp.NoneTotal
import Derived.Shelf.SlicesG.Cmp
import Derived.Shelf.SlGeneric
import Derived.Shelf.Lay
import Derived.Ground.SlsfProg
import Derived.Ground.SlgcProg
/- Plain mathematics of pairs of brackets: who waits, who ends whom. No Go in sight. -/
namespace Go.Proofs.YtfadjgaledddjaaGreatDoor
set_option linter.unusedVariables false
namespace Br
/-- The state of the search: is it over; who waits, the last one first; the pairs, by their closing places. -/
structure St where
  off : Bool
  wt : List Nat
  ps : List (Nat × Nat)
section
variable (kd : Nat → Int) (mt : Nat → Nat → Bool)
/-- Those that wait, from the one on that i ends. -/
def fd (i : Nat) : List Nat → List Nat
  | [] => []
  | x :: r => if mt x i then x :: r else fd i r
def step (i : Nat) (s : St) : St :=
  if s.off then s else
  if kd i = 1 then (if s.wt.length = 63 then ⟨true, s.wt, s.ps⟩ else ⟨false, i :: s.wt, s.ps⟩)
  else if kd i = 2 then (match fd mt i s.wt with | [] => s | x :: r => ⟨false, r, s.ps ++ [(x, i)]⟩)
  else s
/-- Behind k places. -/
def at' : Nat → St
  | 0 => ⟨false, [], []⟩
  | k + 1 => step kd mt k (at' k)
def F (n : Nat) : List (Nat × Nat) := (at' kd mt n).ps
/-- Whom a place is ended by; 0: by none. -/
def pr : List (Nat × Nat) → Nat → Nat
  | [], _ => 0
  | p :: r, i => if p.1 = i then p.2 else pr r i
/-- The pairs by their opening places. -/
def PS (n : Nat) : List (Nat × Nat) := (List.range n).filterMap fun i => if 0 < pr (F kd mt n) i then some (i, pr (F kd mt n) i) else none
end
variable {kd : Nat → Int} {mt : Nat → Nat → Bool}
theorem fd_suffix (i : Nat) : ∀ W : List Nat, ∃ pre, W = pre ++ fd mt i W
  | [] => ⟨[], rfl⟩
  | x :: r => by
    rw [fd]
    by_cases h : mt x i
    · rw [if_pos h]; exact ⟨[], rfl⟩
    · rw [if_neg h]
      obtain ⟨pre, e⟩ := fd_suffix i r
      exact ⟨x :: pre, by rw [List.cons_append, ← e]⟩
theorem fd_hd (i : Nat) : ∀ (W : List Nat) (x : Nat) (r : List Nat), fd mt i W = x :: r → mt x i = true
  | [], x, r, h => by cases h
  | y :: q, x, r, h => by
    rw [fd] at h
    by_cases hm : mt y i
    · rw [if_pos hm] at h
      simp only [List.cons.injEq] at h
      rw [← h.1]; exact hm
    · rw [if_neg hm] at h
      exact fd_hd i q x r h
/-- What is known on the way. -/
structure Inv (kd : Nat → Int) (mt : Nat → Nat → Bool) (k : Nat) (s : St) : Prop where
  wlt : ∀ x ∈ s.wt, x < k ∧ kd x = 1
  wdec : s.wt.Pairwise (· > ·)
  wlen : s.wt.length ≤ 63
  p1 : ∀ p ∈ s.ps, p.1 < p.2 ∧ p.2 < k ∧ kd p.1 = 1 ∧ kd p.2 = 2 ∧ mt p.1 p.2 = true
  rise : s.ps.Pairwise fun p q => p.2 < q.2 ∧ (q.1 < p.1 ∨ p.2 < q.1)
  apart : ∀ x ∈ s.wt, ∀ p ∈ s.ps, x < p.1 ∨ p.2 < x
  cnt : 2 * s.ps.length + s.wt.length ≤ k
theorem inv (k : Nat) : Inv kd mt k (at' kd mt k) := by
  induction k with
  | zero => exact ⟨by simp [at'], by simp [at'], by simp [at'], by simp [at'], by simp [at'], by simp [at'], by simp [at']⟩
  | succ k ih =>
    rw [at']
    generalize at' kd mt k = s0 at ih
    obtain ⟨off, wt, ps⟩ := s0
    have keep : Inv kd mt (k + 1) ⟨off, wt, ps⟩ := ⟨fun x hx => ⟨by have := (ih.wlt x hx).1; omega, (ih.wlt x hx).2⟩, ih.wdec, ih.wlen, fun p hp => by have := ih.p1 p hp; exact ⟨this.1, by omega, this.2.2⟩, ih.rise, ih.apart, by have := ih.cnt; omega⟩
    unfold step
    cases off with
    | true => exact keep
    | false =>
      simp only [Bool.false_eq_true, if_false]
      by_cases h1 : kd k = 1
      · rw [if_pos h1]
        by_cases h6 : wt.length = 63
        · rw [if_pos h6]
          exact ⟨keep.wlt, keep.wdec, keep.wlen, keep.p1, keep.rise, keep.apart, keep.cnt⟩
        · rw [if_neg h6]
          have hl := ih.wlen
          refine ⟨?_, ?_, by simp only [List.length_cons]; simp only at hl; omega, keep.p1, keep.rise, ?_, by have := ih.cnt; simp only [List.length_cons] at this ⊢; omega⟩
          · intro x hx
            simp only [List.mem_cons] at hx
            rcases hx with rfl | hx
            · exact ⟨by omega, h1⟩
            · exact keep.wlt x hx
          · exact List.pairwise_cons.2 ⟨fun x hx => (ih.wlt x hx).1, ih.wdec⟩
          · intro x hx p hp
            simp only [List.mem_cons] at hx
            rcases hx with rfl | hx
            · exact .inr (ih.p1 p hp).2.1
            · exact ih.apart x hx p hp
      · rw [if_neg h1]
        by_cases h2 : kd k = 2
        · rw [if_pos h2]
          cases hf : fd mt k wt with
          | nil => exact keep
          | cons x r =>
            simp only
            obtain ⟨pre, e⟩ := fd_suffix (mt := mt) k wt
            rw [hf] at e
            have hmt := fd_hd k wt x r hf
            have hw := ih.wlt
            have hd := ih.wdec
            have ha := ih.apart
            have hl := ih.wlen
            simp only [e] at hw hd ha hl
            have hxm : x ∈ pre ++ x :: r := by simp
            have hrm : ∀ y ∈ r, y ∈ pre ++ x :: r := fun y hy => by simp [hy]
            have hd2 := (List.pairwise_append.1 hd).2.1
            refine ⟨fun y hy => ⟨by have := (hw y (hrm y hy)).1; omega, (hw y (hrm y hy)).2⟩, (List.pairwise_cons.1 hd2).2, by simp only [List.length_append, List.length_cons] at hl; simp only; omega, ?_, ?_, ?_, by have := ih.cnt; rw [e] at this; simp only [List.length_append, List.length_cons, List.length_nil] at this ⊢; omega⟩
            · intro p hp
              simp only [List.mem_append, List.mem_cons, List.not_mem_nil, or_false] at hp
              rcases hp with hp | rfl
              · exact keep.p1 p hp
              · exact ⟨(hw x hxm).1, by simp only; omega, (hw x hxm).2, h2, hmt⟩
            · refine List.pairwise_append.2 ⟨ih.rise, List.pairwise_singleton _ _, fun p hp q hq => ?_⟩
              simp only [List.mem_cons, List.not_mem_nil, or_false] at hq
              subst hq
              exact ⟨(ih.p1 p hp).2.1, ha x hxm p hp⟩
            · intro y hy p hp
              simp only [List.mem_append, List.mem_cons, List.not_mem_nil, or_false] at hp
              rcases hp with hp | rfl
              · exact ha y (hrm y hy) p hp
              · exact .inl ((List.pairwise_cons.1 hd2).1 y hy)
        · rw [if_neg h2]; exact keep
theorem step_off {i : Nat} {s : St} (h : s.off = true) : step kd mt i s = s := by unfold step; rw [if_pos h]
theorem at_off {k n : Nat} (h : (at' kd mt k).off = true) (hk : k ≤ n) : at' kd mt n = at' kd mt k := by
  induction n with
  | zero => obtain rfl : k = 0 := by omega
            rfl
  | succ n ih =>
    by_cases e : k = n + 1
    · rw [e]
    · have := ih (by omega)
      rw [at', this, step_off h]
theorem step_full {k : Nat} {wt : List Nat} {ps : List (Nat × Nat)} (hs : at' kd mt k = ⟨false, wt, ps⟩) (h1 : kd k = 1) (h6 : wt.length = 63) : at' kd mt (k + 1) = ⟨true, wt, ps⟩ := by
  rw [at', hs]; unfold step; simp [h1, h6]
theorem step_open {k : Nat} {wt : List Nat} {ps : List (Nat × Nat)} (hs : at' kd mt k = ⟨false, wt, ps⟩) (h1 : kd k = 1) (h6 : ¬ wt.length = 63) : at' kd mt (k + 1) = ⟨false, k :: wt, ps⟩ := by
  rw [at', hs]; unfold step; simp [h1, h6]
theorem step_none {k : Nat} {wt : List Nat} {ps : List (Nat × Nat)} (hs : at' kd mt k = ⟨false, wt, ps⟩) (h2 : kd k = 2) (hf : fd mt k wt = []) : at' kd mt (k + 1) = ⟨false, wt, ps⟩ := by
  rw [at', hs]; unfold step; simp [h2, hf]
theorem step_some {k : Nat} {wt : List Nat} {ps : List (Nat × Nat)} (hs : at' kd mt k = ⟨false, wt, ps⟩) (h2 : kd k = 2) {x : Nat} {r : List Nat} (hf : fd mt k wt = x :: r) : at' kd mt (k + 1) = ⟨false, r, ps ++ [(x, k)]⟩ := by
  rw [at', hs]; unfold step; simp [h2, hf]
theorem step_skip {k : Nat} {wt : List Nat} {ps : List (Nat × Nat)} (hs : at' kd mt k = ⟨false, wt, ps⟩) (h1 : ¬ kd k = 1) (h2 : ¬ kd k = 2) : at' kd mt (k + 1) = ⟨false, wt, ps⟩ := by
  rw [at', hs]; unfold step; simp [h1, h2]
/-- The search that is over at k has found all. -/
theorem F_full {k n : Nat} {wt : List Nat} {ps : List (Nat × Nat)} (hs : at' kd mt k = ⟨false, wt, ps⟩) (h1 : kd k = 1) (h6 : wt.length = 63) (hk : k < n) : F kd mt n = ps := by
  have e := step_full hs h1 h6
  unfold F
  rw [at_off (k := k + 1) (by rw [e]) (by omega), e]
theorem F_p {n : Nat} : ∀ p ∈ F kd mt n, p.1 < p.2 ∧ p.2 < n ∧ kd p.1 = 1 ∧ kd p.2 = 2 ∧ mt p.1 p.2 = true := (inv n).p1
theorem F_rise {n : Nat} : (F kd mt n).Pairwise fun p q => p.2 < q.2 ∧ (q.1 < p.1 ∨ p.2 < q.1) := (inv n).rise
theorem F_nd {n : Nat} : (F kd mt n).Nodup := F_rise.imp fun h => by rintro rfl; omega
/-- Two of them: the same one, or apart. -/
theorem F_two {n : Nat} {p q : Nat × Nat} (hp : p ∈ F kd mt n) (hq : q ∈ F kd mt n) : p = q ∨ (p.2 < q.2 ∧ (q.1 < p.1 ∨ p.2 < q.1)) ∨ (q.2 < p.2 ∧ (p.1 < q.1 ∨ q.2 < p.1)) := by
  have h := F_rise (kd := kd) (mt := mt) (n := n)
  generalize F kd mt n = l at *
  induction l with
  | nil => cases hp
  | cons a l ih =>
    obtain ⟨h1, h2⟩ := List.pairwise_cons.1 h
    simp only [List.mem_cons] at hp hq
    rcases hp with rfl | hp <;> rcases hq with rfl | hq
    · exact .inl rfl
    · exact .inr (.inl (h1 q hq))
    · exact .inr (.inr (h1 p hp))
    · exact ih hp hq h2
theorem F_opens {n : Nat} {p q : Nat × Nat} (hp : p ∈ F kd mt n) (hq : q ∈ F kd mt n) (h : p.1 = q.1) : p = q := by
  have h1 := F_p p hp
  have h2 := F_p q hq
  rcases F_two hp hq with h3 | h3 | h3
  · exact h3
  · omega
  · omega
theorem pr_mem : ∀ (l : List (Nat × Nat)) (i : Nat), 0 < pr l i → (i, pr l i) ∈ l
  | [], i, h => by simp [pr] at h
  | p :: r, i, h => by
    rw [pr] at h ⊢
    by_cases e : p.1 = i
    · rw [if_pos e]; subst e; exact List.mem_cons_self
    · rw [if_neg e] at h ⊢
      exact List.mem_cons_of_mem _ (pr_mem r i h)
theorem pr_of (l : List (Nat × Nat)) (h : ∀ p ∈ l, ∀ q ∈ l, p.1 = q.1 → p = q) (p : Nat × Nat) (hp : p ∈ l) : pr l p.1 = p.2 := by
  induction l with
  | nil => cases hp
  | cons a l ih =>
    rw [pr]
    by_cases e : a.1 = p.1
    · rw [if_pos e]; rw [h a List.mem_cons_self p hp e]
    · rw [if_neg e]
      simp only [List.mem_cons] at hp
      rcases hp with rfl | hp
      · exact absurd rfl e
      · exact ih (fun p hp q hq => h p (List.mem_cons_of_mem _ hp) q (List.mem_cons_of_mem _ hq)) hp
theorem mem_PS {n : Nat} {p : Nat × Nat} : p ∈ PS kd mt n ↔ p ∈ F kd mt n := by
  unfold PS
  rw [List.mem_filterMap]
  constructor
  · rintro ⟨i, hi, h⟩
    by_cases h0 : 0 < pr (F kd mt n) i
    · rw [if_pos h0] at h
      simp only [Option.some.injEq] at h
      subst h
      exact pr_mem _ _ h0
    · rw [if_neg h0] at h; cases h
  · intro hp
    have h1 := F_p p hp
    have h2 := pr_of (F kd mt n) (fun a ha b hb => F_opens ha hb) p hp
    exact ⟨p.1, by rw [List.mem_range]; omega, by rw [h2, if_pos (by omega)]⟩
theorem PS_rise {n : Nat} : (PS kd mt n).Pairwise fun p q => p.1 < q.1 := by
  unfold PS
  refine List.Pairwise.filterMap _ ?_ (List.pairwise_lt_range (n := n))
  intro a b hab p hp q hq
  by_cases h0 : 0 < pr (F kd mt n) a
  · rw [if_pos h0] at hp
    by_cases h1 : 0 < pr (F kd mt n) b
    · rw [if_pos h1] at hq
      simp only [Option.some.injEq] at hp hq
      subst hp; subst hq; exact hab
    · rw [if_neg h1] at hq; cases hq
  · rw [if_neg h0] at hp; cases hp
theorem PS_nd {n : Nat} : (PS kd mt n).Nodup := PS_rise.imp fun h => by rintro rfl; omega
theorem PS_perm {n : Nat} : (PS kd mt n).Perm (F kd mt n) := (List.perm_ext_iff_of_nodup PS_nd F_nd).2 fun p => mem_PS
/-- Whatever is sorted by opening places, and holds the pairs, is this. -/
theorem PS_eq {n : Nat} {l : List (Nat × Nat)} (hp : l.Perm (F kd mt n)) (hs : l.Pairwise fun p q => ¬ q.1 < p.1) : l = PS kd mt n := by
  refine List.Perm.eq_of_pairwise (le := fun p q : Nat × Nat => ¬ q.1 < p.1) ?_ hs (PS_rise.imp fun h => by omega) (hp.trans PS_perm.symm)
  intro a b ha hb h1 h2
  exact F_opens (hp.mem_iff.1 ha) (mem_PS.1 hb) (by omega)
theorem PS_len {n : Nat} : (PS kd mt n).length = (F kd mt n).length := PS_perm.length_eq
theorem F_len {n : Nat} : (F kd mt n).length ≤ n := by
  have h := PS_len (kd := kd) (mt := mt) (n := n)
  rw [← h]
  unfold PS
  exact Nat.le_trans (List.length_filterMap_le _ _) (by simp)
theorem ps_len {k : Nat} {wt : List Nat} {ps : List (Nat × Nat)} {o : Bool} (hs : at' kd mt k = ⟨o, wt, ps⟩) : 2 * ps.length + wt.length ≤ k := by
  have := (inv (kd := kd) (mt := mt) k).cnt; rw [hs] at this; exact this
end Br
end Go.Proofs.YtfadjgaledddjaaGreatDoor

/- Plain mathematics of the types that brackets get. No Go in sight. -/
namespace Go.Proofs.YtfadjgaledddjaaGreatDoor
set_option linter.unusedVariables false
namespace Br
/-- The places from a up to b get d. -/
def setR (T : List Int) (d : Int) (a b : Nat) : List Int := T.mapIdx fun j x => if a ≤ j ∧ j < b then d else x
theorem setR_len (T : List Int) (d : Int) (a b : Nat) : (setR T d a b).length = T.length := by simp [setR]
theorem setR_at (T : List Int) (d : Int) (a b j : Nat) : (setR T d a b).getD j 0 = if a ≤ j ∧ j < b ∧ j < T.length then d else T.getD j 0 := by
  unfold setR
  simp only [List.getD_eq_getElem?_getD, List.getElem?_mapIdx]
  by_cases h : j < T.length
  · rw [List.getElem?_eq_getElem h]
    by_cases h2 : a ≤ j ∧ j < b
    · simp [h2, h]
    · have : ¬ (a ≤ j ∧ j < b ∧ j < T.length) := fun h3 => h2 ⟨h3.1, h3.2.1⟩
      simp [h2, this]
  · rw [List.getElem?_eq_none (by omega)]
    have : ¬ (a ≤ j ∧ j < b ∧ j < T.length) := by omega
    simp [this]
theorem ext_getD {A B : List Int} (hl : A.length = B.length) (h : ∀ j, A.getD j 0 = B.getD j 0) : A = B := by
  refine List.ext_getElem hl fun j h1 h2 => ?_
  have := h j
  simp only [List.getD_eq_getElem?_getD, List.getElem?_eq_getElem h1, List.getElem?_eq_getElem h2, Option.getD_some] at this
  exact this
theorem set_at (T : List Int) (p j : Nat) (d : Int) : (T.set p d).getD j 0 = if p = j ∧ j < T.length then d else T.getD j 0 := by
  by_cases h : p = j
  · subst h
    by_cases h2 : p < T.length
    · simp [List.getD, h2]
    · simp [List.getD, h2, List.set_eq_of_length_le (show T.length ≤ p by omega)]
  · have : ¬ (p = j ∧ j < T.length) := fun h3 => h h3.1
    rw [if_neg this]; simp [List.getD, List.getElem?_set_ne h]
theorem setR_one (T : List Int) (d : Int) (p : Nat) : T.set p d = setR T d p (p + 1) := by
  refine ext_getD (by simp [setR_len]) fun j => ?_
  rw [set_at, setR_at]
  by_cases h : p = j ∧ j < T.length
  · rw [if_pos h, if_pos (by omega)]
  · rw [if_neg h, if_neg (by omega)]
theorem setR_snoc (T : List Int) (d : Int) (a b : Nat) (h : a ≤ b) : (setR T d a b).set b d = setR T d a (b + 1) := by
  refine ext_getD (by simp [setR_len]) fun j => ?_
  rw [set_at, setR_at, setR_at, setR_len]
  by_cases h1 : b = j ∧ j < T.length
  · rw [if_pos h1, if_pos (by omega)]
  · rw [if_neg h1]
    by_cases h2 : a ≤ j ∧ j < b ∧ j < T.length
    · rw [if_pos h2, if_pos (by omega)]
    · rw [if_neg h2, if_neg (by omega)]
/-- Up to where marks stand from i on. -/
def nx (was : List Int) (i : Nat) : Nat := i + ((was.drop i).takeWhile (· == 9)).length
theorem nx_stop {was : List Int} {i : Nat} (h : ¬ (i < was.length ∧ was.getD i 0 = 9)) : nx was i = i := by
  unfold nx
  by_cases hi : i < was.length
  · have h9 : ¬ was.getD i 0 = 9 := fun e => h ⟨hi, e⟩
    simp only [List.getD_eq_getElem?_getD, List.getElem?_eq_getElem hi, Option.getD_some] at h9
    have e : was.drop i = was[i] :: was.drop (i + 1) := List.drop_eq_getElem_cons hi
    rw [e, List.takeWhile_cons, if_neg (by simpa using h9)]; rfl
  · rw [List.drop_eq_nil_of_le (by omega)]; rfl
theorem nx_more {was : List Int} {i : Nat} (hi : i < was.length) (h9 : was.getD i 0 = 9) : nx was i = nx was (i + 1) := by
  unfold nx
  rw [List.drop_eq_getElem_cons hi]
  simp only [List.getD_eq_getElem?_getD, List.getElem?_eq_getElem hi, Option.getD_some] at h9
  simp [h9]; omega
theorem nx_le {was : List Int} {i : Nat} (h : i ≤ was.length) : i ≤ nx was i ∧ nx was i ≤ was.length := by
  unfold nx
  have := (List.takeWhile_sublist (fun x : Int => x == 9) (l := was.drop i)).length_le
  rw [List.length_drop] at this
  omega
theorem nx_in {was : List Int} {i j : Nat} (h1 : i ≤ j) (h2 : j < nx was i) : was.getD j 0 = 9 := by
  unfold nx at h2
  have hl := (List.takeWhile_sublist (fun x : Int => x == 9) (l := was.drop i)).length_le
  have hp := List.takeWhile_prefix (fun x : Int => x == 9) (l := was.drop i)
  have hj : j - i < ((was.drop i).takeWhile (· == 9)).length := by omega
  have hm := List.getElem_mem hj
  have hq := List.all_takeWhile (p := fun x : Int => x == 9) (l := was.drop i)
  have h9 := List.all_eq_true.1 hq _ hm
  have e := hp.getElem hj
  rw [e] at h9
  rw [List.length_drop] at hl
  have hlt : j < was.length := by omega
  simp only [List.getD_eq_getElem?_getD, List.getElem?_eq_getElem hlt, Option.getD_some]
  have e2 : (was.drop i)[j - i]'(by rw [List.length_drop]; omega) = was[j] := by
    rw [List.getElem_drop]; congr 1; omega
  rw [e2] at h9
  simpa using h9
/-- A bracket gets a type, and all marks on it. -/
def give (was T : List Int) (d : Int) (p : Nat) : List Int := setR T d p (nx was (p + 1))
theorem give_len (was T : List Int) (d : Int) (p : Nat) : (give was T d p).length = T.length := setR_len _ _ _ _
def two (was T : List Int) (d : Int) (p : Nat × Nat) : List Int := give was (give was T d p.1) d p.2
theorem two_len (was T : List Int) (d : Int) (p : Nat × Nat) : (two was T d p).length = T.length := by unfold two; rw [give_len, give_len]
/-- A type's side. -/
def sd (x : Int) : Int := if x = 1 then 1 else if x = 2 ∨ x = 4 ∨ x = 7 then 2 else 0
theorem sd_cases (x : Int) : sd x = 0 ∨ sd x = 1 ∨ sd x = 2 := by
  unfold sd
  by_cases h : x = 1
  · simp [h]
  · by_cases h2 : x = 2 ∨ x = 4 ∨ x = 7
    · simp [h, h2]
    · simp [h, h2]
def has (L : List Int) (s : Int) : Bool := L.any fun x => decide (sd x = s)
theorem has_snoc (L : List Int) (x s : Int) : has (L ++ [x]) s = (has L s || decide (sd x = s)) := by simp [has, List.any_append]
def ins (T : List Int) (p : Nat × Nat) : List Int := (T.drop (p.1 + 1)).take (p.2 - (p.1 + 1))
/-- The side of the last one of the first k that has one. -/
def ah (T : List Int) (s : Int) : Nat → Int
  | 0 => s
  | k + 1 => if sd (T.getD k 0) = 0 then ah T s k else sd (T.getD k 0)
/-- What a pair gets; 0: nothing. -/
def dr (T : List Int) (p : Nat × Nat) (e s : Int) : Int :=
  if has (ins T p) e = true then e else if has (ins T p) (3 - e) = true then (if ah T s p.1 = 3 - e then 3 - e else e) else 0
theorem dr_cases {T : List Int} {p : Nat × Nat} {e s : Int} (he : e = 1 ∨ e = 2) : dr T p e s = 0 ∨ dr T p e s = 1 ∨ dr T p e s = 2 := by
  unfold dr
  split
  · omega
  · split
    · split <;> omega
    · omega
def one (was : List Int) (e s : Int) (T : List Int) (p : Nat × Nat) : List Int := if dr T p e s = 0 then T else two was T (dr T p e s) p
theorem one_len (was : List Int) (e s : Int) (T : List Int) (p : Nat × Nat) : (one was e s T p).length = T.length := by
  unfold one; split
  · rfl
  · exact two_len _ _ _ _
/-- Behind some pairs. -/
def rs (was : List Int) (e s : Int) (T : List Int) (ps : List (Nat × Nat)) : List Int := ps.foldl (one was e s) T
theorem rs_len (was : List Int) (e s : Int) : ∀ (ps : List (Nat × Nat)) (T : List Int), (rs was e s T ps).length = T.length
  | [], T => rfl
  | p :: r, T => by
    rw [rs, List.foldl_cons]
    have := rs_len was e s r (one was e s T p)
    rw [rs] at this
    rw [this, one_len]
theorem rs_snoc (was : List Int) (e s : Int) (T : List Int) (ps : List (Nat × Nat)) (p : Nat × Nat) : rs was e s T (ps ++ [p]) = one was e s (rs was e s T ps) p := by simp [rs]
/-- The types that may be. -/
def may (x : Int) : Bool := x == 1 || x == 2 || x == 4 || x == 7 || x == 11 || x == 12 || x == 13 || x == 14 || x == 20 || x == 21 || x == 22 || x == 23
def es (lv : Int) : Int := if lv % 2 = 1 then 2 else 1
theorem es_cases (lv : Int) : es lv = 1 ∨ es lv = 2 := by unfold es; split <;> omega
/-- Which places may change: those that pairs give. -/
def fr (was : List Int) (n : Nat) (ps : List (Nat × Nat)) : List Int := ps.foldl (fun F p => two was F 1 p) (List.replicate n 0)
theorem fr_snoc (was : List Int) (n : Nat) (ps : List (Nat × Nat)) (p : Nat × Nat) : fr was n (ps ++ [p]) = two was (fr was n ps) 1 p := by simp [fr]
theorem fr_len (was : List Int) (n : Nat) (ps : List (Nat × Nat)) : (fr was n ps).length = n := by
  unfold fr
  suffices ∀ (ps : List (Nat × Nat)) (F : List Int), (ps.foldl (fun F p => two was F 1 p) F).length = F.length by rw [this]; simp
  intro ps
  induction ps with
  | nil => intro F; rfl
  | cons p r ih => intro F; rw [List.foldl_cons, ih, two_len]
theorem two_at (was T : List Int) (d : Int) (p : Nat × Nat) (j : Nat) : (two was T d p).getD j 0 = if (p.2 ≤ j ∧ j < nx was (p.2 + 1) ∨ p.1 ≤ j ∧ j < nx was (p.1 + 1)) ∧ j < T.length then d else T.getD j 0 := by
  unfold two give
  rw [setR_at, setR_len, setR_at]
  by_cases h1 : p.2 ≤ j ∧ j < nx was (p.2 + 1) ∧ j < T.length
  · rw [if_pos h1, if_pos ⟨.inl ⟨h1.1, h1.2.1⟩, h1.2.2⟩]
  · rw [if_neg h1]
    by_cases h2 : p.1 ≤ j ∧ j < nx was (p.1 + 1) ∧ j < T.length
    · rw [if_pos h2, if_pos ⟨.inr ⟨h2.1, h2.2.1⟩, h2.2.2⟩]
    · rw [if_neg h2, if_neg (by omega)]
/-- What is not free keeps its type. -/
theorem keeps (was : List Int) (e s : Int) (t : List Int) (ps : List (Nat × Nat)) (j : Nat) : (fr was t.length ps).getD j 0 = 0 → (rs was e s t ps).getD j 0 = t.getD j 0 := by
  suffices ∀ r : List (Nat × Nat), (fr was t.length r.reverse).getD j 0 = 0 → (rs was e s t r.reverse).getD j 0 = t.getD j 0 by
    have := this ps.reverse; rwa [List.reverse_reverse] at this
  intro r
  induction r with
  | nil => intro _; rfl
  | cons p r ih =>
    rw [List.reverse_cons, fr_snoc, rs_snoc]
    intro h
    rw [two_at, fr_len] at h
    by_cases hc : (p.2 ≤ j ∧ j < nx was (p.2 + 1) ∨ p.1 ≤ j ∧ j < nx was (p.1 + 1)) ∧ j < t.length
    · rw [if_pos hc] at h; cases h
    · rw [if_neg hc] at h
      have hi := ih h
      unfold one
      split
      · exact hi
      · rw [two_at, rs_len, if_neg hc]; exact hi
/-- Values stay among those that may be. -/
theorem among (was : List Int) (e s : Int) (he : e = 1 ∨ e = 2) (j : Nat) : ∀ (ps : List (Nat × Nat)) (t : List Int), (t.getD j 0 = 14 ∨ t.getD j 0 = 1 ∨ t.getD j 0 = 2) → ((rs was e s t ps).getD j 0 = 14 ∨ (rs was e s t ps).getD j 0 = 1 ∨ (rs was e s t ps).getD j 0 = 2)
  | [], t, h => h
  | p :: r, t, h => by
    rw [rs, List.foldl_cons, ← rs]
    refine among was e s he j r _ ?_
    unfold one
    by_cases h0 : dr t p e s = 0
    · rw [if_pos h0]; exact h
    · rw [if_neg h0, two_at]
      split
      · exact .inr ((dr_cases he).resolve_left h0)
      · exact h
/-- A place that was no mark is given by its own pair alone. -/
theorem not_given {was : List Int} {q : Nat × Nat} {j : Nat} (hj : ¬ was.getD j 0 = 9) (h1 : ¬ q.1 = j) (h2 : ¬ q.2 = j) : ¬ (q.2 ≤ j ∧ j < nx was (q.2 + 1) ∨ q.1 ≤ j ∧ j < nx was (q.1 + 1)) := by
  rintro (⟨h3, h4⟩ | ⟨h3, h4⟩)
  · exact hj (nx_in (i := q.2 + 1) (by omega) h4)
  · exact hj (nx_in (i := q.1 + 1) (by omega) h4)
theorem rs_other (was : List Int) (e s : Int) {j : Nat} (hj : ¬ was.getD j 0 = 9) : ∀ (ps : List (Nat × Nat)) (t : List Int), (∀ q ∈ ps, ¬ q.1 = j ∧ ¬ q.2 = j) → (rs was e s t ps).getD j 0 = t.getD j 0
  | [], t, _ => rfl
  | p :: r, t, h => by
    rw [rs, List.foldl_cons, ← rs, rs_other was e s hj r _ (fun q hq => h q (List.mem_cons_of_mem _ hq))]
    have hp := h p List.mem_cons_self
    unfold one
    split
    · rfl
    · rw [two_at, if_neg (fun h3 => not_given hj hp.1 hp.2 h3.1)]
/-- Both brackets of a pair have one type, if none was a mark. -/
theorem alike (was : List Int) (e s : Int) {p : Nat × Nat} (h1 : ¬ was.getD p.1 0 = 9) (h2 : ¬ was.getD p.2 0 = 9) : ∀ (ps : List (Nat × Nat)) (t : List Int), (ps.Pairwise fun a b => ¬ a.1 = b.1 ∧ ¬ a.1 = b.2 ∧ ¬ a.2 = b.1 ∧ ¬ a.2 = b.2) → p ∈ ps → p.1 < t.length → p.2 < t.length → p.2 < was.length → p.1 < was.length → t.getD p.1 0 = t.getD p.2 0 →
    (rs was e s t ps).getD p.1 0 = (rs was e s t ps).getD p.2 0
  | [], t, _, hm, _, _, _, _, _ => by cases hm
  | q :: r, t, hp, hm, hl1, hl2, hw2, hw1, ht => by
    rw [rs, List.foldl_cons, ← rs]
    obtain ⟨ha, hr⟩ := List.pairwise_cons.1 hp
    by_cases hq : p = q
    · subst hq
      rw [rs_other was e s h1 r _ (fun q hq => by have := ha q hq; omega), rs_other was e s h2 r _ (fun q hq => by have := ha q hq; omega)]
      unfold one
      split
      · exact ht
      · have n1 := (nx_le (was := was) (i := p.1 + 1) (by omega)).1
        have n2 := (nx_le (was := was) (i := p.2 + 1) (by omega)).1
        rw [two_at, two_at, if_pos ⟨.inr ⟨Nat.le_refl _, by omega⟩, hl1⟩, if_pos ⟨.inl ⟨Nat.le_refl _, by omega⟩, hl2⟩]
    · simp only [List.mem_cons] at hm
      have hm := hm.resolve_left hq
      have hx := ha p hm
      refine alike was e s h1 h2 r _ hr hm (by rw [one_len]; exact hl1) (by rw [one_len]; exact hl2) hw2 hw1 ?_
      unfold one
      split
      · exact ht
      · rw [two_at, two_at, if_neg (fun h3 => not_given h1 (by omega) (by omega) h3.1), if_neg (fun h3 => not_given h2 (by omega) (by omega) h3.1)]
        exact ht
theorem F_places {kd : Nat → Int} {mt : Nat → Nat → Bool} {n : Nat} : (PS kd mt n).Pairwise fun a b => ¬ a.1 = b.1 ∧ ¬ a.1 = b.2 ∧ ¬ a.2 = b.1 ∧ ¬ a.2 = b.2 := by
  have h := PS_rise (kd := kd) (mt := mt) (n := n)
  have hm := fun p (hp : p ∈ PS kd mt n) => mem_PS.1 hp
  refine h.imp_of_mem ?_
  intro a b ha hb hab
  have h1 := F_p a (hm a ha)
  have h2 := F_p b (hm b hb)
  rcases F_two (hm a ha) (hm b hb) with h3 | h3 | h3
  · rw [h3] at hab; omega
  · refine ⟨by omega, ?_, ?_, by omega⟩
    · intro e; have e1 := h1.2.2.1; have e2 := h2.2.2.2.1; rw [e] at e1; omega
    · intro e; have e1 := h1.2.2.2.1; have e2 := h2.2.2.1; rw [e] at e1; omega
  · refine ⟨by omega, ?_, ?_, by omega⟩
    · intro e; have e1 := h1.2.2.1; have e2 := h2.2.2.2.1; rw [e] at e1; omega
    · intro e; have e1 := h1.2.2.2.1; have e2 := h2.2.2.1; rw [e] at e1; omega
end Br
end Go.Proofs.YtfadjgaledddjaaGreatDoor

/- Brackets of a text: their kinds, who ends whom; those that wait, as they lie in memory. -/
namespace Go.Proofs.YtfadjgaledddjaaGreatDoor
open Go.RowKit
set_option linter.unusedVariables false
set_option maxHeartbeats 1000000
set_option maxRecDepth 100000
namespace Br
/-- What a place is: 1: it opens; 2: it closes; 0: neither. -/
def kd (l t : List Int) (i : Nat) : Int := if t.getD i 0 = 14 then (Ucd.side (l.getD i 0)).1 else 0
/-- What ends an opening one, by Canon. -/
def en (l : List Int) (x : Nat) : Int := Ucd.canon (Ucd.side (l.getD x 0)).2
def mt (l : List Int) (x i : Nat) : Bool := en l x == Ucd.canon (l.getD i 0)
def FF (l t : List Int) : List (Nat × Nat) := F (kd l t) (mt l) l.length
def PP (l t : List Int) : List (Nat × Nat) := PS (kd l t) (mt l) l.length
theorem kd_not {l t : List Int} {i : Nat} (h : ¬ t.getD i 0 = 14) : kd l t i = 0 := by unfold kd; rw [if_neg h]
theorem kd_on {l t : List Int} {i : Nat} (h : t.getD i 0 = 14) : kd l t i = (Ucd.side (l.getD i 0)).1 := by unfold kd; rw [if_pos h]
end Br
/-- The cells of those that wait, the first one first. -/
def wcs (l : List Int) : List Nat → List Value
  | [] => []
  | x :: r => wcs l r ++ [.int .i64 (x : Int), .int .i32 (Br.en l x)]
theorem wcs_len (l : List Int) (W : List Nat) : (wcs l W).length = W.length * 2 := by
  induction W with
  | nil => rfl
  | cons x r ih => rw [wcs, List.length_append, ih, List.length_cons]; simp; omega
theorem wcs_app (l : List Int) (A B : List Nat) : ∃ zs, wcs l (A ++ B) = wcs l B ++ zs := by
  induction A with
  | nil => exact ⟨[], by simp⟩
  | cons x r ih =>
    obtain ⟨zs, e⟩ := ih
    exact ⟨zs ++ [.int .i64 (x : Int), .int .i32 (Br.en l x)], by rw [List.cons_append, wcs, e, List.append_assoc]⟩
theorem owns_cut {w : World} {base : Nat} {e : TypeId} {size g cap n m : Nat} {xs zs : List Value} (h : w.ownsRow base e size (.slice (some ⟨g, 0, none⟩) n cap) n (xs ++ zs)) (hx : xs.length = m * size) (hm : m ≤ n) :
    w.ownsRow base e size (.slice (some ⟨g, 0, none⟩) m cap) m xs := by
  obtain ⟨_, h2⟩ := h
  rcases h2 with ⟨h0, _⟩ | ⟨g', cap', cur, hv, hg, hh, hn, hcap, hsz, htake⟩
  · cases h0
  · cases hv
    refine ⟨hx, .inr ⟨g, cap, cur, rfl, hg, hh, by omega, hcap, hsz, ?_⟩⟩
    have h3 : (cur.toList.take (n * size)).take (m * size) = (xs ++ zs).take (m * size) := by rw [htake]
    rw [List.take_take, Nat.min_eq_left (Nat.mul_le_mul_right _ hm)] at h3
    rw [h3, ← hx, List.take_left']
    rfl
theorem owns_apart {w : World} {b b' : Nat} {e e' : TypeId} {s s' n n' : Nat} {v v' : Value} {xs xs' : List Value} (h : w.ownsRow b e s v n xs) (h' : w.ownsRow b' e' s' v' n' xs') (hne : ¬ e = e') : v.ownBlock = none ∨ v.ownBlock ≠ v'.ownBlock := by
  rcases h.2 with ⟨rfl, _⟩ | ⟨g, cap, cur, rfl, _, hg, _⟩
  · exact .inl rfl
  · refine .inr fun he => ?_
    rcases h'.2 with ⟨rfl, _⟩ | ⟨g', cap', cur', rfl, _, hg', _⟩
    · cases he
    · simp only [Value.ownBlock, Option.some.injEq] at he
      subst he
      rw [hg] at hg'
      simp only [Option.some.injEq, Obj.cells.injEq] at hg'
      exact hne hg'.2.1
/-- What the search keeps: those that wait, and the pairs, in rows of its own. -/
structure SW (l : List Int) (w0 : World) (W : List Nat) (ps : List (Nat × Nat)) (g cap : Nat) (vp : Value) (w : World) : Prop where
  old : Below w0.heap.size w0 w
  wt : w.ownsRow w0.heap.size 168 2 (.slice (some ⟨g, 0, none⟩) W.length cap) W.length (wcs l W)
  ps : w.ownsRow w0.heap.size 127 2 vp ps.length (flat2 ps)
section
variable {l : List Int} {w0 : World} {W : List Nat} {ps : List (Nat × Nat)} {g cap : Nat} {vp : Value} {w : World}
theorem SW.below (h : SW l w0 W ps g cap vp w) {w' : World} (hb : Below w.heap.size w w') : SW l w0 W ps g cap vp w' := ⟨KO.on h.old hb, owns_below h.wt hb, owns_below h.ps hb⟩
theorem SW.caps (h : SW l w0 W ps g cap vp w) : W.length ≤ cap ∧ cap ≤ maxLen ∧ g < w.heap.size := by
  rcases h.wt.2 with ⟨h0, _⟩ | ⟨g', cap', cur, hv, _, hg, h1, h2, _⟩
  · cases h0
  · cases hv; exact ⟨h1, h2, (Array.getElem?_eq_some_iff.1 hg).1⟩
theorem SW.cut (h : SW l w0 W ps g cap vp w) {A R : List Nat} (e : W = A ++ R) : SW l w0 R ps g cap vp w := by
  subst e
  obtain ⟨zs, ez⟩ := wcs_app l A R
  have hw := h.wt
  rw [ez] at hw
  exact ⟨h.old, owns_cut hw (wcs_len l R) (by simp), h.ps⟩
/-- The last one that waits. -/
theorem SW.top (h : SW l w0 W ps g cap vp w) {A R : List Nat} {x : Nat} (e : W = A ++ x :: R) : w.cell? ⟨g, R.length * 2, none⟩ = some (.int .i64 (x : Int)) ∧ w.cell? ⟨g, R.length * 2 + 1, none⟩ = some (.int .i32 (Br.en l x)) := by
  have hw := (h.cut e).wt
  have hl := wcs_len l R
  rw [wcs] at hw
  have hn : (wcs l R ++ [Value.int .i64 (x : Int), Value.int .i32 (Br.en l x)]).length = R.length * 2 + 2 := by rw [List.length_append, hl]; rfl
  refine ⟨(hw.cellAt (R.length * 2) (by rw [List.length_cons]; omega)).trans ?_, (hw.cellAt (R.length * 2 + 1) (by rw [List.length_cons]; omega)).trans ?_⟩
  · rw [List.getElem?_append_right (by omega), hl, Nat.sub_self]; rfl
  · rw [List.getElem?_append_right (by omega), hl, show R.length * 2 + 1 - R.length * 2 = 1 from by omega]; rfl
theorem SW.push (h : SW l w0 W ps g cap vp w) {k : Nat} {o : Obj} {v' : Value} {w' : World} (ho : w'.ownsRow w0.heap.size 168 2 v' (W.length + 1) (wcs l W ++ [.int .i64 (k : Int), .int .i32 (Br.en l k)])) (hg : (w.alloc o).grownBy w' (some g)) :
    ∃ g' cap', v' = .slice (some ⟨g', 0, none⟩) (W.length + 1) cap' ∧ SW l w0 (k :: W) ps g' cap' vp w' := by
  obtain ⟨g', cap', rfl, hb, hle⟩ := owns_pos ho (by omega)
  have ha := owns_apart h.ps h.wt (by decide)
  refine ⟨g', cap', rfl, ?_, ho, ?_⟩
  · refine Below.grown (KO.alloc h.old o) hg (by simp; have := h.old.size; omega) fun j hj => ?_
    cases hj
    exact (h.wt.lt g rfl).1
  · exact (h.ps.alloc o).kept hg ha
theorem SW.pair (h : SW l w0 W ps g cap vp w) {p : Nat × Nat} {o : Obj} {v' : Value} {w' : World} (ho : w'.ownsRow w0.heap.size 127 2 v' (ps.length + 1) (flat2 ps ++ [.int .i64 (p.1 : Int), .int .i64 (p.2 : Int)])) (hg : (w.alloc o).grownBy w' vp.ownBlock) :
    SW l w0 W (ps ++ [p]) g cap v' w' := by
  have ha := owns_apart h.wt h.ps (by decide)
  refine ⟨?_, (h.wt.alloc o).kept hg ha, ?_⟩
  · exact Below.grown (KO.alloc h.old o) hg (by simp; have := h.old.size; omega) fun j hj => (h.ps.lt j hj).1
  · rw [List.length_append, flat2_snoc]; exact ho
end
theorem waitInfo : (Tryz.prog.info? 168).map (fun i => (i.zero, i.size, i.bytes)) = some (some (.agg #[.int .i64 0, .int .i32 0]), 2, 16) := by kernel_rfl
theorem build_wait (x y : Int) (w : World) : (Instr.build 168 #[(0, .int .i64 x), (1, .int .i32 y)]).run Tryz.prog w = .ok (.agg #[.int .i64 x, .int .i32 y]) w := run_build w 168 _ _ (by kernel_rfl)
theorem build_two (x y : Int) (w : World) : (Instr.build 127 #[(0, .int .i64 x), (1, .int .i64 y)]).run Tryz.prog w = .ok (.agg #[.int .i64 x, .int .i64 y]) w := run_build w 127 _ _ (by kernel_rfl)
theorem build_wait1 (x y : Int) (w : World) : (Instr.buildSlice 166 1 #[(0, .agg #[.int .i64 x, .int .i32 y])]).run Tryz.prog w = .ok (.slice (some ⟨w.heap.size, 0, none⟩) 1 1) (w.alloc (.cells #[.int .i64 x, .int .i32 y] 168)) := by
  have hq := waitInfo
  cases hi : Tryz.prog.info? 168 with
  | none => rw [hi] at hq; cases hq
  | some ie =>
    rw [hi] at hq
    simp only [Option.map_some, Option.some.injEq, Prod.mk.injEq] at hq
    refine run_buildSlice w 166 168 1 _ _ ie _ Tryz.underlying166 hi hq.1 (by rw [hq.2.1]; decide) (by rw [hq.2.1]; decide) ?_
    rw [hq.2.1]
    kernel_rfl
/-- One value of two cells is appended. -/
theorem wpList_append_two {P : Program} (w : World) {ops : Array Oper} {rest : List Oper} {o : Oper} {a : Act} {Q : Exit → Act → World → Prop} (hgd : o.guard = none) (s x : Operand) (t : TypeId)
    (ho : o.op = .call { callee := .builtin .append, args := #[s, x], argTypes := #[t, t] })
    (base : Nat) (e : TypeId) (i : TypeInfo) (z : Value) (ht : P.underlying t = some (.slice e)) (hi : P.info? e = some i) (hz : i.zero = some z)
    (hsize : i.size = 2) (hby : i.bytes = 16) (hzs : z.cells.size = 2)
    (v : Value) (n : Nat) (xs : List Value) (hs : a.eval s = v) (p q : Value) (hown : w.ownsRow base e 2 v n xs)
    (g : Nat) (hg : g = w.heap.size) (hx : a.eval x = .slice (some ⟨g, 0, none⟩) 1 1) (h1 : ∀ u ∈ [p, q], u.oneCell' = true)
    (hn : (n + 1) * 16 ≤ 140737488355328) (hbase : base ≤ w.heap.size)
    (h : ∀ v' w', w'.ownsRow base e 2 v' (n + 1) (xs ++ [p, q]) → (w.alloc (.cells #[p, q] e)).grownBy w' v.ownBlock → wpList P ops Q rest (a.put o.dst v') w') :
    wpList P ops Q (o :: rest) a (w.alloc (.cells #[p, q] e)) := by
  subst hg
  refine wpList_append_own _ hgd s x t ho base e i z 2 16 ht hi hz hsize hby hzs (by decide) v n xs hs (hown.alloc _) ⟨w.heap.size, 0, none⟩ 1 1 [p, q] hx rfl (two_new w p q e) h1 (by unfold maxLen; omega) hn (by simp; omega) (fun v' w' g1 g2 _ => h v' w' g1 g2)
end Go.Proofs.YtfadjgaledddjaaGreatDoor

/- The search for pairs: its contract. -/
namespace Go.Proofs.YtfadjgaledddjaaGreatDoor
open Go.RowKit
set_option linter.unusedVariables false
set_option maxHeartbeats 1000000
set_option maxRecDepth 100000
theorem run_cut2 (g n cap j : Nat) (hj : j ≤ cap) (w : World) :
    (Instr.slice 166 (.slice (some ⟨g, 0, none⟩) n cap) none (some (.int .i64 (j : Int))) none).run Tryz.prog w = .ok (.slice (some ⟨g, 0, none⟩) j cap) w := by
  have e1 : (0 : Int) ≤ (j : Int) ∧ (j : Int) ≤ (cap : Int) := by omega
  simp [Instr.slice, run_underlying Tryz.underlying166, Instr.sliceBounds, go_sem, e1]
theorem bsearch_any (a0 a1 : Option Addr) (n c0 c1 : Nat) (l t : List Int) (w : World) (h0 : Row .i32 w a0 n c0 l) (h1 : Row .i64 w a1 n c1 t) (hf : ∀ x ∈ l, (Lit.int .i32 x).wf = true) (hm : Marks w) (hn : n * 8 ≤ 140737488351232) :
    Calls Tryz.prog 141 #[.slice a0 n c0, .slice a1 n c1] w fun e w' => ∃ v, e = .returned v ∧ w'.ownsRow w.heap.size 127 2 v (Br.FF l t).length (flat2 (Br.FF l t)) ∧ Below w.heap.size w w' := by
  obtain ⟨iw, hiw, hy0, hy1, hy2⟩ := info_parts waitInfo
  obtain ⟨ip, hip, hz0, hz1, hz2⟩ := info_parts pairInfo
  have HIW := hide hiw
  have HY0 := hide hy0
  have HY1 := hide hy1
  have HY2 := hide hy2
  have HIP := hide hip
  have HZ0 := hide hz0
  have HZ1 := hide hz1
  have HZ2 := hide hz2
  have H0 := hide h0
  have H1 := hide h1
  have HF := hide hf
  have HM := hide hm
  have hbw := build_wait
  have hbw1 := build_wait1
  have hb2 := build_two
  have hb21 := build_pair1
  have hle := h0.le
  have hmx := h0.max
  unfold maxLen at hmx
  have HFF : Hid (Br.FF l t = Br.F (Br.kd l t) (Br.mt l) n) := hide (by rw [← h0.len]; rfl)
  clear hiw hy0 hy1 hy2 hip hz0 hz1 hz2 h0 h1 hf hm
  go_enter Tryz.func141, Tryz.ntmps141
  go_wp2
  go_step3
  go_wp2_with (at_make; refine wpList_make_own _ rfl _ _ 166 rfl w.heap.size 168 iw _ 2 Tryz.underlying166 HIW.out HY0.out HY1.out _ _ _ 63 rfl rfl rfl (by rw [HY2.out]; omega) (by unfold maxLen; omega) (Nat.le_refl _) ?_; intro w1 hown1 hg1)
  have HS0 : Hid (SW l w [] [] w.heap.size 63 (.slice none 0 0) w1) := hide ⟨Below.grown (Below.refl _ _) hg1 (Nat.le_refl _) (fun j hj => by cases hj), hown1, World.ownsRow_nil _ _ _ _⟩
  clear hown1 hg1
  go_step3
  go_wp2
  go_loopw [5, 6, 15] (fun s5 s6 s15 wr => ∃ (k : Nat) (W : List Nat) (ps : List (Nat × Nat)) (g cap : Nat) (vp : Value), vp = s5 ∧ s6 = .slice (some ⟨g, 0, none⟩) W.length cap ∧ s15 = .int .i64 k ∧ k ≤ n ∧ Hid (Br.at' (Br.kd l t) (Br.mt l) k = ⟨false, W, ps⟩) ∧ Hid (SW l w W ps g cap vp wr)) (fun s5 s6 s15 wr => n - (intOf s15).toNat)
  case atStart => exact ⟨0, [], [], w.heap.size, 63, _, rfl, rfl, rfl, by omega, hide rfl, HS0⟩
  case round =>
    obtain ⟨k, W, ps, g, cap, vp, hvp, rfl, rfl, hk, HA, HS⟩ := hrel
    subst hvp
    clear HS0
    by_cases hlt : k < n
    · have hlt' : (k : Int) < (n : Int) := by omega
      have HK := hide (H0.out.below HS.out.old)
      obtain ⟨b0, o0, e0, hb0, hc0⟩ := HK.out.cells (by omega)
      obtain ⟨b1, o1, e1, hb1, hc1⟩ := (H1.out.below HS.out.old).cells (by omega)
      have g0 := hc0 k (by rw [H0.out.len]; exact hlt)
      have g1 := hc1 k (by rw [H1.out.len]; exact hlt)
      subst e0; subst e1
      have hwl := HS.out.caps
      have hw6 : W.length ≤ 63 := by have := (Br.inv (kd := Br.kd l t) (mt := Br.mt l) k).wlen; rw [HA.out] at this; exact this
      have hpl : 2 * ps.length + W.length ≤ k := Br.ps_len HA.out
      have HXF : Hid ((Lit.int .i32 (l.getD k 0)).wf = true) := hide (HF.out _ (by
        have hl : k < l.length := by rw [H0.out.len]; exact hlt
        rw [show l.getD k 0 = l[k] from by simp [List.getD, List.getElem?_eq_getElem hl]]
        exact List.getElem_mem hl))
      have HBR := hide (bracket_any (l.getD k 0) wr HXF.out (HM.out.below HS.out.old))
      have HWB := hide HS.out.old
      clear hc0 hc1 hb0 hb1 HK
      by_cases ht : t.getD k 0 = 14
      · have HKD := hide (Br.kd_on (l := l) ht)
        rw [ht] at g1
        have hsd := Ucd.side_ok (l.getD k 0)
        have h3 : (Ucd.side (l.getD k 0)).1 = 0 ∨ (Ucd.side (l.getD k 0)).1 = 1 ∨ (Ucd.side (l.getD k 0)).1 = 2 := by omega
        have HEN : Hid (Br.en l k = Ucd.canon (Ucd.side (l.getD k 0)).2) := hide rfl
        have HMT : Hid (∀ x, Br.mt l x k = (Br.en l x == Ucd.canon (l.getD k 0))) := hide fun x => rfl
        clear ht hsd
        generalize (Ucd.side (l.getD k 0)).2 = pa at *
        rcases h3 with h3 | h3 | h3
        · rw [h3] at HBR HKD
          have HN := hide (Br.step_skip HA.out (by rw [HKD.out]; decide) (by rw [HKD.out]; decide))
          clear h3 HKD HA HMT HEN
          generalize l.getD k 0 = r at *
          go_wp2_with fail
          refine HBR.out.mono ?_
          rintro e w2 ⟨rfl, hb2'⟩
          have HS2 := hide (HS.out.below hb2')
          clear HS hb2' HBR
          go_wp2
          go_roundw
          case rel => exact ⟨k + 1, W, ps, g, cap, _, rfl, rfl, by go_num, by omega, HN, HS2⟩
          case measure => simp [intOf]; omega
        · rw [h3] at HBR HKD
          by_cases h6 : W.length = 63
          · have HN := hide (Br.F_full (n := n) HA.out HKD.out h6 hlt)
            clear h3 HKD HMT HEN
            generalize l.getD k 0 = r at *
            have h6' : (W.length : Int) = 63 := by omega
            go_wp2_with fail
            refine HBR.out.mono ?_
            rintro e w2 ⟨rfl, hb2'⟩
            have HS2 := hide (HS.out.below hb2')
            clear HS hb2' HBR
            rw [h6]
            go_wp2
            rw [Exit.noGoto_ret]
            go_ret
            refine ⟨_, rfl, ?_, HS2.out.old⟩
            rw [HFF.out, HN.out]
            exact HS2.out.ps
          · have HN := hide (Br.step_open HA.out HKD.out h6)
            have h6' : ¬ (W.length : Int) = 63 := by omega
            have h6b : ((W.length : Int) == 63) = false := beq_false_of_ne h6'
            have HCN := hide (fun V => canon_any pa V)
            clear h3 HKD HMT
            generalize l.getD k 0 = r at *
            generalize hWL : W.length = m at *
            have HWL := hide hWL
            clear hWL
            go_wp2_with fail
            refine HBR.out.mono ?_
            rintro e w2 ⟨rfl, hb2'⟩
            have HS2 := hide (HS.out.below hb2')
            clear HS hb2' HBR
            go_wp2_with fail
            refine (HCN.out _).mono ?_
            rintro e w3 ⟨rfl, rfl⟩
            rw [← HEN.out]
            generalize hEL : Br.en l k = el at *
            have HEL := hide hEL
            clear hEL HCN HEN
            go_wp2_with (at_builtin; refine wpList_append_two w2 rfl _ _ 166 rfl w.heap.size 168 iw _ Tryz.underlying166 HIW.out HY0.out HY1.out HY2.out rfl _ m (wcs l W) rfl (.int .i64 (k : Int)) (.int .i32 el) (by have := HS2.out.wt; rw [HWL.out] at this; exact this) _ rfl rfl (by simp [Value.oneCell']) (by omega) HS2.out.old.size ?_; intro v' w' ho' hg'; rw [← HWL.out] at ho' hg'; rw [← HEL.out] at ho' hg'; obtain ⟨g', cap', rfl, hsw⟩ := HS2.out.push ho' hg')
            go_roundw
            case rel => exact ⟨k + 1, k :: W, ps, g', cap', _, rfl, rfl, by go_num, by omega, HN, hide hsw⟩
            case measure => simp [intOf]; omega
        · rw [h3] at HBR HKD
          have HCN := hide (fun V => canon_any (l.getD k 0) V)
          have HKD2 := hide HKD.out
          clear h3 HEN
          generalize l.getD k 0 = r at *
          go_wp2_with fail
          refine HBR.out.mono ?_
          rintro e w2 ⟨rfl, hb2'⟩
          have HS2 := hide (HS.out.below hb2')
          clear HS hb2' HBR
          generalize Ucd.canon r = cr at *
          go_wp2
          have HSQ := hide (fun q1 q2 => (HS2.out.below (below_drewN w2 q1)).below (below_drewN _ q2))
          go_loopw [5, 6, 11] (fun s5 s6 s11 wi => ∃ (A R : List Nat) (q : Nat), vp = s5 ∧ s6 = .slice (some ⟨g, 0, none⟩) W.length cap ∧ s11 = .int .i64 ((R.length : Int) - 1) ∧ W = A ++ R ∧ wi = w2.drewN q ∧ Hid (Br.fd (Br.mt l) k W = Br.fd (Br.mt l) k R)) (fun s5 s6 s11 wi => (intOf s11 + 1).toNat)
          case atStart => exact ⟨[], W, 0, rfl, rfl, rfl, rfl, rfl, hide rfl⟩
          case round =>
            obtain ⟨A, R, q, hv5, rfl, rfl, hAR, rfl, HFD⟩ := hrel
            subst hv5
            cases R with
            | nil =>
              have HN := hide (Br.step_none HA.out HKD2.out (by rw [HFD.out]; rfl))
              have HS3 := hide (HS2.out.below (below_drewN w2 q))
              clear HFD hAR HA HS2 HSQ
              simp only [List.length_nil]
              go_wp2
              go_roundw
              case rel => exact ⟨k + 1, W, ps, g, cap, _, rfl, rfl, by go_num, by omega, HN, HS3⟩
              case measure => simp [intOf]; omega
            | cons x R =>
              obtain ⟨t0, t1⟩ := HS2.out.top hAR
              have hRW : R.length + 1 ≤ W.length := by rw [hAR]; simp
              have hge : (0 : Int) ≤ (R.length : Int) := by omega
              have hRi : ((R.length + 1 : Nat) : Int) - 1 = (R.length : Int) := by omega
              have HXM := HMT.out x
              simp only [List.length_cons]
              rw [hRi]
              by_cases hx : Br.en l x = cr
              · have HFX : Hid (Br.fd (Br.mt l) k W = x :: R) := hide (by rw [HFD.out, Br.fd, HXM, hx]; simp)
                have HN := hide (Br.step_some HA.out HKD2.out HFX.out)
                rw [hx] at t1
                have hcu := run_cut2 g W.length cap R.length (by omega)
                have HAR := hide (show W = (A ++ [x]) ++ R from by rw [hAR]; simp)
                generalize hRL : R.length = m at *
                have HRL := hide hRL
                generalize hWL : W.length = mW at *
                have HWL := hide hWL
                have hmW : (m : Int) < (mW : Int) := by omega
                clear HXM HFD hx hAR HFX HA hRL hWL
                go_wp2_with fail
                go_quiet (first | (go_at_call 156; first | exact Calls.quiet_of_same ((HCN.out _).mono fun _ _ ⟨he, hm⟩ => ⟨he, hm.symm⟩) | exact (HCN.out _).mono fun _ _ ⟨he, hm⟩ => ⟨he, _, hm.symm⟩))
                go_wp2_with (at_builtin; refine wpList_append_two (w2.drewN (q + nq)) rfl _ _ 123 rfl w.heap.size 127 ip _ Tryz.underlying123 HIP.out HZ0.out HZ1.out HZ2.out rfl vp ps.length (flat2 ps) rfl (.int .i64 (x : Int)) (.int .i64 (k : Int)) (HS2.out.below (below_drewN w2 (q + nq))).ps _ rfl rfl (by simp [Value.oneCell']) (by omega) (HS2.out.below (below_drewN w2 (q + nq))).old.size ?_; intro v' w' ho' hg'; have hsw := ((HS2.out.below (below_drewN w2 (q + nq))).pair (p := (x, k)) ho' hg').cut HAR.out)
                rw [← HRL.out]
                go_roundw
                case rel => exact ⟨k + 1, R, _, g, cap, _, rfl, rfl, by go_num, by omega, HN, hide hsw⟩
                case measure => simp [intOf]; omega
              · have HFX : Hid (Br.fd (Br.mt l) k W = Br.fd (Br.mt l) k R) := hide (by rw [HFD.out, Br.fd, HXM, if_neg (by simpa using hx)])
                have hxb : (Br.en l x == cr) = false := beq_false_of_ne hx
                have HAR := hide (show W = (A ++ [x]) ++ R from by rw [hAR]; simp)
                generalize hRL : R.length = m at *
                have HRL := hide hRL
                generalize hWL : W.length = mW at *
                have hmW : (m : Int) < (mW : Int) := by omega
                generalize Br.en l x = ex at *
                clear HXM HFD hx hAR HA hRL hWL
                go_wp2_with fail
                go_quiet (first | (go_at_call 156; first | exact Calls.quiet_of_same ((HCN.out _).mono fun _ _ ⟨he, hm⟩ => ⟨he, hm.symm⟩) | exact (HCN.out _).mono fun _ _ ⟨he, hm⟩ => ⟨he, _, hm.symm⟩))
                go_wp2
                go_roundw
                case rel => exact ⟨A ++ [x], R, _, rfl, rfl, by rw [HRL.out], HAR.out, rfl, HFX⟩
                case measure => simp [intOf]
      · have HN := hide (Br.step_skip HA.out (by rw [Br.kd_not ht]; decide) (by rw [Br.kd_not ht]; decide))
        clear HA HBR
        generalize t.getD k 0 = y at *
        have hy : (y == 14) = false := beq_false_of_ne ht
        generalize l.getD k 0 = r at *
        go_wp2
        go_roundw
        case rel => exact ⟨k + 1, W, ps, g, cap, _, rfl, rfl, by go_num, by omega, HN, HS⟩
        case measure => simp [intOf]; omega
    · obtain rfl : k = n := by omega
      have HFX : Hid (Br.FF l t = ps) := hide (by rw [HFF.out]; unfold Br.F; rw [HA.out])
      clear HA
      go_wp2
      rw [Exit.noGoto_ret]
      go_ret
      refine ⟨_, rfl, ?_, HS.out.old⟩
      rw [HFX.out]
      exact HS.out.ps
end Go.Proofs.YtfadjgaledddjaaGreatDoor

/- Pairs: the search, and the sort behind it: its contract. -/
namespace Go.Proofs
open Go.Shelf Go.RowKit Go.Lib Go.Sort
shelf_lay_g SlLaysF0.n6 Slsf 6 at Tryz 142 as Tryz.sortP
shelf_lay_g SlLaysC2.n5 Slgc 5 at Tryz 144 as Tryz.cmpInt
end Go.Proofs
namespace Go.Proofs.YtfadjgaledddjaaGreatDoor
open Go.Shelf Go.RowKit Go.Lib Go.Sort
set_option linter.unusedVariables false
set_option maxHeartbeats 1000000
set_option maxRecDepth 100000
/-- A pair's two cells. -/
def encP (x : Nat × Nat) : List Value := [.int .i64 (x.1 : Int), .int .i64 (x.2 : Int)]
def cfP (x y : Nat × Nat) : Int := Lib.compareInt (x.1 : Int) (y.1 : Int)
theorem ltP (x y : Nat × Nat) : ltOf cfP x y = decide (x.1 < y.1) := by
  unfold ltOf cfP Lib.compareInt
  by_cases h1 : x.1 < y.1
  · have : (x.1 : Int) < (y.1 : Int) := by omega
    simp [h1]
  · by_cases h2 : y.1 < x.1 <;> simp [h1, h2]
theorem swoP : SWO (ltOf cfP) where
  irrefl x := by rw [ltP]; simp
  trans x y z h1 h2 := by rw [ltP] at *; simp at *; omega
  ntrans x y z h1 h2 := by rw [ltP] at *; simp at *; omega
theorem cmpclos_any (x y : Nat × Nat) (W : World) : Calls Tryz.prog 143 #[.agg #[.int .i64 (x.1 : Int), .int .i64 (x.2 : Int)], .agg #[.int .i64 (y.1 : Int), .int .i64 (y.2 : Int)]] W fun e w' => e = .returned (.int .i64 (cfP x y)) ∧ ∃ q os', w' = grow (W.drewN q) os' := by
  have hcon := fun W' => AnyG.cmp_Compare_int Tryz.cmpInt (x.1 : Int) (y.1 : Int) W'
  change ∀ W', Calls Tryz.prog 144 _ _ _ at hcon
  unfold cfP
  generalize Lib.compareInt (x.1 : Int) (y.1 : Int) = r at hcon ⊢
  go_enter Tryz.func143, Tryz.ntmps143
  go_wp2_with (go_at_call 144; refine (hcon _).mono ?_; rintro e w' ⟨rfl, rfl⟩)
  go_ret
  exact ⟨rfl, 0, _, by rw [alloc_eq_grow, alloc_eq_grow, grow_grow]; rfl⟩
theorem cmpLaysP (blk off size : Nat) (w : World) : CmpLays Tryz.prog 143 #[] encP 2 cfP blk off size w :=
  fun _ _ _ _ x y => cmpclos_any x y _
theorem below_sort {B g m : Nat} {W : World} (hB : B ≤ g) (hg : g < W.heap.size) (d : Array (Nat × Nat)) (os : Array Obj) : Below B W (sortWorldK encP 2 W g 0 m d os) := by
  refine ⟨rfl, rfl, rfl, ?_, fun k hk => ?_⟩
  · simp [sortWorldK, grow, putRowK, putRow, mapBlock]
  · have hlt : k < W.heap.size := by omega
    have hne : ¬ g = k := by omega
    simp [sortWorldK, grow, putRowK, putRow, mapBlock, Array.getElem?_append, hlt, Array.getElem_modify, hne]
theorem holds_of_owns {W : World} {base g cap : Nat} {ps : List (Nat × Nat)} (h : W.ownsRow base 127 2 (.slice (some ⟨g, 0, none⟩) ps.length cap) ps.length (flat2 ps)) : HoldsK encP 2 W g 0 ps.toArray := by
  intro j hj
  simp only [size_flatK, List.size_toArray] at hj
  have hfr : W.frozen? ⟨g, 0 + j, none⟩ = false := by
    rcases h.2 with ⟨h0, _⟩ | ⟨g', cap', cur, hv, _, hg, _⟩
    · cases h0
    · cases hv; simp [World.frozen?, hg]
  refine ⟨?_, hfr⟩
  rw [Nat.zero_add, h.cellAt j (by omega), get_flatK _ _ _ _ (by simpa using hj)]
  have hq : j / 2 < ps.length := by omega
  obtain ⟨f0, f1⟩ := flat2_at ps (j / 2) hq
  have hd : (ps.toArray)[j / 2]! = ps.getD (j / 2) (0, 0) := by
    simp [List.getD, List.getElem?_eq_getElem hq]
  rcases Nat.mod_two_eq_zero_or_one j with h0 | h0
  · have e : j = j / 2 * 2 := by omega
    rw [h0, hd]
    rw [show (flat2 ps)[j]? = (flat2 ps)[j / 2 * 2]? from by rw [← e], f0]
    rfl
  · have e : j = j / 2 * 2 + 1 := by omega
    rw [h0, hd]
    rw [show (flat2 ps)[j]? = (flat2 ps)[j / 2 * 2 + 1]? from by rw [← e], f1]
    rfl
theorem pairs_of_holds {W : World} {g cap : Nat} {ps : List (Nat × Nat)} (h : HoldsK encP 2 W g 0 ps.toArray) (hg : g < W.heap.size) (hc : ps.length ≤ cap) (hm : cap ≤ maxLen) : Pairs W (some ⟨g, 0, none⟩) ps.length cap ps := by
  refine ⟨rfl, hc, hm, fun h0 => ⟨g, rfl, hg, fun k hk => ?_⟩, fun h => by cases h⟩
  have hd : (ps.toArray)[k]! = ps.getD k (0, 0) := by simp [List.getD, List.getElem?_eq_getElem hk]
  have c0 := (HoldsK.cell h (i := k) (c := 0) (by simpa using hk) (by omega))
  have c1 := (HoldsK.cell h (i := k) (c := 1) (by simpa using hk) (by omega))
  rw [hd] at c0 c1
  simp only [Nat.zero_add, Nat.add_zero] at c0 c1
  exact ⟨c0.1, c1.1⟩
theorem sorted_is {l t : List Int} {d' : Array (Nat × Nat)} (hp : PermIn 0 (Br.FF l t).toArray.size (Br.FF l t).toArray d') (hs : SortedIn (ltOf cfP) 0 (Br.FF l t).toArray.size d') : d' = (Br.PP l t).toArray := by
  obtain ⟨h1, _, h3⟩ := hp
  have hsz : d'.size = (Br.FF l t).length := by simpa using h1
  have e1 : d'.extract 0 (Br.FF l t).toArray.size = d' := by rw [← h1]; simp
  rw [e1] at h3
  have h4 : d'.toList.Perm (Br.FF l t) := by simpa using h3
  have h5 : d'.toList = Br.PP l t := by
    refine Br.PS_eq h4 ?_
    rw [List.pairwise_iff_getElem]
    intro i j hi hj hij
    have := hs i j (Nat.zero_le _) hij (by simp at hj ⊢; omega)
    rw [ltP] at this
    simp at hi hj
    rw [getElem!_pos d' j hj, getElem!_pos d' i hi] at this
    simpa using this
  rw [← h5]
theorem pairs_ok (a0 a1 : Option Addr) (n c0 c1 : Nat) (l t : List Int) (w : World) (h0 : Row .i32 w a0 n c0 l) (h1 : Row .i64 w a1 n c1 t) (hf : ∀ x ∈ l, (Lit.int .i32 x).wf = true) (hm : Marks w) (hn : n * 8 ≤ 140737488351232) :
    Calls Tryz.prog 116 #[.slice a0 n c0, .slice a1 n c1] w fun e w' => ∃ ao cap, e = .returned (.tuple #[.slice ao (Br.PP l t).length cap, .int .i64 0]) ∧ Pairs w' ao (Br.PP l t).length cap (Br.PP l t) ∧ Below w.heap.size w w' := by
  have HB := hide (bsearch_any a0 a1 n c0 c1 l t w h0 h1 hf hm hn)
  have hlen : (Br.FF l t).length ≤ n := by rw [← h0.len]; exact Br.F_len
  have hpl : (Br.PP l t).length = (Br.FF l t).length := Br.PS_len
  have eg : ∀ args w, (callFunc 143 args).run Tryz.prog w = .ok (.enter 143 args) w := enters_of Tryz.func143 (by kernel_rfl) rfl
  have HEG := hide eg
  have hle := h0.le
  have hmx := h0.max
  unfold maxLen at hmx
  clear h0 h1 hf hm eg
  go_enter Tryz.func116, Tryz.ntmps116
  go_wp2_with fail
  refine HB.out.mono ?_
  rintro e w1 ⟨v, rfl, ho, hb⟩
  obtain ⟨ao, cap, rfl, hcap⟩ := owns_form ho
  by_cases hz : (Br.FF l t).length = 0
  · have hcon := AnyF.slices_SortFunc_none Tryz.sortP ao cap (.func (.func 143) #[] #[]) w1
    change Calls Tryz.prog 142 _ _ _ at hcon
    have hp0 : Br.PP l t = [] := List.length_eq_zero_iff.1 (by omega)
    obtain ⟨a2, c2, e2, hp⟩ := pairs_of_owns ho
    simp only [Value.slice.injEq] at e2
    obtain ⟨rfl, _, rfl⟩ := e2
    have hF0 : Br.FF l t = [] := List.length_eq_zero_iff.1 hz
    rw [hF0] at hp ⊢
    have HP := hide hp
    have HP0 := hide hp0
    have HBB := hide hb
    have HC := hide hcon
    clear hp hb ho hcon HB hp0 hF0 hz hcap hlen hpl
    simp only [List.length_nil]
    go_wp2_with (go_at_call 142; refine HC.out.mono ?_; rintro e w' ⟨rfl, rfl⟩)
    go_ret2
    exact ⟨ao, cap, by rw [HP0.out]; rfl, by rw [HP0.out]; exact HP.out, HBB.out⟩
  · obtain ⟨g, cap2, e2, hbg, hle2⟩ := owns_pos ho (by omega)
    simp only [Value.slice.injEq] at e2
    obtain ⟨rfl, _, rfl⟩ := e2
    have hg : g < w1.heap.size := (ho.lt g rfl).2
    have hH := holds_of_owns ho
    have hcx : cap ≤ maxLen := by
      rcases ho.2 with ⟨h0, _⟩ | ⟨g', cap', cur, hv, _, _, _, h2, _⟩
      · cases h0
      · cases hv; exact h2
    have hcon := AnyQ.slices_SortFunc Tryz.sortP 2 Tryz.isAgg127 Tryz.sizeOf127 encP (fun _ => rfl) (fun x v hv => by simp [encP] at hv; rcases hv with rfl | rfl <;> rfl) cfP swoP 143 #[] g 0 cap (Br.FF l t).toArray w1 HEG.out (cmpLaysP g 0 _ w1) hH hg (by simp; omega)
    change Calls Tryz.prog 142 _ _ _ at hcon
    have HC : Hid (Calls Tryz.prog 142 #[.slice (some ⟨g, 0, none⟩) (Br.FF l t).length cap, .func (.func 143) #[] #[]] w1 fun e w' => e = .returned (.tuple #[]) ∧ Pairs w' (some ⟨g, 0, none⟩) (Br.PP l t).length cap (Br.PP l t) ∧ Below w.heap.size w w') := hide (by
      refine hcon.mono ?_
      rintro e w' ⟨rfl, d', m, os, hp, hs, rfl⟩
      have hd := sorted_is hp hs
      subst hd
      refine ⟨rfl, ?_, hb.trans (below_sort hbg hg _ _)⟩
      refine pairs_of_holds ?_ ?_ (by omega) hcx
      · unfold sortWorldK
        exact holdsK_grow encP 2 _ _ g 0 _ (by simp [putRowK, putRow, mapBlock]; exact hg) (holdsK_putRowK encP 2 _ g 0 _ _ (holdsK_ahead encP 2 w1 m g 0 _ hH) (by simp; omega))
      · have := (below_sort (m := m) (Nat.zero_le g) hg (Br.PP l t).toArray os).size
        omega)
    clear hcon hH ho hb HB hbg hg
    generalize (Br.FF l t).length = q at *
    go_wp2_with (go_at_call 142; refine HC.out.mono ?_; rintro e w' ⟨rfl, hp', hb'⟩)
    go_ret2
    exact ⟨_, cap, by rw [hpl]; rfl, hp', hb'⟩
theorem pairs_bad (a0 a1 : Option Addr) (n m c0 c1 : Nat) (w : World) (hne : ¬ n = m) (hn : n ≤ 9223372036854775807) (hm : m ≤ 9223372036854775807) :
    Calls Tryz.prog 116 #[.slice a0 n c0, .slice a1 m c1] w fun e w' => e = .returned (.tuple #[.slice none 0 0, .int .i64 2]) ∧ w = w' := by
  have h1 : ((n : Int) == (m : Int)) = false := beq_false_of_ne (by omega)
  have h2 : ¬ (n : Int) = (m : Int) := by omega
  go_enter Tryz.func116, Tryz.ntmps116
  go_wp2
  go_ret2
  exact ⟨rfl, rfl⟩
end Go.Proofs.YtfadjgaledddjaaGreatDoor

/- The small functions of bracket: mayBe, levelSide, side, ahead, direction, give. -/
namespace Go.Proofs.YtfadjgaledddjaaGreatDoor
open Go.RowKit
set_option linter.unusedVariables false
set_option maxHeartbeats 1000000
set_option maxRecDepth 100000
theorem bmay_cases (x : Int) : (x = 1) ∨ (¬ x = 1 ∧ x = 2) ∨ (¬ x = 1 ∧ ¬ x = 2 ∧ x = 4) ∨ (¬ x = 1 ∧ ¬ x = 2 ∧ ¬ x = 4 ∧ x = 7) ∨ (¬ x = 1 ∧ ¬ x = 2 ∧ ¬ x = 4 ∧ ¬ x = 7 ∧ x = 11) ∨ (¬ x = 1 ∧ ¬ x = 2 ∧ ¬ x = 4 ∧ ¬ x = 7 ∧ ¬ x = 11 ∧ x = 12) ∨ (¬ x = 1 ∧ ¬ x = 2 ∧ ¬ x = 4 ∧ ¬ x = 7 ∧ ¬ x = 11 ∧ ¬ x = 12 ∧ x = 13) ∨ (¬ x = 1 ∧ ¬ x = 2 ∧ ¬ x = 4 ∧ ¬ x = 7 ∧ ¬ x = 11 ∧ ¬ x = 12 ∧ ¬ x = 13 ∧ x = 14) ∨ (¬ x = 1 ∧ ¬ x = 2 ∧ ¬ x = 4 ∧ ¬ x = 7 ∧ ¬ x = 11 ∧ ¬ x = 12 ∧ ¬ x = 13 ∧ ¬ x = 14 ∧ x = 20) ∨ (¬ x = 1 ∧ ¬ x = 2 ∧ ¬ x = 4 ∧ ¬ x = 7 ∧ ¬ x = 11 ∧ ¬ x = 12 ∧ ¬ x = 13 ∧ ¬ x = 14 ∧ ¬ x = 20 ∧ x = 21) ∨ (¬ x = 1 ∧ ¬ x = 2 ∧ ¬ x = 4 ∧ ¬ x = 7 ∧ ¬ x = 11 ∧ ¬ x = 12 ∧ ¬ x = 13 ∧ ¬ x = 14 ∧ ¬ x = 20 ∧ ¬ x = 21 ∧ x = 22) ∨ (¬ x = 1 ∧ ¬ x = 2 ∧ ¬ x = 4 ∧ ¬ x = 7 ∧ ¬ x = 11 ∧ ¬ x = 12 ∧ ¬ x = 13 ∧ ¬ x = 14 ∧ ¬ x = 20 ∧ ¬ x = 21 ∧ ¬ x = 22 ∧ x = 23) ∨ (¬ x = 1 ∧ ¬ x = 2 ∧ ¬ x = 4 ∧ ¬ x = 7 ∧ ¬ x = 11 ∧ ¬ x = 12 ∧ ¬ x = 13 ∧ ¬ x = 14 ∧ ¬ x = 20 ∧ ¬ x = 21 ∧ ¬ x = 22 ∧ ¬ x = 23) := by omega
theorem bmayBe_any (x : Int) (w : World) : Calls Tryz.prog 117 #[.int .i64 x] w fun e w' => e = .returned (.bool (Br.may x)) ∧ w = w' := by
  rcases bmay_cases x with rfl | ⟨h1, rfl⟩ | ⟨h1, h2, rfl⟩ | ⟨h1, h2, h3, rfl⟩ | ⟨h1, h2, h3, h4, rfl⟩ | ⟨h1, h2, h3, h4, h5, rfl⟩ | ⟨h1, h2, h3, h4, h5, h6, rfl⟩ | ⟨h1, h2, h3, h4, h5, h6, h7, rfl⟩ | ⟨h1, h2, h3, h4, h5, h6, h7, h8, rfl⟩ | ⟨h1, h2, h3, h4, h5, h6, h7, h8, h9, rfl⟩ | ⟨h1, h2, h3, h4, h5, h6, h7, h8, h9, h10, rfl⟩ | ⟨h1, h2, h3, h4, h5, h6, h7, h8, h9, h10, h11, rfl⟩ | ⟨h1, h2, h3, h4, h5, h6, h7, h8, h9, h10, h11, h12⟩
  rotate_left 12
  · have e : Br.may x = false := by simp [Br.may, h1, h2, h3, h4, h5, h6, h7, h8, h9, h10, h11, h12]
    rw [e]; clear e
    go_enter Tryz.func117, Tryz.ntmps117
    go_wp2
    go_ret
    exact ⟨rfl, rfl⟩
  all_goals
    go_enter Tryz.func117, Tryz.ntmps117
    go_wp2
    go_ret
    exact ⟨rfl, rfl⟩
theorem side_cases (x : Int) : (x = 1) ∨ (¬ x = 1 ∧ x = 2) ∨ (¬ x = 1 ∧ ¬ x = 2 ∧ x = 4) ∨ (¬ x = 1 ∧ ¬ x = 2 ∧ ¬ x = 4 ∧ x = 7) ∨ (¬ x = 1 ∧ ¬ x = 2 ∧ ¬ x = 4 ∧ ¬ x = 7) := by omega
theorem bside_any (x : Int) (w : World) : Calls Tryz.prog 145 #[.int .i64 x] w fun e w' => e = .returned (.int .i64 (Br.sd x)) ∧ w = w' := by
  rcases side_cases x with rfl | ⟨h1, rfl⟩ | ⟨h1, h2, rfl⟩ | ⟨h1, h2, h3, rfl⟩ | ⟨h1, h2, h3, h4⟩
  rotate_left 4
  · have e : Br.sd x = 0 := by simp [Br.sd, h1, h2, h3, h4]
    rw [e]; clear e
    go_enter Tryz.func145, Tryz.ntmps145
    go_wp2
    go_ret
    exact ⟨rfl, rfl⟩
  all_goals
    go_enter Tryz.func145, Tryz.ntmps145
    go_wp2
    go_ret
    exact ⟨rfl, rfl⟩
theorem levelSide_any (lv : Int) (hl : 0 ≤ lv) (w : World) : Calls Tryz.prog 118 #[.int .i64 lv] w fun e w' => e = .returned (.int .i64 (Br.es lv)) ∧ w = w' := by
  have ht : lv.tmod 2 = lv % 2 := Int.tmod_eq_emod_of_nonneg hl
  have h2 : lv % 2 = 0 ∨ lv % 2 = 1 := by omega
  rcases h2 with h2 | h2
  · have e : Br.es lv = 1 := by unfold Br.es; rw [if_neg (by omega)]
    rw [e]
    rw [h2] at ht
    clear e h2
    go_enter Tryz.func118, Tryz.ntmps118
    go_wp2
    go_ret
    exact ⟨rfl, rfl⟩
  · have e : Br.es lv = 2 := by unfold Br.es; rw [if_pos h2]
    rw [e]
    rw [h2] at ht
    clear e h2
    go_enter Tryz.func118, Tryz.ntmps118
    go_wp2
    go_ret
    exact ⟨rfl, rfl⟩
theorem bahead_any (ao : Option Addr) (n cap : Nat) (zs : List Int) (s : Int) (w : World) (h : Row .i64 w ao n cap zs) (hn : n ≤ 17592186044416) :
    Calls Tryz.prog 146 #[.slice ao n cap, .int .i64 s] w fun e w' => e = .returned (.int .i64 (Br.ah zs s n)) ∧ w = w' := by
  have H := hide h
  clear h
  go_enter Tryz.func146, Tryz.ntmps146
  go_wp2
  go_loopw [5] (fun s5 wr => ∃ k : Nat, s5 = .int .i64 ((k : Int) - 1) ∧ k ≤ n ∧ Hid (Br.ah zs s n = Br.ah zs s k) ∧ w = wr) (fun s5 _ => (intOf s5 + 1).toNat)
  case atStart => exact ⟨n, rfl, Nat.le_refl _, hide rfl, rfl⟩
  case round =>
    obtain ⟨k, rfl, hk, HA, rfl⟩ := hrel
    cases k with
    | zero =>
      have HE : Hid (Br.ah zs s n = s) := hide (by rw [HA.out]; rfl)
      clear HA
      go_wp2
      go_ret
      exact ⟨ret_int HE.out.symm, rfl⟩
    | succ k =>
      obtain ⟨b, off, rfl, hb, hc⟩ := H.out.cells (by omega)
      have g0 := hc k (by rw [H.out.len]; omega)
      have hkn : (k : Int) < (n : Int) := by omega
      have hk0 : (0 : Int) ≤ (k : Int) := by omega
      have hki : ((k + 1 : Nat) : Int) - 1 = (k : Int) := by omega
      rw [hki]
      have HS := hide (bside_any (zs.getD k 0) w)
      by_cases hs : Br.sd (zs.getD k 0) = 0
      · have HE : Hid (Br.ah zs s n = Br.ah zs s k) := hide (by rw [HA.out, Br.ah, if_pos hs])
        rw [hs] at HS
        clear HA hs hc hb
        generalize zs.getD k 0 = x at *
        go_wp2_with (go_at_call 145; refine HS.out.mono ?_; rintro e w' ⟨rfl, rfl⟩)
        go_roundw
        case rel => exact ⟨k, rfl, by omega, HE, trivial⟩
        case measure => simp [intOf]
      · have HE : Hid (Br.ah zs s n = Br.sd (zs.getD k 0)) := hide (by rw [HA.out, Br.ah, if_neg hs])
        clear HA hc hb
        generalize zs.getD k 0 = x at *
        generalize Br.sd x = y at *
        have hy : (y != 0) = true := bne_iff_ne.2 hs
        go_wp2_with (go_at_call 145; refine HS.out.mono ?_; rintro e w' ⟨rfl, rfl⟩)
        go_ret
        exact ⟨ret_int HE.out.symm, rfl⟩
end Go.Proofs.YtfadjgaledddjaaGreatDoor

/- direction and give: their contracts. -/
namespace Go.Proofs.YtfadjgaledddjaaGreatDoor
open Go.RowKit
set_option linter.unusedVariables false
set_option maxHeartbeats 1000000
set_option maxRecDepth 100000
namespace Br
theorem ah_take (T : List Int) (s : Int) (m : Nat) : ∀ k, k ≤ m → ah (T.take m) s k = ah T s k
  | 0, _ => rfl
  | k + 1, h => by
    have e : (T.take m).getD k 0 = T.getD k 0 := by simp only [List.getD_eq_getElem?_getD]; rw [List.getElem?_take_of_lt (by omega)]
    rw [ah, ah, e, ah_take T s m k (by omega)]
theorem ins_len {T : List Int} {p : Nat × Nat} (h1 : p.1 < p.2) (h2 : p.2 < T.length) : (ins T p).length = p.2 - (p.1 + 1) := by unfold ins; simp; omega
theorem ins_at {T : List Int} {p : Nat × Nat} {i : Nat} (h : i < p.2 - (p.1 + 1)) : (ins T p).getD i 0 = T.getD (p.1 + 1 + i) 0 := by
  unfold ins
  simp only [List.getD_eq_getElem?_getD]
  rw [List.getElem?_take_of_lt h, List.getElem?_drop]
theorem take_next {L : List Int} {i : Nat} (h : i < L.length) : L.take (i + 1) = L.take i ++ [L.getD i 0] := by
  rw [List.take_succ_eq_append_getElem h]; simp [List.getD, List.getElem?_eq_getElem h]
theorem has_next {L : List Int} {i : Nat} {s : Int} (h : i < L.length) : has (L.take (i + 1)) s = (has (L.take i) s || decide (sd (L.getD i 0) = s)) := by rw [take_next h, has_snoc]
theorem has_all {L : List Int} {i : Nat} {s : Int} (h : has (L.take i) s = true) : has L s = true := by
  unfold has at *
  rw [List.any_eq_true] at *
  obtain ⟨x, hx, hs⟩ := h
  exact ⟨x, List.mem_of_mem_take hx, hs⟩
/-- What has been seen of the other side. -/
def ot (L : List Int) (e : Int) : Int := if has L (3 - e) = true then 3 - e else 0
end Br
theorem direction_any (ao : Option Addr) (n cap : Nat) (T : List Int) (p : Nat × Nat) (e s : Int) (w : World) (h : Row .i64 w ao n cap T) (hn : n ≤ 17592186044416) (h1 : p.1 < p.2) (h2 : p.2 < n) (he : e = 1 ∨ e = 2) :
    Calls Tryz.prog 119 #[.slice ao n cap, .agg #[.int .i64 (p.1 : Int), .int .i64 (p.2 : Int)], .int .i64 e, .int .i64 s] w fun r w' => r = .returned (.int .i64 (Br.dr T p e s)) ∧ KO w w' := by
  obtain ⟨p, q⟩ := p
  simp only at h1 h2
  obtain ⟨ii, hii, _, _, _⟩ := info_parts infoInt
  have hcap := h.le
  have hmx := h.max
  unfold maxLen at hmx
  have hmid := run_mid Tryz.underlying24 hii cellsInt ao n cap (p + 1) q (by omega) (by omega)
  have hup := run_upto Tryz.underlying24 hii cellsInt ao n cap p (by omega)
  have HL := hide (Br.ins_len (T := T) (p := (p, q)) h1 (by rw [h.len]; exact h2))
  have HI : Hid (∀ i, i < q - (p + 1) → (Br.ins T (p, q)).getD i 0 = T.getD (p + 1 + i) 0) := hide fun i hi => Br.ins_at (p := (p, q)) hi
  have hk1 : KO w (w.alloc (.cells #[.int .i64 (p : Int), .int .i64 (q : Int)] 127)) := KO.alloc (KO.refl _) _
  have H := hide (h.below hk1)
  have HKO := hide hk1
  have HD : Hid (Br.dr T (p, q) e s = if Br.has (Br.ins T (p, q)) e = true then e else if Br.has (Br.ins T (p, q)) (3 - e) = true then (if Br.ah T s p = 3 - e then 3 - e else e) else 0) := hide rfl
  obtain ⟨g0, g1⟩ := cells2 w (.int .i64 (p : Int)) (.int .i64 (q : Int)) 127
  have hr := (h.below hk1).drop (j := p + 1) (by omega)
  have HRW := hide hr
  have HA := hide (fun W => bahead_any ao p cap (T.take p) s W)
  clear h hk1 hr hii
  have hpi : wrap64 ((p : Int) + 1) = ((p + 1 : Nat) : Int) := w64_nat (by omega) (by omega)
  generalize hW : w.alloc (.cells #[.int .i64 (p : Int), .int .i64 (q : Int)] 127) = W at *
  generalize hIN : Br.ins T (p, q) = I at *
  have hcast : ((p + 1 : Nat) : Int) = (p : Int) + 1 := by omega
  rw [hcast] at hmid
  generalize hm : q - (p + 1) = m at *
  go_enter Tryz.func119, Tryz.ntmps119
  go_wp2
  clear hmid hW g1
  go_loopw [9, 21] (fun s9 s21 wr => ∃ k : Nat, s9 = .int .i64 (Br.ot (I.take k) e) ∧ s21 = .int .i64 k ∧ k ≤ m ∧ Hid (Br.has (I.take k) e = false) ∧ W = wr) (fun s9 s21 _ => m - (intOf s21).toNat)
  case atStart => exact ⟨0, rfl, rfl, Nat.zero_le _, hide rfl, rfl⟩
  case round =>
    obtain ⟨k, rfl, rfl, hk, HH, rfl⟩ := hrel
    by_cases hlt : k < m
    · have hlt' : (k : Int) < (m : Int) := by omega
      obtain ⟨b, off, eb, hb, hc⟩ := HRW.out.cells (by omega)
      have gk := hc k (by rw [HRW.out.len]; omega)
      have eK : (T.drop (p + 1)).getD k 0 = I.getD k 0 := by rw [HI.out k hlt]; simp only [List.getD_eq_getElem?_getD]; rw [List.getElem?_drop]
      rw [eK] at gk
      rw [eb] at *
      have HS := hide (bside_any (I.getD k 0) W)
      have HN1 := hide (Br.has_next (s := e) (show k < I.length by rw [HL.out]; exact hlt))
      have HN2 := hide (Br.has_next (s := 3 - e) (show k < I.length by rw [HL.out]; exact hlt))
      clear hc hb eK
      by_cases hse : Br.sd (I.getD k 0) = e
      · have HX : Hid (Br.dr T (p, q) e s = e) := hide (by
          rw [HD.out, if_pos]
          refine Br.has_all (i := k + 1) ?_
          rw [HN1.out, decide_eq_true hse, Bool.or_true])
        rw [hse] at HS
        clear HN1 HN2 HH HD hse
        generalize I.getD k 0 = x at *
        generalize Br.ot (I.take k) e = o at *
        go_wp2_with (go_at_call 145; refine HS.out.mono ?_; rintro e w' ⟨rfl, rfl⟩)
        go_ret
        exact ⟨ret_int HX.out.symm, HKO.out⟩
      · have HF : Hid (Br.has (I.take (k + 1)) e = false) := hide (by rw [HN1.out, HH.out, decide_eq_false hse]; rfl)
        by_cases hs0 : Br.sd (I.getD k 0) = 0
        · have HO : Hid (Br.ot (I.take (k + 1)) e = Br.ot (I.take k) e) := hide (by unfold Br.ot; rw [HN2.out, hs0, decide_eq_false (by omega), Bool.or_false])
          rw [hs0] at HS
          have h0e : ((0 : Int) == e) = false := beq_false_of_ne (by omega)
          clear HN1 HN2 HH HD hse hs0
          generalize I.getD k 0 = x at *
          generalize Br.ot (I.take k) e = o at *
          go_wp2_with (go_at_call 145; refine HS.out.mono ?_; rintro e w' ⟨rfl, rfl⟩)
          go_roundw
          case rel => exact ⟨k + 1, by rw [HO.out], by go_num, by omega, HF, trivial⟩
          case measure => simp [intOf]; omega
        · have h3 : Br.sd (I.getD k 0) = 3 - e := by have := Br.sd_cases (I.getD k 0); omega
          have HO : Hid (Br.ot (I.take (k + 1)) e = 3 - e) := hide (by unfold Br.ot; rw [HN2.out, decide_eq_true h3, Bool.or_true]; rfl)
          rw [h3] at HS
          have h0e : ((3 - e : Int) == e) = false := beq_false_of_ne (by omega)
          have h00 : ((3 - e : Int) == 0) = false := beq_false_of_ne (by omega)
          clear HN1 HN2 HH HD hse hs0 h3
          generalize I.getD k 0 = x at *
          generalize Br.ot (I.take k) e = o at *
          generalize 3 - e = e3 at *
          go_wp2_with (go_at_call 145; refine HS.out.mono ?_; rintro e w' ⟨rfl, rfl⟩)
          go_roundw
          case rel => exact ⟨k + 1, by rw [HO.out], by go_num, by omega, HF, trivial⟩
          case measure => simp [intOf]; omega
    · obtain rfl : k = m := by omega
      have hne : ¬ ((k : Int) < (k : Int)) := by omega
      have eI : I.take k = I := List.take_of_length_le (by rw [HL.out]; exact Nat.le_refl _)
      rw [eI] at HH ⊢
      have HAA := hide (HA.out W (H.out.take (by omega)) (by omega))
      rw [Br.ah_take T s p p (Nat.le_refl _)] at HAA
      by_cases ho : Br.has I (3 - e) = true
      · have e1 : Br.ot I e = 3 - e := by unfold Br.ot; rw [if_pos ho]
        rw [e1]
        have h00 : ((3 - e : Int) == 0) = false := beq_false_of_ne (by omega)
        by_cases hah : Br.ah T s p = 3 - e
        · have HX : Hid (Br.dr T (p, q) e s = 3 - e) := hide (by rw [HD.out, HH.out, if_neg (by decide), if_pos ho, if_pos hah])
          rw [hah] at HAA
          clear HD HH e1 hah ho
          generalize 3 - e = e3 at *
          go_wp2_with (go_at_call 146; refine HAA.out.mono ?_; rintro e w' ⟨rfl, rfl⟩)
          go_ret
          exact ⟨ret_int HX.out.symm, HKO.out⟩
        · have HX : Hid (Br.dr T (p, q) e s = e) := hide (by rw [HD.out, HH.out, if_neg (by decide), if_pos ho, if_neg hah])
          have hab : ((3 - e : Int) == Br.ah T s p) = false := beq_false_of_ne (fun h => hah h.symm)
          clear HD HH e1 ho hah
          generalize 3 - e = e3 at *
          generalize Br.ah T s p = a at *
          go_wp2_with (go_at_call 146; refine HAA.out.mono ?_; rintro e w' ⟨rfl, rfl⟩)
          go_ret
          exact ⟨ret_int HX.out.symm, HKO.out⟩
      · have e1 : Br.ot I e = 0 := by unfold Br.ot; rw [if_neg ho]
        rw [e1]
        have HX : Hid (Br.dr T (p, q) e s = 0) := hide (by rw [HD.out, HH.out, if_neg (by decide), if_neg ho])
        clear HD HH e1 ho
        go_wp2
        go_ret
        exact ⟨ret_int HX.out.symm, HKO.out⟩
theorem set_other (w : World) (g k j : Nat) (v : Value) (h : ¬ j = g) : (w.setCell ⟨g, k, none⟩ v).heap[j]? = w.heap[j]? := by
  have h' : ¬ g = j := fun e => h e.symm
  unfold World.setCell
  simp [Array.getElem?_modify, h']
theorem give_any (g n cap : Nat) (T was : List Int) (aw : Option Addr) (cw : Nat) (p : Nat) (d : Int) (w0 w : World) (h : OW w0.heap.size g n cap T w0 w) (hw : Row .i64 w0 aw n cw was) (hp : p < n) (hn : n ≤ 17592186044416) :
    Calls Tryz.prog 120 #[.slice (some ⟨g, 0, none⟩) n cap, .slice aw n cw, .int .i64 (p : Int), .int .i64 d] w fun r w' => r = .returned (.tuple #[]) ∧ OW w0.heap.size g n cap (Br.give was T d p) w0 w' ∧ ∀ j, ¬ j = g → w'.heap[j]? = w.heap[j]? := by
  have hlt : (p : Int) < (n : Int) := by omega
  have HG : Hid (Br.give was T d p = Br.setR T d p (Br.nx was (p + 1))) := hide rfl
  have c0 := h.cell hp
  have f0 : ∀ j, w.frozen? ⟨g, j, none⟩ = false := by
    intro j
    rcases h.own.2 with ⟨h0, _⟩ | ⟨g', cap', cur, hv, _, hg, _⟩
    · cases h0
    · cases hv; simp [World.frozen?, hg]
  have f1 := f0 p
  have H1 := hide (h.set p d)
  rw [Br.setR_one] at H1
  have HW := hide hw
  have hwl := hw.len
  have HWL := hide hwl
  clear h hw f0
  generalize T.getD p 0 = x0 at *
  go_enter Tryz.func120, Tryz.ntmps120
  go_wp2
  have HU1 : Hid (∀ j, ¬ j = g → (w.setCell ⟨g, p, none⟩ (.int .i64 d)).heap[j]? = w.heap[j]?) := hide fun j hj => set_other w g p j _ hj
  generalize hW1 : w.setCell ⟨g, p, none⟩ (.int .i64 d) = W1 at *
  clear hW1
  go_loopw [8] (fun s8 wr => ∃ k : Nat, s8 = .int .i64 k ∧ p + 1 ≤ k ∧ k ≤ n ∧ Hid (Br.nx was (p + 1) = Br.nx was k) ∧ Hid (OW w0.heap.size g n cap (Br.setR T d p k) w0 wr) ∧ Hid (∀ j, ¬ j = g → wr.heap[j]? = w.heap[j]?)) (fun s8 _ => n - (intOf s8).toNat)
  case atStart => exact ⟨p + 1, by go_num, Nat.le_refl _, by omega, hide rfl, H1, HU1⟩
  case round =>
    obtain ⟨k, rfl, hk1, hk2, HN, HO, HU⟩ := hrel
    clear H1 HU1
    by_cases hkn : k < n
    · have hkn' : (k : Int) < (n : Int) := by omega
      obtain ⟨b, off, eb, hb, hc⟩ := (HW.out.below HO.out.bel).cells (by omega)
      have gk := hc k (by rw [HWL.out]; exact hkn)
      subst eb
      clear hc hb
      by_cases h9 : was.getD k 0 = 9
      · have HN2 : Hid (Br.nx was (p + 1) = Br.nx was (k + 1)) := hide (by rw [HN.out]; exact Br.nx_more (by rw [HWL.out]; exact hkn) h9)
        rw [h9] at gk
        have ck := HO.out.cell hkn
        have fk : wr.frozen? ⟨g, k, none⟩ = false := by
          rcases HO.out.own.2 with ⟨h0, _⟩ | ⟨g', cap', cur, hv, _, hg, _⟩
          · cases h0
          · cases hv; simp [World.frozen?, hg]
        have HO2 := hide (HO.out.set k d)
        have HU2 : Hid (∀ j, ¬ j = g → (wr.setCell ⟨g, k, none⟩ (.int .i64 d)).heap[j]? = w.heap[j]?) := hide fun j hj => (set_other wr g k j _ hj).trans (HU.out j hj)
        rw [Br.setR_snoc _ _ _ _ (by omega)] at HO2
        clear HN h9 HO HU
        generalize (Br.setR T d p k).getD k 0 = y at *
        go_wp2
        go_roundw
        case rel => exact ⟨k + 1, by go_num, by omega, by omega, HN2, HO2, HU2⟩
        case measure => simp [intOf]; omega
      · have HX : Hid (Br.give was T d p = Br.setR T d p k) := hide (by rw [HG.out, HN.out, Br.nx_stop (fun h => h9 h.2)])
        have h9b : (was.getD k 0 == 9) = false := beq_false_of_ne h9
        clear HN h9
        generalize was.getD k 0 = y at *
        go_wp2
        go_end0
        exact ⟨rfl, by rw [HX.out]; exact HO.out, HU.out⟩
    · obtain rfl : k = n := by omega
      have hne : ¬ ((k : Int) < (k : Int)) := by omega
      have HX : Hid (Br.give was T d p = Br.setR T d p k) := hide (by rw [HG.out, HN.out, Br.nx_stop (fun h => by have := h.1; have := HWL.out; omega)])
      clear HN
      go_wp2
      go_end0
      exact ⟨rfl, by rw [HX.out]; exact HO.out, HU.out⟩
end Go.Proofs.YtfadjgaledddjaaGreatDoor

/- Resolve: its contract. -/
namespace Go.Proofs.YtfadjgaledddjaaGreatDoor
open Go.RowKit
set_option linter.unusedVariables false
set_option maxHeartbeats 1000000
set_option maxRecDepth 100000
namespace Br
def Arg (nl nw nt : Nat) (lv s : Int) : Prop := (nl = nt ∧ nw = nt) ∧ (0 ≤ lv ∧ lv ≤ 126) ∧ (s = 1 ∨ s = 2)
instance (nl nw nt : Nat) (lv s : Int) : Decidable (Arg nl nw nt lv s) := by unfold Arg; infer_instance
/-- What Resolve answers: an error's number, and the types. -/
def RA (l was t : List Int) (lv s : Int) : Int × List Int :=
  if Arg l.length was.length t.length lv s then (if t.all may = true then (0, rs was (es lv) s t (PP l t)) else (50, [])) else (2, [])
theorem RA_arg {l was t : List Int} {lv s : Int} (h : ¬ Arg l.length was.length t.length lv s) : RA l was t lv s = (2, []) := by unfold RA; rw [if_neg h]
theorem RA_form {l was t : List Int} {lv s : Int} (h : Arg l.length was.length t.length lv s) (h2 : t.all may = false) : RA l was t lv s = (50, []) := by unfold RA; rw [if_pos h, h2]; rfl
theorem RA_ok {l was t : List Int} {lv s : Int} (h : Arg l.length was.length t.length lv s) (h2 : t.all may = true) : RA l was t lv s = (0, rs was (es lv) s t (PP l t)) := by unfold RA; rw [if_pos h, h2]; rfl
theorem all_no {t : List Int} {k : Nat} (h : k < t.length) (hm : may (t.getD k 0) = false) : t.all may = false := by
  rw [List.all_eq_false]
  refine ⟨t[k], List.getElem_mem h, ?_⟩
  have e : t.getD k 0 = t[k] := by simp [List.getD, List.getElem?_eq_getElem h]
  rw [e] at hm
  rw [hm]; decide
theorem all_yes {t : List Int} (h : ∀ k, k < t.length → may (t.getD k 0) = true) : t.all may = true := by
  rw [List.all_eq_true]
  intro x hx
  obtain ⟨k, hk, e⟩ := List.getElem_of_mem hx
  have := h k hk
  simp only [List.getD_eq_getElem?_getD, List.getElem?_eq_getElem hk, Option.getD_some] at this
  rw [← e]; exact this
theorem PP_at {l t : List Int} {j : Nat} (h : j < (PP l t).length) : (PP l t).getD j (0, 0) ∈ PP l t := by
  simp only [List.getD_eq_getElem?_getD, List.getElem?_eq_getElem h, Option.getD_some]; exact List.getElem_mem h
theorem PP_lt {l t : List Int} {j : Nat} (h : j < (PP l t).length) : ((PP l t).getD j (0, 0)).1 < ((PP l t).getD j (0, 0)).2 ∧ ((PP l t).getD j (0, 0)).2 < l.length := by
  have := F_p _ (mem_PS.1 (PP_at h))
  exact ⟨this.1, this.2.1⟩
theorem take_pair {ps : List (Nat × Nat)} {j : Nat} (h : j < ps.length) : ps.take (j + 1) = ps.take j ++ [ps.getD j (0, 0)] := by
  rw [List.take_succ_eq_append_getElem h]; simp [List.getD, List.getElem?_eq_getElem h]
end Br
theorem OW.keep {base g n cap : Nat} {zs : List Int} {w0 w w' : World} (h : OW base g n cap zs w0 w) (hb : Below w.heap.size w w') : OW base g n cap zs w0 w' :=
  ⟨owns_below h.own hb, h.bel.trans (hb.mono (by have := h.own.lt g rfl; omega))⟩
theorem two64 : (Tryz.prog.info? 127).map (·.size) = some 2 := by kernel_rfl
theorem two_one64 (x y : Int) : (#[.int .i64 x, .int .i64 y] : Array Value).all (·.oneCell') = true := by simp [Value.oneCell']
/-- What is said of an answer. -/
def R10 (w : World) (A : Int × List Int) (e : Ending) (w' : World) : Prop := ∃ ao cap, e = .returned (.tuple #[.slice ao A.2.length cap, .int .i64 A.1]) ∧ Row .i64 w' ao A.2.length cap A.2 ∧ KO w w'
theorem R10.err {w w' : World} {A : Int × List Int} {x : Int} (h : A = (x, [])) (hk : KO w w') : R10 w A (.returned (.tuple #[.slice none 0 0, .int .i64 x])) w' := by
  subst h; exact ⟨none, 0, rfl, row_nil _ _, hk⟩
theorem resolve_any (a0 a1 a2 : Option Addr) (n0 n1 n2 c0 c1 c2 : Nat) (l was t : List Int) (lv s : Int) (w : World) (h0 : Row .i32 w a0 n0 c0 l) (h1 : Row .i64 w a1 n1 c1 was) (h2 : Row .i64 w a2 n2 c2 t) (hf : ∀ x ∈ l, (Lit.int .i32 x).wf = true) (hm : Marks w) (hn : n2 * 8 ≤ 140737488351232) :
    Calls Tryz.prog 106 #[.slice a0 n0 c0, .slice a1 n1 c1, .slice a2 n2 c2, .int .i64 lv, .int .i64 s] w (R10 w (Br.RA l was t lv s)) := by
  have hn0 : n0 ≤ 9223372036854775807 := by have h3 := h0.le; have h4 := h0.max; unfold maxLen at h4; omega
  have hn1 : n1 ≤ 9223372036854775807 := by have h3 := h1.le; have h4 := h1.max; unfold maxLen at h4; omega
  have e0 := h0.len
  have e1 := h1.len
  have e2 := h2.len
  by_cases hA : n1 = n2 ∧ (0 ≤ lv ∧ lv ≤ 126) ∧ (s = 1 ∨ s = 2)
  · obtain ⟨rfl, ⟨hl0, hl1⟩, hs⟩ := hA
    have q1 : ¬ (lv < 0) := by omega
    have q2 : ¬ (126 < lv) := by omega
    have qn : ((n1 : Int) != (n1 : Int)) = false := by simp
    by_cases hN : n0 = n1
    · subst hN
      have HPR := hide (pairs_ok a0 a2 n0 c0 c2 l t w h0 h2 hf hm hn)
      have HARG : Hid (Br.Arg l.length was.length t.length lv s) := hide ⟨⟨by omega, by omega⟩, ⟨hl0, hl1⟩, hs⟩
      have H1 := hide h1
      have H2 := hide h2
      have HL := hide e2
      have HLL := hide e0
      have HLS := hide (fun W => levelSide_any lv hl0 W)
      have hes := Br.es_cases lv
      obtain ⟨ii, hii, hy0, hy1, hy2⟩ := info_parts infoInt
      have HII := hide hii
      have HY0 := hide hy0
      have HY1 := hide hy1
      have HY2 := hide hy2
      have HS12 := hide hs
      clear h0 h1 h2 hf hm hii hy0 hy1 hy2 e0 e1 e2
      have hsb : (s != 1 && s != 2) = false := by rcases hs with rfl | rfl <;> rfl
      have hsb' : ((s != 1) = false) ∨ ((s != 1) = true ∧ (s != 2) = false) := by rcases hs with rfl | rfl <;> decide
      clear hs
      go_enter Tryz.func106, Tryz.ntmps106
      rcases hsb' with hs1 | ⟨hs1, hs2⟩
      all_goals
        go_wp2_with fail
        refine HPR.out.mono ?_
        rintro e w1 ⟨ap, cp, rfl, hpp, hb1⟩
        have HPP := hide hpp
        have HB1 := hide hb1
        have hpm := hpp.max
        have hpl := hpp.le
        unfold maxLen at hpm
        have HPL : Hid (∀ j, j < (Br.PP l t).length → ((Br.PP l t).getD j (0, 0)).1 < ((Br.PP l t).getD j (0, 0)).2 ∧ ((Br.PP l t).getD j (0, 0)).2 < n0) := hide fun j hj => by have := Br.PP_lt hj; rw [HLL.out] at this; exact this
        have HTP : Hid (∀ j, j < (Br.PP l t).length → (Br.PP l t).take (j + 1) = (Br.PP l t).take j ++ [(Br.PP l t).getD j (0, 0)]) := hide fun j hj => Br.take_pair hj
        have HTA : Hid ((Br.PP l t).take (Br.PP l t).length = Br.PP l t) := hide (List.take_of_length_le (Nat.le_refl _))
        have HOK : Hid (t.all Br.may = true → Br.RA l was t lv s = (0, Br.rs was (Br.es lv) s t (Br.PP l t))) := hide fun h => Br.RA_ok HARG.out h
        generalize hPS : Br.PP l t = PS at *
        generalize hPN : PS.length = pn at *
        clear hpp hb1 HPR hPS
        go_wp2
        go_loopw [53] (fun v wr => ∃ k : Nat, v = .int .i64 (k : Int) ∧ k ≤ n0 ∧ Hid (∀ i, i < k → Br.may (t.getD i 0) = true) ∧ w1 = wr) (fun v _ => n0 - (intOf v).toNat)
        case atStart => exact ⟨0, rfl, Nat.zero_le _, hide (fun i hi => by omega), rfl⟩
        case round =>
          obtain ⟨k, rfl, hk, HM, rfl⟩ := hrel
          by_cases hlt : k < n0
          · have hlt' : (k : Int) < (n0 : Int) := by omega
            obtain ⟨b, off, eb, hb, hc⟩ := (H2.out.below HB1.out).cells (by omega)
            have gk := hc k (by rw [HL.out]; exact hlt)
            subst eb
            have HMB := hide (bmayBe_any (t.getD k 0) w1)
            clear hc hb
            cases hmay : Br.may (t.getD k 0) with
            | true =>
              have HM2 : Hid (∀ i, i < k + 1 → Br.may (t.getD i 0) = true) := hide fun i hi => by
                rcases Nat.lt_succ_iff_lt_or_eq.1 hi with h | h
                · exact HM.out i h
                · rw [h]; exact hmay
              rw [hmay] at HMB
              clear HM hmay
              generalize t.getD k 0 = x at *
              go_wp2_with (go_at_call 117; refine HMB.out.mono ?_; rintro e w' ⟨rfl, rfl⟩)
              go_roundw
              case rel => exact ⟨k + 1, by go_num, by omega, HM2, trivial⟩
              case measure => simp [intOf]; omega
            | false =>
              have HF := hide (Br.RA_form HARG.out (Br.all_no (by rw [HL.out]; exact hlt) hmay))
              rw [hmay] at HMB
              clear HM hmay
              generalize t.getD k 0 = x at *
              go_wp2_with (go_at_call 117; refine HMB.out.mono ?_; rintro e w' ⟨rfl, rfl⟩)
              go_ret2
              exact R10.err HF.out HB1.out
          · obtain rfl : k = n0 := by omega
            have hne : ¬ ((k : Int) < (k : Int)) := by omega
            have HR := hide (HOK.out (Br.all_yes (fun i hi => HM.out i (by rw [HL.out] at hi; exact hi))))
            clear HM hlt HOK HARG
            go_wp2_with (at_make; refine wpList_make_full _ rfl _ _ 24 rfl w1.heap.size 3 ii (.int .i64 0) 1 Tryz.underlying24 HII.out HY0.out HY1.out _ _ _ _ k rfl rfl rfl rfl ?b2 ?b3 (Nat.le_refl _) ?_)
            case b2 => rw [HY2.out]; omega
            case b3 => unfold maxLen; omega
            intro w2 hown hgrow
            have hbel := (Below.refl w1.heap.size w1).grown hgrow (Nat.le_refl _) (fun _ h => by cases h)
            obtain ⟨cur, hcg, hcl⟩ : ∃ cur : List Value, w2.heap[w1.heap.size]? = some (.cells cur.toArray 3 (0, 0)) ∧ cur.length = k := ⟨_, block_owns hown, by have := hown.1; rw [Nat.mul_one] at this; exact this⟩
            obtain ⟨w3, hcp, hg3, hb3⟩ := run_copy_ints ((H2.out.below HB1.out).below hbel) hcg hcl hbel (Nat.le_refl _)
            have HO := hide (show OW w1.heap.size w1.heap.size k k t w1 w3 from by
              refine ⟨owns_block hg3 ?_ HL.out ?_ (Nat.le_refl _), hb3⟩
              · rfl
              · unfold maxLen; omega)
            clear hown hgrow hbel hcg hcl hg3 hb3
            go_wp2_with fail
            refine (HLS.out w3).mono ?_
            rintro e w4 ⟨rfl, rfl⟩
            clear hcp HLS
            generalize hEV : Br.es lv = ev at *
            go_wp2
            go_loopw [71] (fun v wr => ∃ j : Nat, v = .int .i64 (j : Int) ∧ j ≤ pn ∧ Hid (OW w1.heap.size w1.heap.size k k (Br.rs was ev s t (PS.take j)) w1 wr)) (fun v _ => pn - (intOf v).toNat)
            case atStart => exact ⟨0, rfl, Nat.zero_le _, HO⟩
            case round =>
              obtain ⟨j, rfl, hj, HJ⟩ := hrel
              clear HO
              by_cases hjn : j < pn
              · have hjn' : (j : Int) < (pn : Int) := by omega
                obtain ⟨b, eb, hb, hc⟩ := (HPP.out.below HJ.out.bel).cells (by omega)
                obtain ⟨t0, t1⟩ := hc j hjn
                subst eb
                obtain ⟨k1, k2⟩ := HPL.out j hjn
                have HSN : Hid (Br.rs was ev s t (PS.take (j + 1)) = Br.one was ev s (Br.rs was ev s t (PS.take j)) (PS.getD j (0, 0))) := hide (by rw [HTP.out j hjn, Br.rs_snoc])
                generalize Br.rs was ev s t (PS.take j) = T at *
                generalize PS.getD j (0, 0) = pp at *
                obtain ⟨x, y⟩ := pp
                simp only at t0 t1 k1 k2
                obtain ⟨g0, g1⟩ := cells2 wr (.int .i64 (x : Int)) (.int .i64 (y : Int)) 127
                have hbw : Below wr.heap.size wr (wr.alloc (.cells #[.int .i64 (x : Int), .int .i64 (y : Int)] 127)) := (Below.refl _ _).alloc (Nat.le_refl _) _
                have HO1 := hide (HJ.out.keep hbw)
                have hgl : w1.heap.size < wr.heap.size := (HJ.out.own.lt _ rfl).2
                have hsz : (wr.alloc (.cells #[.int .i64 (x : Int), .int .i64 (y : Int)] 127)).heap.size = wr.heap.size + 1 := by simp
                have HDR := hide (direction_any (some ⟨w1.heap.size, 0, none⟩) k k T (x, y) ev s _ HO1.out.row (by omega) k1 k2 hes)
                have hblk : (wr.alloc (.cells #[.int .i64 (x : Int), .int .i64 (y : Int)] 127)).heap[wr.heap.size]? = some (.cells #[.int .i64 (x : Int), .int .i64 (y : Int)] 127 (0, 0)) := heap_alloc_last wr _
                have HBLK := hide hblk
                have HSZ := hide hsz
                have HGL := hide hgl
                clear hc hb hbw hblk
                generalize hX : wr.alloc (.cells #[.int .i64 (x : Int), .int .i64 (y : Int)] 127) = X at HO1 HDR HBLK HSZ g0 g1
                clear hsz
                go_wp2_with (first
                  | (refine wpList_store_new wr rfl 127 _ _ rfl rfl #[.int .i64 0, .int .i64 0] #[.int .i64 (x : Int), .int .i64 (y : Int)] rfl rfl (two_info two64 _ _) rfl (two_one64 _ _) ?_))
                refine HDR.out.mono ?_
                rintro e w5 ⟨rfl, hk5⟩
                have HO5 := hide (HO1.out.keep hk5)
                have hblk5 : w5.heap[wr.heap.size]? = some (.cells #[.int .i64 (x : Int), .int .i64 (y : Int)] 127 (0, 0)) := (hk5.block _ (by rw [HSZ.out]; omega)).trans HBLK.out
                have r0 : w5.cell? ⟨wr.heap.size, 0, none⟩ = some (.int .i64 (x : Int)) := cell_of_block hblk5 rfl
                have r1 : w5.cell? ⟨wr.heap.size, 1, none⟩ = some (.int .i64 (y : Int)) := cell_of_block hblk5 rfl
                have HB5 := hide hblk5
                clear hk5 hblk5 HO1 HDR g0 g1 t0 t1 hX HBLK HSZ
                by_cases hd : Br.dr T (x, y) ev s = 0
                · have HN : Hid (Br.rs was ev s t (PS.take (j + 1)) = T) := hide (by rw [HSN.out]; unfold Br.one; rw [if_pos hd])
                  rw [hd]
                  clear HSN hd
                  go_wp2
                  go_roundw
                  case rel => exact ⟨j + 1, by go_num, by omega, by rw [HN.out]; exact HO5⟩
                  case measure => simp [intOf]; omega
                · have HN : Hid (Br.rs was ev s t (PS.take (j + 1)) = Br.give was (Br.give was T (Br.dr T (x, y) ev s) x) (Br.dr T (x, y) ev s) y) := hide (by rw [HSN.out]; unfold Br.one; rw [if_neg hd]; rfl)
                  generalize Br.dr T (x, y) ev s = dd at *
                  have hdb : (dd != 0) = true := bne_iff_ne.2 hd
                  have HG1 := hide (give_any w1.heap.size k k T was a1 c1 x dd w1 w5 HO5.out (H1.out.below HB1.out) (by omega) (by omega))
                  have HG2 := hide (fun T' W' hO => give_any w1.heap.size k k T' was a1 c1 y dd w1 W' hO (H1.out.below HB1.out) (by omega) (by omega))
                  clear HSN hd HO5
                  go_wp2_with fail
                  refine HG1.out.mono ?_
                  rintro e w6 ⟨rfl, hO6, hu6⟩
                  have r2 : w6.cell? ⟨wr.heap.size, 1, none⟩ = some (.int .i64 (y : Int)) := cell_of_block ((hu6 _ (by have := HGL.out; omega)).trans HB5.out) rfl
                  have HO6 := hide hO6
                  clear r0 r1 hO6 hu6 HG1
                  go_wp2_with fail
                  refine (HG2.out _ _ HO6.out).mono ?_
                  rintro e w7 ⟨rfl, hO7, _⟩
                  have HO7 := hide hO7
                  clear hO7 r2 HG2 HO6
                  go_wp2
                  go_roundw
                  case rel => exact ⟨j + 1, by go_num, by omega, by rw [HN.out]; exact HO7⟩
                  case measure => simp [intOf]; omega
              · obtain rfl : j = pn := by omega
                have hne2 : ¬ ((j : Int) < (j : Int)) := by omega
                rw [HTA.out] at HJ
                have HLN : Hid (k = (Br.rs was ev s t PS).length) := hide (by rw [Br.rs_len, HL.out])
                go_wp2
                go_ret2
                rw [HR.out]
                have hr := HJ.out.row
                refine ⟨some ⟨w1.heap.size, 0, none⟩, k, ?_, ?_, KO.on HB1.out HJ.out.bel⟩
                · simp only [← HLN.out]; rfl
                · simp only [← HLN.out]; exact hr
    · have HR := hide (Br.RA_arg (l := l) (was := was) (t := t) (lv := lv) (s := s) (fun h => hN (by have := h.1; omega)))
      have HP := hide (pairs_bad a0 a2 n0 n1 c0 c2 w hN (by omega) (by omega))
      clear h0 h1 h2 hf hm hN
      rcases hs with rfl | rfl
      all_goals
        go_enter Tryz.func106, Tryz.ntmps106
        go_wp2_with fail
        refine HP.out.mono ?_
        rintro e w1 ⟨rfl, rfl⟩
        go_wp2
        go_ret2
        exact R10.err HR.out (KO.refl _)
  · have HR := hide (Br.RA_arg (l := l) (was := was) (t := t) (lv := lv) (s := s) (fun h => hA ⟨by have := h.1; omega, h.2⟩))
    have hc : (¬ n1 = n2) ∨ (n1 = n2 ∧ lv < 0) ∨ (n1 = n2 ∧ ¬ lv < 0 ∧ 126 < lv) ∨ (n1 = n2 ∧ ¬ lv < 0 ∧ ¬ 126 < lv ∧ ¬ s = 1 ∧ ¬ s = 2) := by omega
    clear h0 h1 h2 hf hm hA e0 e1 e2
    rcases hc with q1 | ⟨rfl, q1⟩ | ⟨rfl, q1, q2⟩ | ⟨rfl, q1, q2, q3, q4⟩
    · have qn : ((n1 : Int) != (n2 : Int)) = true := bne_iff_ne.2 (by omega)
      go_enter Tryz.func106, Tryz.ntmps106
      go_wp2
      go_ret2
      exact R10.err HR.out (KO.refl _)
    rotate_left 2
    · have q3b : (s != 1) = true := bne_iff_ne.2 q3
      have q4b : (s != 2) = true := bne_iff_ne.2 q4
      go_enter Tryz.func106, Tryz.ntmps106
      go_wp2
      go_ret2
      exact R10.err HR.out (KO.refl _)
    all_goals
      go_enter Tryz.func106, Tryz.ntmps106
      go_wp2
      go_ret2
      exact R10.err HR.out (KO.refl _)
end Go.Proofs.YtfadjgaledddjaaGreatDoor
